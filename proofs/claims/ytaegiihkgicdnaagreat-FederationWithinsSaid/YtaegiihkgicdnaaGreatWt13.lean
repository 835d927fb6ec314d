/- A part. -/
import Derived.Test.YtaegiihkgicdnaaGreatWt11
import Derived.Test.YtaegiihkgicdnaaGreatWt8
import Derived.Test.YtaegiihkgicdnaaGreatWt12
import Derived.Shelf.Bits.Mul64

namespace Go.Proofs.YtaegiihkgicdnaaGreat
open Go.RowKit

theorem zres_over {w W w4 : World} {N : Int} {l : List Int} {g c x : Nat} (hb : Below w.heap.size w W) (h : Below W.heap.size W w4) (hO : Own w4 g c l) (hg : W.heap.size ≤ g) (hx : w.heap.size ≤ x) (hlt : x < W.heap.size) (u v : Value) :
    ZRes w N l 0 (.returned (.tuple #[.agg #[.int .i64 N, .slice (some ⟨g, 0, none⟩) l.length c], .int .i64 0])) ((w4.setCell ⟨x, 0, none⟩ u).setCell ⟨x, 1, none⟩ v) :=
  ⟨((below_on hb h).setCell hx _).setCell hx _, Or.inl ⟨rfl, g, c, rfl, by have := hb.size; omega, put_far hO (by omega) _ _⟩⟩

theorem zres_over0 {w W w4 : World} {N : Int} {l : List Int} {er : Int} {x : Nat} (hb : Below w.heap.size w W) (h : Below W.heap.size W w4) (he : er ≠ 0) (hx : w.heap.size ≤ x) (u v : Value) :
    ZRes w N l er (.returned (.tuple #[.agg #[.int .i64 0, .slice none 0 0], .int .i64 er])) ((w4.setCell ⟨x, 0, none⟩ u).setCell ⟨x, 1, none⟩ v) :=
  ⟨((below_on hb h).setCell hx _).setCell hx _, Or.inr ⟨he, rfl⟩⟩

set_option maxRecDepth 100000 in
set_option maxHeartbeats 4000000 in
theorem zup_gen (N : Int) (l : List Int) (ao : Option Addr) (cap : Nat) (w : World) (hA : Arg w ao l) :
    Calls Tryz.prog 62 #[.agg #[.int .i64 N, .slice ao l.length cap]] w (ZRes w N (Zo.clo N.toNat (upL N.toNat l)) (upE N l)) := by
  have CH := Lib.hid (show ∀ W, Below w.heap.size w W → _ from fun W h => ch_up N l ao cap W (hA.on h))
  generalize Zo.clo N.toNat (upL N.toNat l) = r at *
  generalize upE N l = er at *
  generalize l.length = len at *
  obtain ⟨w0, hw0⟩ : ∃ w0, w0 = (w.alloc (.cells #[.int .i64 N, .slice ao len cap] 36)).alloc (.cells #[.int .i64 0, .slice none 0 0] 36) := ⟨_, rfl⟩
  have bx : Two w0 w.heap.size (.int .i64 N) (.slice ao len cap) := by rw [hw0]; exact (Two.made _ _ _ _).alloc _
  have rs : Two w0 (w.heap.size + 1) (.int .i64 0) (.slice none 0 0) := by
    rw [hw0]
    have := Two.made (w.alloc (.cells #[.int .i64 N, .slice ao len cap] 36)) (.int .i64 0) (.slice none 0 0) 36
    simpa using this
  have E0 := Lib.hid (show Below w.heap.size w w0 by rw [hw0]; exact past_two (Below.refl _ _))
  clear hA
  go_enter Tryz.func62, Tryz.ntmps62
  go_wp2_with fail
  rw [← hw0]
  clear hw0
  obtain ⟨b0, b1, b2, b3⟩ := bx.facts
  go_wp2_with fail
  clear b0 b1 b2 b3
  refine (CH.out _ E0.out).mono ?_
  intro e w4 hG
  obtain ⟨hb4, hres⟩ := hG
  obtain ⟨q0, q1, q2, q3⟩ := (rs.kept hb4).facts
  have HB4 := Lib.hid hb4
  have hlt := rs.lt
  rcases hres with ⟨he, g, c, rfl, hgl, hO⟩ | ⟨he, rfl⟩
  · have HO := Lib.hid hO
    subst he
    clear hO hb4
    go_wp2_with fail
    refine bodyPost_ret (v := .tuple #[.agg #[.int .i64 N, .slice (some ⟨g, 0, none⟩) r.length c], .int .i64 0]) (by simp [results, Tryz.results62, go_sem, q0, q1]) rfl (zres_over E0.out HB4.out HO.out hgl (by omega) hlt _ _)
  · have HEE := Lib.hid he
    clear he hb4
    go_wp2_with fail
    refine bodyPost_ret (v := .tuple #[.agg #[.int .i64 0, .slice none 0 0], .int .i64 er]) (by simp [results, Tryz.results62, go_sem, q0, q1]) rfl (zres_over0 E0.out HB4.out HEE.out (by omega) _ _)

set_option maxRecDepth 100000 in
set_option maxHeartbeats 4000000 in
theorem zdn_gen (N : Int) (l : List Int) (ao : Option Addr) (cap : Nat) (w : World) (hA : Arg w ao l) :
    Calls Tryz.prog 65 #[.agg #[.int .i64 N, .slice ao l.length cap]] w (ZRes w N (Zo.clo N.toNat (dnL N.toNat l)) (dnE N l)) := by
  have CH := Lib.hid (show ∀ W, Below w.heap.size w W → _ from fun W h => ch_dn N l ao cap W (hA.on h))
  generalize Zo.clo N.toNat (dnL N.toNat l) = r at *
  generalize dnE N l = er at *
  generalize l.length = len at *
  obtain ⟨w0, hw0⟩ : ∃ w0, w0 = (w.alloc (.cells #[.int .i64 N, .slice ao len cap] 36)).alloc (.cells #[.int .i64 0, .slice none 0 0] 36) := ⟨_, rfl⟩
  have bx : Two w0 w.heap.size (.int .i64 N) (.slice ao len cap) := by rw [hw0]; exact (Two.made _ _ _ _).alloc _
  have rs : Two w0 (w.heap.size + 1) (.int .i64 0) (.slice none 0 0) := by
    rw [hw0]
    have := Two.made (w.alloc (.cells #[.int .i64 N, .slice ao len cap] 36)) (.int .i64 0) (.slice none 0 0) 36
    simpa using this
  have E0 := Lib.hid (show Below w.heap.size w w0 by rw [hw0]; exact past_two (Below.refl _ _))
  clear hA
  go_enter Tryz.func65, Tryz.ntmps65
  go_wp2_with fail
  rw [← hw0]
  clear hw0
  obtain ⟨b0, b1, b2, b3⟩ := bx.facts
  go_wp2_with fail
  clear b0 b1 b2 b3
  refine (CH.out _ E0.out).mono ?_
  intro e w4 hG
  obtain ⟨hb4, hres⟩ := hG
  obtain ⟨q0, q1, q2, q3⟩ := (rs.kept hb4).facts
  have HB4 := Lib.hid hb4
  have hlt := rs.lt
  rcases hres with ⟨he, g, c, rfl, hgl, hO⟩ | ⟨he, rfl⟩
  · have HO := Lib.hid hO
    subst he
    clear hO hb4
    go_wp2_with fail
    refine bodyPost_ret (v := .tuple #[.agg #[.int .i64 N, .slice (some ⟨g, 0, none⟩) r.length c], .int .i64 0]) (by simp [results, Tryz.results65, go_sem, q0, q1]) rfl (zres_over E0.out HB4.out HO.out hgl (by omega) hlt _ _)
  · have HEE := Lib.hid he
    clear he hb4
    go_wp2_with fail
    refine bodyPost_ret (v := .tuple #[.agg #[.int .i64 0, .slice none 0 0], .int .i64 er]) (by simp [results, Tryz.results65, go_sem, q0, q1]) rfl (zres_over0 E0.out HB4.out HEE.out (by omega) _ _)
end Go.Proofs.YtaegiihkgicdnaaGreat

namespace Go.Proofs.YtaegiihkgicdnaaGreat
open Go.RowKit

def smB (N M : Int) (l m : List Int) : Bool := decide (N = M) && decide (l = m)

theorem smB_no1 {N M : Int} {l m : List Int} (h : N ≠ M) : smB N M l m = false := by simp [smB, h]

theorem smB_no2 {N M : Int} {l m : List Int} (h : l.length ≠ m.length) : smB N M l m = false := by
  have : l ≠ m := fun e => h (by rw [e])
  simp [smB, this]

theorem smB_no3 {N M : Int} {l m : List Int} {k : Nat} (h : Zo.gt l k ≠ Zo.gt m k) : smB N M l m = false := by
  have : l ≠ m := fun e => h (by rw [e])
  simp [smB, this]

theorem smB_yes {N M : Int} {l m : List Int} (h : N = M) (hl : l.length = m.length) (hk : ∀ k, k < l.length → Zo.gt l k = Zo.gt m k) : smB N M l m = true := by
  have : l = m := List.ext_getElem hl fun k h1 h2 => by
    have := hk k h1
    simpa [Zo.gt, h1, h2] using this
  simp [smB, h, this]

set_option maxHeartbeats 1600000 in
theorem same_any (N M : Int) (l m : List Int) (ao bo : Option Addr) (ca cb : Nat) (w : World) (hA : Arg w ao l) (hB : Arg w bo m) (ll : l.length ≤ 9223372036854775807) :
    Calls Tryz.prog 37 #[.agg #[.int .i64 N, .slice ao l.length ca], .agg #[.int .i64 M, .slice bo m.length cb]] w (Made (.bool (smB N M l m)) w) := by
  obtain ⟨len, hlen⟩ : ∃ len, len = l.length := ⟨_, rfl⟩
  obtain ⟨mlen, hmlen⟩ : ∃ mlen, mlen = m.length := ⟨_, rfl⟩
  obtain ⟨w0, hw0⟩ : ∃ w0, w0 = (w.alloc (.cells #[.int .i64 N, .slice ao len ca] 36)).alloc (.cells #[.int .i64 M, .slice bo mlen cb] 36) := ⟨_, rfl⟩
  have bx : Two w0 w.heap.size (.int .i64 N) (.slice ao len ca) := by rw [hw0]; exact (Two.made _ _ _ _).alloc _
  have by' : Two w0 (w.heap.size + 1) (.int .i64 M) (.slice bo mlen cb) := by
    rw [hw0]
    have := Two.made (w.alloc (.cells #[.int .i64 N, .slice ao len ca] 36)) (.int .i64 M) (.slice bo mlen cb) 36
    simpa using this
  have e0 : Below w.heap.size w w0 := by rw [hw0]; exact past_two (Below.refl _ _)
  have lb : (len : Int) ≤ 9223372036854775807 := by omega
  have HA := Lib.hid (hA.on e0)
  have HB := Lib.hid (hB.on e0)
  have HL := Lib.hid hlen
  have HM := Lib.hid hmlen
  have E0 := Lib.hid e0
  rw [← hlen, ← hmlen]
  clear hA hB hlen hmlen e0 ll
  by_cases hN : N = M
  · have N0 : (N != M) = false := by simpa using hN
    by_cases hS : len = mlen
    · have HS := Lib.hid hS
      have S0 : ((len : Int) != (mlen : Int)) = false := by simp; omega
      have HN := Lib.hid hN
      clear hN hS
      go_enter Tryz.func37, Tryz.ntmps37
      go_wp2_with fail
      rw [← hw0]
      clear hw0
      obtain ⟨b0, b1, b2, b3⟩ := bx.facts
      obtain ⟨c0, c1, c2, c3⟩ := by'.facts
      go_wp2_with fail
      try (go_quiet (fail); go_wp2_with fail)
      clear b0 b1 b2 b3 c0 c1 c2 c3
      go_loopw [5] (fun s wr => ∃ t : Nat, t ≤ len ∧ s = .int .i64 t ∧ Hid (∀ k, k < t → Zo.gt l k = Zo.gt m k) ∧ Hid (Below w0.heap.size w0 wr)) (fun s _ => len - (intOf s).toNat)
      case atStart => exact ⟨0, by omega, rfl, Lib.hid (fun k hk => by omega), Lib.hid (by first | exact Below.refl _ _ | exact below_drewN (Below.refl _ _) _)⟩
      case round =>
        obtain ⟨t, ht, rfl, HK, HBw⟩ := hrel
        obtain ⟨b0, b1, b2, b3⟩ := (bx.kept HBw.out).facts
        obtain ⟨c0, c1, c2, c3⟩ := (by'.kept HBw.out).facts
        by_cases htn : t < len
        · obtain ⟨a, hao, hR⟩ := HA.out (fun e => by have := HL.out; rw [e] at this; simp at this; omega)
          obtain ⟨b, hbo, hQ⟩ := HB.out (fun e => by have := HM.out; have := HS.out; rw [e] at *; simp at *; omega)
          subst hao hbo
          have d1 := kept HBw.out (hR t (by rw [← HL.out]; exact htn))
          have d2 := kept HBw.out (hQ t (by rw [← HM.out, ← HS.out]; exact htn))
          have t2 : (t : Int) < (mlen : Int) := by have := HS.out; omega
          obtain ⟨x, hx⟩ : ∃ x, x = Zo.gt l t := ⟨_, rfl⟩
          obtain ⟨y, hy⟩ : ∃ y, y = Zo.gt m t := ⟨_, rfl⟩
          rw [← hx] at d1
          rw [← hy] at d2
          have HXE := Lib.hid hx
          have HYE := Lib.hid hy
          clear hx hy hR hQ
          by_cases hxy : x = y
          · have D : (x != y) = false := by simpa using hxy
            have HXY := Lib.hid hxy
            clear hxy
            go_wp2_with fail
            go_quiet (fail)
            clear b0 b1 b2 b3 c0 c1 c2 c3 d1 d2
            go_wp2_with fail
            go_roundw
            case rel =>
              refine ⟨t + 1, by omega, by go_num, Lib.hid (fun k hk => ?_), Lib.hid (below_drewN HBw.out _)⟩
              by_cases e : k = t
              · rw [e, ← HXE.out, ← HYE.out]; exact HXY.out
              · exact HK.out k (by omega)
            case measure => simp [intOf]; omega
          · have D : (x != y) = true := by simpa using hxy
            have HE := Lib.hid (smB_no3 (N := N) (M := M) (l := l) (m := m) (k := t) (by rw [← HXE.out, ← HYE.out]; exact hxy))
            clear hxy
            go_wp2_with fail
            go_quiet (fail)
            clear b0 b1 b2 b3 c0 c1 c2 c3 d1 d2
            go_wp2_with fail
            go_ret
            exact ⟨ret_bool HE.out.symm, below_drewN (below_on E0.out HBw.out) _⟩
        · have HE := Lib.hid (smB_yes (l := l) (m := m) HN.out (by rw [← HL.out, ← HM.out]; exact HS.out) (fun k hk => HK.out k (by rw [← HL.out] at hk; omega)))
          go_wp2_with fail
          go_ret
          exact ⟨ret_bool HE.out.symm, below_on E0.out HBw.out⟩
    · have HE := Lib.hid (smB_no2 (N := N) (M := M) (l := l) (m := m) (by rw [← HL.out, ← HM.out]; exact hS))
      have S0 : ((len : Int) != (mlen : Int)) = true := by simp; omega
      clear hN
      go_enter Tryz.func37, Tryz.ntmps37
      go_wp2_with fail
      rw [← hw0]
      clear hw0
      obtain ⟨b0, b1, b2, b3⟩ := bx.facts
      obtain ⟨c0, c1, c2, c3⟩ := by'.facts
      go_wp2_with fail
      try (go_quiet (fail); go_wp2_with fail)
      go_ret
      exact ⟨ret_bool HE.out.symm, by first | exact E0.out | exact below_drewN E0.out _⟩
  · have HE := Lib.hid (smB_no1 (l := l) (m := m) hN)
    have N0 : (N != M) = true := by simpa using hN
    clear hN
    go_enter Tryz.func37, Tryz.ntmps37
    go_wp2_with fail
    rw [← hw0]
    clear hw0
    obtain ⟨b0, b1, b2, b3⟩ := bx.facts
    obtain ⟨c0, c1, c2, c3⟩ := by'.facts
    go_wp2_with fail
    try (go_quiet (fail); go_wp2_with fail)
    go_ret
    exact ⟨ret_bool HE.out.symm, by first | exact E0.out | exact below_drewN E0.out _⟩
end Go.Proofs.YtaegiihkgicdnaaGreat

namespace Go.Proofs.YtaegiihkgicdnaaGreat
open Go.RowKit

set_option maxHeartbeats 400000 in
theorem an_bad (N : Int) (l : List Int) (ao : Option Addr) (cap : Nat) (dao : Option Addr) (dl dc : Nat) (w : World) (hA : Arg w ao l) (hc : chkE N l = 2) :
    Calls Tryz.prog 101 #[.agg #[.int .i64 N, .slice ao l.length cap], .slice dao dl dc] w (ZRes w 0 [] 2) := by
  have CK := Lib.hid fun W (h : Below w.heap.size w W) => check_as (cap := cap) W (hA.on h) hc
  generalize l.length = len at *
  obtain ⟨w0, hw0⟩ : ∃ w0, w0 = (w.alloc (.cells #[.int .i64 N, .slice ao len cap] 36)).alloc (.cells #[.int .i64 0, .slice none 0 0] 36) := ⟨_, rfl⟩
  have bx : Two w0 w.heap.size (.int .i64 N) (.slice ao len cap) := by rw [hw0]; exact (Two.made _ _ _ _).alloc _
  have rs : Two w0 (w.heap.size + 1) (.int .i64 0) (.slice none 0 0) := by
    rw [hw0]
    have := Two.made (w.alloc (.cells #[.int .i64 N, .slice ao len cap] 36)) (.int .i64 0) (.slice none 0 0) 36
    simpa using this
  have e0 : Below w.heap.size w w0 := by rw [hw0]; exact past_two (Below.refl _ _)
  have E0 := Lib.hid e0
  clear e0 hA hc
  go_enter Tryz.func101, Tryz.ntmps101
  go_wp2_with fail
  rw [← hw0]
  clear hw0
  obtain ⟨b0, b1, b2, b3⟩ := bx.facts
  go_wp2_with fail
  refine (CK.out _ E0.out).mono ?_
  rintro e w1 ⟨rfl, hb1⟩
  clear b0 b1 b2 b3
  replace rs := rs.kept hb1
  replace E0 := Lib.hid (below_on E0.out hb1)
  clear hb1 bx
  obtain ⟨b0, b1, b2, b3⟩ := rs.facts
  go_wp2_with fail
  refine bodyPost_ret (v := .tuple #[.agg #[.int .i64 0, .slice none 0 0], .int .i64 2]) (by simp [results, Tryz.results101, go_sem, b0, b1]) rfl (zres_bad ?_)
  exact (E0.out.setCell (by show w.heap.size ≤ w.heap.size + 1; omega) _).setCell (by show w.heap.size ≤ w.heap.size + 1; omega) _

def Arg3 (w : World) (dao : Option Addr) (cs : List Con) : Prop := cs ≠ [] → ∃ d, dao = some d ∧ Rd3 w d cs

theorem Arg3.on {w w' : World} {ao : Option Addr} {l : List Con} (h : Arg3 w ao l) (hb : Below w.heap.size w w') : Arg3 w' ao l := fun hl => by
  obtain ⟨a, h1, h2⟩ := h hl
  exact ⟨a, h1, h2.on hb⟩

def anG (N : Int) (cs : List Con) (l : List Int) : Int := if chkE N l = 0 then anE N.toNat cs l else 2

theorem an_gen (N : Int) (l : List Int) (ao : Option Addr) (cap : Nat) (cs : List Con) (dao : Option Addr) (dc : Nat) (w : World) (hA : Arg w ao l) (hD : Arg3 w dao cs) (hdl : cs.length ≤ 1000) :
    Calls Tryz.prog 101 #[.agg #[.int .i64 N, .slice ao l.length cap], .slice dao cs.length dc] w (ZRes w N (Zo.clo N.toNat (anL N.toNat cs l)) (anG N cs l)) := by
  by_cases hc : chkE N l = 0
  · obtain ⟨n, rfl, hn, hl, hne⟩ := chk_ok hc
    obtain ⟨a, rfl, hR⟩ := hA hne
    rw [show anG (n : Int) cs l = anE n cs l by unfold anG; rw [if_pos hc]; rfl]
    by_cases he : cs = []
    · exact an_any n l a cap cs dao a dc w hn hl hR hc (by rw [he]; intro j hj; simp at hj) hdl (fun h => absurd he h)
    · obtain ⟨d, rfl, hd⟩ := hD he
      exact an_any n l a cap cs (some d) d dc w hn hl hR hc hd hdl (fun _ => rfl)
  · exact (an_bad N l ao cap dao cs.length dc w hA (chk_two hc)).mono fun e w' h => h.bad (by unfold anG; rw [if_neg hc])

end Go.Proofs.YtaegiihkgicdnaaGreat

namespace Go.Proofs.YtaegiihkgicdnaaGreat
open Go.RowKit

theorem ZRes.ok {w : World} {N : Int} {l : List Int} {er : Int} {e : Ending} {w' : World} (h : ZRes w N l er e w') (he : er = 0) : ∃ g c, e = .returned (.tuple #[.agg #[.int .i64 N, .slice (some ⟨g, 0, none⟩) l.length c], .int .i64 0]) ∧ w.heap.size ≤ g ∧ Own w' g c l ∧ Below w.heap.size w w' := by
  rcases h.2 with ⟨_, g, c, h1, h2, h3⟩ | ⟨h1, _⟩
  · exact ⟨g, c, h1, h2, h3, h.1⟩
  · exact absurd he h1

theorem ZRes.no {w : World} {N : Int} {l : List Int} {er : Int} {e : Ending} {w' : World} (h : ZRes w N l er e w') (he : er ≠ 0) : e = .returned (.tuple #[.agg #[.int .i64 0, .slice none 0 0], .int .i64 er]) ∧ Below w.heap.size w w' := by
  rcases h.2 with ⟨h1, _⟩ | ⟨_, h1⟩
  · exact absurd h1 he
  · exact ⟨h1, h.1⟩

end Go.Proofs.YtaegiihkgicdnaaGreat

namespace Go.Proofs.YtaegiihkgicdnaaGreat
open Go.RowKit

end Go.Proofs.YtaegiihkgicdnaaGreat

namespace Go.Proofs.YtaegiihkgicdnaaGreat
open Go.RowKit

end Go.Proofs.YtaegiihkgicdnaaGreat

namespace Go.Proofs.YtaegiihkgicdnaaGreat
open Go.RowKit

end Go.Proofs.YtaegiihkgicdnaaGreat

namespace Go.Proofs.YtaegiihkgicdnaaGreat
open Go.RowKit

end Go.Proofs.YtaegiihkgicdnaaGreat

namespace Go.Proofs.YtaegiihkgicdnaaGreat
open Go.RowKit

end Go.Proofs.YtaegiihkgicdnaaGreat

namespace Go.Proofs.YtaegiihkgicdnaaGreat
open Go.RowKit

end Go.Proofs.YtaegiihkgicdnaaGreat

namespace Go.Proofs.YtaegiihkgicdnaaGreat
open Go.RowKit

def twB (N M : Int) (l m : List Int) : Bool := decide (chkE N l = 0) && decide (chkE M m = 0) && decide (N = M)

theorem two_boxes (w : World) (u v x y : Value) (t : TypeId) : Two ((w.alloc (.cells #[u, v] t)).alloc (.cells #[x, y] t)) w.heap.size u v ∧ Two ((w.alloc (.cells #[u, v] t)).alloc (.cells #[x, y] t)) (w.heap.size + 1) x y := by
  refine ⟨(Two.made _ _ _ _).alloc _, ?_⟩
  have := Two.made (w.alloc (.cells #[u, v] t)) x y t
  simpa using this

set_option maxHeartbeats 800000 in
theorem two_any (N M : Int) (l m : List Int) (ao bo : Option Addr) (ca cb : Nat) (w : World) (hA : Arg w ao l) (hB : Arg w bo m) :
    Calls Tryz.prog 92 #[.agg #[.int .i64 N, .slice ao l.length ca], .agg #[.int .i64 M, .slice bo m.length cb]] w (Made (.bool (twB N M l m)) w) := by
  obtain ⟨e1, he1⟩ : ∃ e, e = chkE N l := ⟨_, rfl⟩
  obtain ⟨e2, he2⟩ : ∃ e, e = chkE M m := ⟨_, rfl⟩
  have CA := Lib.hid fun W (h : Below w.heap.size w W) => check_as (cap := ca) W (hA.on h) he1.symm
  have CB := Lib.hid fun W (h : Below w.heap.size w W) => check_as (cap := cb) W (hB.on h) he2.symm
  have HT := Lib.hid (show twB N M l m = (decide (e1 = 0) && decide (e2 = 0) && decide (N = M)) by rw [he1, he2]; rfl)
  clear hA hB he1 he2
  generalize l.length = len at *
  generalize m.length = mlen at *
  generalize twB N M l m = tb at *
  obtain ⟨w0, hw0⟩ : ∃ w0, w0 = (w.alloc (.cells #[.int .i64 N, .slice ao len ca] 36)).alloc (.cells #[.int .i64 M, .slice bo mlen cb] 36) := ⟨_, rfl⟩
  obtain ⟨bx, by'⟩ := two_boxes w (.int .i64 N) (.slice ao len ca) (.int .i64 M) (.slice bo mlen cb) 36
  rw [← hw0] at bx by'
  have E0 := Lib.hid (show Below w.heap.size w w0 by rw [hw0]; exact past_two (Below.refl _ _))
  have HW0 := Lib.hid hw0
  clear hw0
  by_cases c1 : e1 = 0
  · by_cases c2 : e2 = 0
    · by_cases c3 : N = M
      · have HE := Lib.hid (show tb = true by rw [HT.out]; simp [c1, c2, c3])
        have B1 : (e1 == 0) = true := by simpa using c1
        have B2 : (e2 == 0) = true := by simpa using c2
        have B3 : (N == M) = true := by simpa using c3
        clear c1 c2 c3 HT
        go_enter Tryz.func92, Tryz.ntmps92
        go_wp2_with fail
        rw [← HW0.out]
        obtain ⟨b0, b1, b2, b3⟩ := bx.facts
        go_wp2_with fail
        refine (CA.out _ E0.out).mono ?_
        rintro e w1 ⟨rfl, hb1⟩
        clear b0 b1 b2 b3
        replace bx := bx.kept hb1
        replace by' := by'.kept hb1
        replace E0 := Lib.hid (below_on E0.out hb1)
        clear hb1
        obtain ⟨b0, b1, b2, b3⟩ := bx.facts
        obtain ⟨d0, d1, d2, d3⟩ := by'.facts
        go_wp2_with fail
        refine (CB.out _ E0.out).mono ?_
        rintro e w2 ⟨rfl, hb2⟩
        clear b0 b1 b2 b3 d0 d1 d2 d3
        replace bx := bx.kept hb2
        replace by' := by'.kept hb2
        replace E0 := Lib.hid (below_on E0.out hb2)
        clear hb2
        obtain ⟨b0, b1, b2, b3⟩ := bx.facts
        obtain ⟨d0, d1, d2, d3⟩ := by'.facts
        go_wp2_with fail
        try (go_quiet (fail); go_wp2_with fail)
        go_ret
        exact ⟨ret_bool HE.out.symm, by first | exact E0.out | exact below_drewN E0.out _⟩
      · have HE := Lib.hid (show tb = false by rw [HT.out]; simp [c3])
        have B1 : (e1 == 0) = true := by simpa using c1
        have B2 : (e2 == 0) = true := by simpa using c2
        have B3 : (N == M) = false := by simpa using c3
        clear c1 c2 c3 HT
        go_enter Tryz.func92, Tryz.ntmps92
        go_wp2_with fail
        rw [← HW0.out]
        obtain ⟨b0, b1, b2, b3⟩ := bx.facts
        go_wp2_with fail
        refine (CA.out _ E0.out).mono ?_
        rintro e w1 ⟨rfl, hb1⟩
        clear b0 b1 b2 b3
        replace bx := bx.kept hb1
        replace by' := by'.kept hb1
        replace E0 := Lib.hid (below_on E0.out hb1)
        clear hb1
        obtain ⟨b0, b1, b2, b3⟩ := bx.facts
        obtain ⟨d0, d1, d2, d3⟩ := by'.facts
        go_wp2_with fail
        refine (CB.out _ E0.out).mono ?_
        rintro e w2 ⟨rfl, hb2⟩
        clear b0 b1 b2 b3 d0 d1 d2 d3
        replace bx := bx.kept hb2
        replace by' := by'.kept hb2
        replace E0 := Lib.hid (below_on E0.out hb2)
        clear hb2
        obtain ⟨b0, b1, b2, b3⟩ := bx.facts
        obtain ⟨d0, d1, d2, d3⟩ := by'.facts
        go_wp2_with fail
        try (go_quiet (fail); go_wp2_with fail)
        go_ret
        exact ⟨ret_bool HE.out.symm, by first | exact E0.out | exact below_drewN E0.out _⟩
    · have HE := Lib.hid (show tb = false by rw [HT.out]; simp [c2])
      have B1 : (e1 == 0) = true := by simpa using c1
      have B2 : (e2 == 0) = false := by simpa using c2
      clear c1 c2 HT
      go_enter Tryz.func92, Tryz.ntmps92
      go_wp2_with fail
      rw [← HW0.out]
      obtain ⟨b0, b1, b2, b3⟩ := bx.facts
      go_wp2_with fail
      refine (CA.out _ E0.out).mono ?_
      rintro e w1 ⟨rfl, hb1⟩
      clear b0 b1 b2 b3
      replace bx := bx.kept hb1
      replace by' := by'.kept hb1
      replace E0 := Lib.hid (below_on E0.out hb1)
      clear hb1
      obtain ⟨b0, b1, b2, b3⟩ := bx.facts
      obtain ⟨d0, d1, d2, d3⟩ := by'.facts
      go_wp2_with fail
      refine (CB.out _ E0.out).mono ?_
      rintro e w2 ⟨rfl, hb2⟩
      clear b0 b1 b2 b3 d0 d1 d2 d3
      replace bx := bx.kept hb2
      replace by' := by'.kept hb2
      replace E0 := Lib.hid (below_on E0.out hb2)
      clear hb2
      obtain ⟨b0, b1, b2, b3⟩ := bx.facts
      obtain ⟨d0, d1, d2, d3⟩ := by'.facts
      go_wp2_with fail
      try (go_quiet (fail); go_wp2_with fail)
      go_ret
      exact ⟨ret_bool HE.out.symm, by first | exact E0.out | exact below_drewN E0.out _⟩
  · have HE := Lib.hid (show tb = false by rw [HT.out]; simp [c1])
    have B1 : (e1 == 0) = false := by simpa using c1
    clear c1 HT
    go_enter Tryz.func92, Tryz.ntmps92
    go_wp2_with fail
    rw [← HW0.out]
    obtain ⟨b0, b1, b2, b3⟩ := bx.facts
    go_wp2_with fail
    refine (CA.out _ E0.out).mono ?_
    rintro e w1 ⟨rfl, hb1⟩
    clear b0 b1 b2 b3
    replace bx := bx.kept hb1
    replace by' := by'.kept hb1
    replace E0 := Lib.hid (below_on E0.out hb1)
    clear hb1
    obtain ⟨b0, b1, b2, b3⟩ := bx.facts
    obtain ⟨d0, d1, d2, d3⟩ := by'.facts
    go_wp2_with fail
    try (go_quiet (fail); go_wp2_with fail)
    go_ret
    exact ⟨ret_bool HE.out.symm, by first | exact E0.out | exact below_drewN E0.out _⟩

theorem tw_no {N M : Int} {l m : List Int} (h : twB N M l m = false) : ¬ (chkE N l = 0 ∧ chkE M m = 0 ∧ N = M) := by
  rintro ⟨a, b, c⟩
  subst c
  simp [twB, a, b] at h

theorem tw_yes {N M : Int} {l m : List Int} (h : twB N M l m = true) : chkE N l = 0 ∧ chkE M m = 0 ∧ N = M := by
  unfold twB at h; simp at h; exact ⟨h.1.1, h.1.2, h.2⟩

def inB (l m : List Int) : Bool := (List.range l.length).all fun k => decide (Zo.gt m k ≤ Zo.gt l k)

def inR (N M : Int) (l m : List Int) : Bool := twB N M l m && inB l m

def inE (N M : Int) (l m : List Int) : Int := if twB N M l m then 0 else 2

end Go.Proofs.YtaegiihkgicdnaaGreat
