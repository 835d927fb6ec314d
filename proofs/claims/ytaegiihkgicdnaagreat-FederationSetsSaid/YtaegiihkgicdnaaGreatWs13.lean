/- Contracts of layer 3's Up and Down.; Contracts of And of any zone, and of is and Constant, of layer 3's reference.; The contract of Reset of layer 3's reference.; The contract of layer 3's Free.; Contracts for layer 3's And: which constraints are wrong.; The contract of layer 3's Close.; Contracts of Zero and All of layer 3's reference.; Contracts of slices.Repeat at one limit, and layer 3's Zero and All.; Contracts of layer 3's uniform, Zero and All.; Contracts of slices.Equal at limits and layer 3's Same. -/
import Derived.Test.YtaegiihkgicdnaaGreatWs11
import Derived.Test.YtaegiihkgicdnaaGreatWs12
import Derived.Test.YtaegiihkgicdnaaGreatWs10
import Derived.Test.YtaegiihkgicdnaaGreatWs6
import Derived.Shelf.Bits.Mul64

namespace Go.Proofs.YtaegiihkgicdnaaGreat
open Go.RowKit

theorem zres_over {w W w4 : World} {N : Int} {l : List Int} {g c x : Nat} (hb : Below w.heap.size w W) (h : Below W.heap.size W w4) (hO : Own w4 g c l) (hg : W.heap.size ≤ g) (hx : w.heap.size ≤ x) (hlt : x < W.heap.size) (u v : Value) :
    ZRes w N l 0 (.returned (.tuple #[.agg #[.int .i64 N, .slice (some ⟨g, 0, none⟩) l.length c], .int .i64 0])) ((w4.setCell ⟨x, 0, none⟩ u).setCell ⟨x, 1, none⟩ v) :=
  ⟨((below_on hb h).setCell hx _).setCell hx _, Or.inl ⟨rfl, g, c, rfl, by have := hb.size; omega, put_far hO (by omega) _ _⟩⟩

theorem zres_over0 {w W w4 : World} {N : Int} {l : List Int} {er : Int} {x : Nat} (hb : Below w.heap.size w W) (h : Below W.heap.size W w4) (he : er ≠ 0) (hx : w.heap.size ≤ x) (u v : Value) :
    ZRes w N l er (.returned (.tuple #[.agg #[.int .i64 0, .slice none 0 0], .int .i64 er])) ((w4.setCell ⟨x, 0, none⟩ u).setCell ⟨x, 1, none⟩ v) :=
  ⟨((below_on hb h).setCell hx _).setCell hx _, Or.inr ⟨he, rfl⟩⟩

set_option maxRecDepth 100000 in
set_option maxHeartbeats 4000000 in
theorem zup_gen (N : Int) (l : List Int) (ao : Option Addr) (cap : Nat) (w : World) (hA : Arg w ao l) :
    Calls Tryz.prog 62 #[.agg #[.int .i64 N, .slice ao l.length cap]] w (ZRes w N (Zo.clo N.toNat (upL N.toNat l)) (upE N l)) := by
  have CH := Lib.hid (show ∀ W, Below w.heap.size w W → _ from fun W h => ch_up N l ao cap W (hA.on h))
  generalize Zo.clo N.toNat (upL N.toNat l) = r at *
  generalize upE N l = er at *
  generalize l.length = len at *
  obtain ⟨w0, hw0⟩ : ∃ w0, w0 = (w.alloc (.cells #[.int .i64 N, .slice ao len cap] 36)).alloc (.cells #[.int .i64 0, .slice none 0 0] 36) := ⟨_, rfl⟩
  have bx : Two w0 w.heap.size (.int .i64 N) (.slice ao len cap) := by rw [hw0]; exact (Two.made _ _ _ _).alloc _
  have rs : Two w0 (w.heap.size + 1) (.int .i64 0) (.slice none 0 0) := by
    rw [hw0]
    have := Two.made (w.alloc (.cells #[.int .i64 N, .slice ao len cap] 36)) (.int .i64 0) (.slice none 0 0) 36
    simpa using this
  have E0 := Lib.hid (show Below w.heap.size w w0 by rw [hw0]; exact past_two (Below.refl _ _))
  clear hA
  go_enter Tryz.func62, Tryz.ntmps62
  go_wp2_with fail
  rw [← hw0]
  clear hw0
  obtain ⟨b0, b1, b2, b3⟩ := bx.facts
  go_wp2_with fail
  clear b0 b1 b2 b3
  refine (CH.out _ E0.out).mono ?_
  intro e w4 hG
  obtain ⟨hb4, hres⟩ := hG
  obtain ⟨q0, q1, q2, q3⟩ := (rs.kept hb4).facts
  have HB4 := Lib.hid hb4
  have hlt := rs.lt
  rcases hres with ⟨he, g, c, rfl, hgl, hO⟩ | ⟨he, rfl⟩
  · have HO := Lib.hid hO
    subst he
    clear hO hb4
    go_wp2_with fail
    refine bodyPost_ret (v := .tuple #[.agg #[.int .i64 N, .slice (some ⟨g, 0, none⟩) r.length c], .int .i64 0]) (by simp [results, Tryz.results62, go_sem, q0, q1]) rfl (zres_over E0.out HB4.out HO.out hgl (by omega) hlt _ _)
  · have HEE := Lib.hid he
    clear he hb4
    go_wp2_with fail
    refine bodyPost_ret (v := .tuple #[.agg #[.int .i64 0, .slice none 0 0], .int .i64 er]) (by simp [results, Tryz.results62, go_sem, q0, q1]) rfl (zres_over0 E0.out HB4.out HEE.out (by omega) _ _)

set_option maxRecDepth 100000 in
set_option maxHeartbeats 4000000 in
theorem zdn_gen (N : Int) (l : List Int) (ao : Option Addr) (cap : Nat) (w : World) (hA : Arg w ao l) :
    Calls Tryz.prog 65 #[.agg #[.int .i64 N, .slice ao l.length cap]] w (ZRes w N (Zo.clo N.toNat (dnL N.toNat l)) (dnE N l)) := by
  have CH := Lib.hid (show ∀ W, Below w.heap.size w W → _ from fun W h => ch_dn N l ao cap W (hA.on h))
  generalize Zo.clo N.toNat (dnL N.toNat l) = r at *
  generalize dnE N l = er at *
  generalize l.length = len at *
  obtain ⟨w0, hw0⟩ : ∃ w0, w0 = (w.alloc (.cells #[.int .i64 N, .slice ao len cap] 36)).alloc (.cells #[.int .i64 0, .slice none 0 0] 36) := ⟨_, rfl⟩
  have bx : Two w0 w.heap.size (.int .i64 N) (.slice ao len cap) := by rw [hw0]; exact (Two.made _ _ _ _).alloc _
  have rs : Two w0 (w.heap.size + 1) (.int .i64 0) (.slice none 0 0) := by
    rw [hw0]
    have := Two.made (w.alloc (.cells #[.int .i64 N, .slice ao len cap] 36)) (.int .i64 0) (.slice none 0 0) 36
    simpa using this
  have E0 := Lib.hid (show Below w.heap.size w w0 by rw [hw0]; exact past_two (Below.refl _ _))
  clear hA
  go_enter Tryz.func65, Tryz.ntmps65
  go_wp2_with fail
  rw [← hw0]
  clear hw0
  obtain ⟨b0, b1, b2, b3⟩ := bx.facts
  go_wp2_with fail
  clear b0 b1 b2 b3
  refine (CH.out _ E0.out).mono ?_
  intro e w4 hG
  obtain ⟨hb4, hres⟩ := hG
  obtain ⟨q0, q1, q2, q3⟩ := (rs.kept hb4).facts
  have HB4 := Lib.hid hb4
  have hlt := rs.lt
  rcases hres with ⟨he, g, c, rfl, hgl, hO⟩ | ⟨he, rfl⟩
  · have HO := Lib.hid hO
    subst he
    clear hO hb4
    go_wp2_with fail
    refine bodyPost_ret (v := .tuple #[.agg #[.int .i64 N, .slice (some ⟨g, 0, none⟩) r.length c], .int .i64 0]) (by simp [results, Tryz.results65, go_sem, q0, q1]) rfl (zres_over E0.out HB4.out HO.out hgl (by omega) hlt _ _)
  · have HEE := Lib.hid he
    clear he hb4
    go_wp2_with fail
    refine bodyPost_ret (v := .tuple #[.agg #[.int .i64 0, .slice none 0 0], .int .i64 er]) (by simp [results, Tryz.results65, go_sem, q0, q1]) rfl (zres_over0 E0.out HB4.out HEE.out (by omega) _ _)
end Go.Proofs.YtaegiihkgicdnaaGreat

namespace Go.Proofs.YtaegiihkgicdnaaGreat
open Go.RowKit

set_option maxHeartbeats 400000 in
theorem an_bad (N : Int) (l : List Int) (ao : Option Addr) (cap : Nat) (dao : Option Addr) (dl dc : Nat) (w : World) (hA : Arg w ao l) (hc : chkE N l = 2) :
    Calls Tryz.prog 101 #[.agg #[.int .i64 N, .slice ao l.length cap], .slice dao dl dc] w (ZRes w 0 [] 2) := by
  have CK := Lib.hid fun W (h : Below w.heap.size w W) => check_as (cap := cap) W (hA.on h) hc
  generalize l.length = len at *
  obtain ⟨w0, hw0⟩ : ∃ w0, w0 = (w.alloc (.cells #[.int .i64 N, .slice ao len cap] 36)).alloc (.cells #[.int .i64 0, .slice none 0 0] 36) := ⟨_, rfl⟩
  have bx : Two w0 w.heap.size (.int .i64 N) (.slice ao len cap) := by rw [hw0]; exact (Two.made _ _ _ _).alloc _
  have rs : Two w0 (w.heap.size + 1) (.int .i64 0) (.slice none 0 0) := by
    rw [hw0]
    have := Two.made (w.alloc (.cells #[.int .i64 N, .slice ao len cap] 36)) (.int .i64 0) (.slice none 0 0) 36
    simpa using this
  have e0 : Below w.heap.size w w0 := by rw [hw0]; exact past_two (Below.refl _ _)
  have E0 := Lib.hid e0
  clear e0 hA hc
  go_enter Tryz.func101, Tryz.ntmps101
  go_wp2_with fail
  rw [← hw0]
  clear hw0
  obtain ⟨b0, b1, b2, b3⟩ := bx.facts
  go_wp2_with fail
  refine (CK.out _ E0.out).mono ?_
  rintro e w1 ⟨rfl, hb1⟩
  clear b0 b1 b2 b3
  replace rs := rs.kept hb1
  replace E0 := Lib.hid (below_on E0.out hb1)
  clear hb1 bx
  obtain ⟨b0, b1, b2, b3⟩ := rs.facts
  go_wp2_with fail
  refine bodyPost_ret (v := .tuple #[.agg #[.int .i64 0, .slice none 0 0], .int .i64 2]) (by simp [results, Tryz.results101, go_sem, b0, b1]) rfl (zres_bad ?_)
  exact (E0.out.setCell (by show w.heap.size ≤ w.heap.size + 1; omega) _).setCell (by show w.heap.size ≤ w.heap.size + 1; omega) _

def Arg3 (w : World) (dao : Option Addr) (cs : List Con) : Prop := cs ≠ [] → ∃ d, dao = some d ∧ Rd3 w d cs

theorem Arg3.on {w w' : World} {ao : Option Addr} {l : List Con} (h : Arg3 w ao l) (hb : Below w.heap.size w w') : Arg3 w' ao l := fun hl => by
  obtain ⟨a, h1, h2⟩ := h hl
  exact ⟨a, h1, h2.on hb⟩

def anG (N : Int) (cs : List Con) (l : List Int) : Int := if chkE N l = 0 then anE N.toNat cs l else 2

theorem an_gen (N : Int) (l : List Int) (ao : Option Addr) (cap : Nat) (cs : List Con) (dao : Option Addr) (dc : Nat) (w : World) (hA : Arg w ao l) (hD : Arg3 w dao cs) (hdl : cs.length ≤ 1000) :
    Calls Tryz.prog 101 #[.agg #[.int .i64 N, .slice ao l.length cap], .slice dao cs.length dc] w (ZRes w N (Zo.clo N.toNat (anL N.toNat cs l)) (anG N cs l)) := by
  by_cases hc : chkE N l = 0
  · obtain ⟨n, rfl, hn, hl, hne⟩ := chk_ok hc
    obtain ⟨a, rfl, hR⟩ := hA hne
    rw [show anG (n : Int) cs l = anE n cs l by unfold anG; rw [if_pos hc]; rfl]
    by_cases he : cs = []
    · exact an_any n l a cap cs dao a dc w hn hl hR hc (by rw [he]; intro j hj; simp at hj) hdl (fun h => absurd he h)
    · obtain ⟨d, rfl, hd⟩ := hD he
      exact an_any n l a cap cs (some d) d dc w hn hl hR hc hd hdl (fun _ => rfl)
  · exact (an_bad N l ao cap dao cs.length dc w hA (chk_two hc)).mono fun e w' h => h.bad (by unfold anG; rw [if_neg hc])

end Go.Proofs.YtaegiihkgicdnaaGreat

namespace Go.Proofs.YtaegiihkgicdnaaGreat
open Go.RowKit

theorem ZRes.ok {w : World} {N : Int} {l : List Int} {er : Int} {e : Ending} {w' : World} (h : ZRes w N l er e w') (he : er = 0) : ∃ g c, e = .returned (.tuple #[.agg #[.int .i64 N, .slice (some ⟨g, 0, none⟩) l.length c], .int .i64 0]) ∧ w.heap.size ≤ g ∧ Own w' g c l ∧ Below w.heap.size w w' := by
  rcases h.2 with ⟨_, g, c, h1, h2, h3⟩ | ⟨h1, _⟩
  · exact ⟨g, c, h1, h2, h3, h.1⟩
  · exact absurd he h1

theorem ZRes.no {w : World} {N : Int} {l : List Int} {er : Int} {e : Ending} {w' : World} (h : ZRes w N l er e w') (he : er ≠ 0) : e = .returned (.tuple #[.agg #[.int .i64 0, .slice none 0 0], .int .i64 er]) ∧ Below w.heap.size w w' := by
  rcases h.2 with ⟨h1, _⟩ | ⟨_, h1⟩
  · exact absurd h1 he
  · exact ⟨h1, h.1⟩

end Go.Proofs.YtaegiihkgicdnaaGreat

namespace Go.Proofs.YtaegiihkgicdnaaGreat
open Go.RowKit

end Go.Proofs.YtaegiihkgicdnaaGreat

namespace Go.Proofs.YtaegiihkgicdnaaGreat
open Go.RowKit

def okZ (N : Int) (c : Con) : Bool := ckB N c.1 0 && (ckB N c.2.1 0 && lvB c.2.2)

theorem okZ_nat (n : Nat) (c : Con) : okZ n c = okC n c := by
  unfold okZ okC ckB
  cases lvB c.2.2
  · simp
  · rw [Bool.eq_iff_iff]; simp; omega

set_option maxRecDepth 100000 in
set_option maxHeartbeats 1000000 in
theorem and1_any (N I J L : Int) (v : Value) (pb : Nat) (w : World) (h0 : w.cell? ⟨pb, 0, none⟩ = some (.int .i64 N)) (h1 : w.cell? ⟨pb, 1, none⟩ = some v) :
    Calls Tryz.prog 182 #[.agg #[.int .i64 I, .int .i64 J, .int .i64 L], .pointer (some ⟨pb, 0, none⟩)] w (Made (.bool (!okZ N (I, J, L))) w) := by
  have C1 := Lib.hid (fun W => isClock_any N I 0 v W)
  have C2 := Lib.hid (fun W => isClock_any N J 0 v W)
  have C3 := Lib.hid (fun W => limValid_free L W)
  have HO := Lib.hid (show okZ N (I, J, L) = (ckB N I 0 && (ckB N J 0 && lvB L)) from rfl)
  generalize okZ N (I, J, L) = ok at *
  generalize ckB N I 0 = k1 at *
  generalize ckB N J 0 = k2 at *
  generalize lvB L = k3 at *
  obtain ⟨w0, hw0⟩ : ∃ w0, w0 = w.alloc (.cells #[.int .i64 I, .int .i64 J, .int .i64 L] 110) := ⟨_, rfl⟩
  have a0 : w0.cell? ⟨pb, 0, none⟩ = some (.int .i64 N) := by rw [hw0]; exact kept (one_more _) h0
  have a1 : w0.cell? ⟨pb, 1, none⟩ = some v := by rw [hw0]; exact kept (one_more _) h1
  have x0 : w0.cell? ⟨w.heap.size, 0, none⟩ = some (.int .i64 I) := by rw [hw0]; go_simp
  have x1 : w0.cell? ⟨w.heap.size, 1, none⟩ = some (.int .i64 J) := by rw [hw0]; go_simp
  have x2 : w0.cell? ⟨w.heap.size, 2, none⟩ = some (.int .i64 L) := by rw [hw0]; go_simp
  have E0 := Lib.hid (show Below w.heap.size w w0 by rw [hw0]; exact one_more _)
  have KS := Lib.hid (show ∀ w' : World, Below w0.heap.size w0 w' → (w'.cell? ⟨pb, 0, none⟩ = some (.int .i64 N) ∧ w'.cell? ⟨pb, 1, none⟩ = some v) ∧ w'.cell? ⟨w.heap.size, 0, none⟩ = some (.int .i64 I) ∧ w'.cell? ⟨w.heap.size, 1, none⟩ = some (.int .i64 J) ∧ w'.cell? ⟨w.heap.size, 2, none⟩ = some (.int .i64 L) from
    fun w' h => ⟨⟨kept h a0, kept h a1⟩, kept h x0, kept h x1, kept h x2⟩)
  have y0 : (w.alloc (.cells #[.int .i64 I, .int .i64 J, .int .i64 L] 110)).cell? ⟨pb, 0, none⟩ = some (.int .i64 N) := kept (one_more _) h0
  have y1 : (w.alloc (.cells #[.int .i64 I, .int .i64 J, .int .i64 L] 110)).cell? ⟨pb, 1, none⟩ = some v := kept (one_more _) h1
  clear h0 h1
  go_enter Tryz.func182, Tryz.ntmps182
  go_wp2_with fail
  rw [← hw0]
  clear hw0 y0 y1
  refine (C1.out _).mono ?_
  rintro e w1 ⟨rfl, hb1⟩
  clear a0 a1 x0 x1 x2
  obtain ⟨⟨a0, a1⟩, x0, x1, x2⟩ := KS.out _ hb1
  have B1 := Lib.hid hb1
  clear hb1
  cases k1
  · have HR := Lib.hid (show ok = false by rw [HO.out]; rfl)
    go_wp2_with fail
    go_ret
    exact ⟨ret_bool (by rw [HR.out]; rfl), below_on E0.out B1.out⟩
  · go_wp2_with fail
    refine (C2.out _).mono ?_
    rintro e w2 ⟨rfl, hb2⟩
    have B2 := Lib.hid (below_on B1.out hb2)
    clear hb2 a0 a1 x0 x1 x2
    obtain ⟨⟨a0, a1⟩, x0, x1, x2⟩ := KS.out _ B2.out
    cases k2
    · have HR := Lib.hid (show ok = false by rw [HO.out]; rfl)
      go_wp2_with fail
      go_ret
      exact ⟨ret_bool (by rw [HR.out]; rfl), below_on E0.out B2.out⟩
    · go_wp2_with fail
      refine (C3.out _).mono ?_
      rintro e w3 ⟨rfl, hw⟩
      rw [hw]; clear hw w3
      have HR := Lib.hid (show ok = k3 by rw [HO.out]; rfl)
      go_wp2_with fail
      go_ret
      exact ⟨ret_bool (by rw [HR.out]), below_on E0.out B2.out⟩

def aokB (N : Int) (cs : List Con) : Bool := cs.all (okZ N)

def Idx (N : Int) (cs : List Con) (w : World) (e : Ending) (w' : World) : Prop := ∃ r : Int, e = .returned (.int .i64 r) ∧ (decide (0 ≤ r) = !aokB N cs) ∧ Below w.heap.size w w'

set_option maxRecDepth 100000 in
set_option maxHeartbeats 4000000 in
theorem index_any (N : Int) (v : Value) (pb : Nat) (cs : List Con) (dao : Option Addr) (dc : Nat) (w : World) (hD : Arg3 w dao cs) (hdl : cs.length ≤ 1000) (h0 : w.cell? ⟨pb, 0, none⟩ = some (.int .i64 N)) (h1 : w.cell? ⟨pb, 1, none⟩ = some v) :
    Calls Tryz.prog 194 #[.slice dao cs.length dc, .func (.func 182) #[] #[.pointer (some ⟨pb, 0, none⟩)]] w (Idx N cs w) := by
  have hd : ∃ d, (cs ≠ [] → dao = some d) ∧ Rd3 w d cs := by
    by_cases he : cs = []
    · exact ⟨⟨0, 0, none⟩, fun h => absurd he h, by rw [he]; intro j hj; simp at hj⟩
    · obtain ⟨d, h2, h3⟩ := hD he
      exact ⟨d, fun _ => h2, h3⟩
  obtain ⟨d, hdo, hR⟩ := hd
  have HR := Lib.hid hR
  have C1 := Lib.hid (show ∀ (W : World) (c : Con), Below w.heap.size w W → Calls Tryz.prog 182 #[.agg #[.int .i64 c.1, .int .i64 c.2.1, .int .i64 c.2.2], .pointer (some ⟨pb, 0, none⟩)] W (Made (.bool (!okZ N c)) W) from fun W c h => and1_any N c.1 c.2.1 c.2.2 v pb W (kept h h0) (kept h h1))
  obtain ⟨len, hlen⟩ : ∃ len, len = cs.length := ⟨_, rfl⟩
  have HL := Lib.hid hlen
  have hz : ∀ t : Nat, t < len → dao = some d := fun t ht => hdo (by intro e; rw [e] at hlen; simp at hlen; omega)
  have hl2 : len ≤ 1000 := by omega
  rw [← hlen]
  clear hlen hR hD h0 h1 hdl hdo
  go_enter Tryz.func194, Tryz.ntmps194
  go_wp2_with fail
  go_loopw [8] (fun s wr => ∃ t : Nat, t ≤ len ∧ s = .int .i64 t ∧ Hid (∀ i, i < t → okZ N (gc cs i) = true) ∧ Hid (Below w.heap.size w wr)) (fun s _ => len - (intOf s).toNat)
  case atStart => exact ⟨0, by omega, rfl, Lib.hid (fun i hi => by omega), Lib.hid (Below.refl _ _)⟩
  case round =>
    obtain ⟨t, ht, rfl, HT, HB⟩ := hrel
    by_cases htn : t < len
    · obtain rfl := hz t htn
      obtain ⟨c0, c1, c2⟩ := (HR.out.on HB.out) t (by rw [← HL.out]; exact htn)
      obtain ⟨c, hc⟩ : ∃ c, c = gc cs t := ⟨_, rfl⟩
      rw [← hc] at c0 c1 c2
      have HC := Lib.hid hc
      have CC := C1.out
      have C2 := Lib.hid (fun W h => CC W c h)
      clear hc CC
      cases ho : okZ N c
      · rw [ho] at C2
        have HE := Lib.hid (show aokB N cs = false by
          unfold aokB
          rw [List.all_eq_false]
          have hlt : t < cs.length := by rw [← HL.out]; exact htn
          exact ⟨cs[t], List.getElem_mem hlt, by rw [show cs[t] = c by rw [HC.out]; simp [gc, hlt], ho]; simp⟩)
        clear ho
        go_wp2_with fail
        refine (C2.out _ HB.out).mono ?_
        rintro e w1 ⟨rfl, hb⟩
        have HB1 := Lib.hid (below_on HB.out hb)
        clear hb c0 c1 c2
        go_wp2_with fail
        go_ret
        exact ⟨t, rfl, by rw [HE.out]; simp, HB1.out⟩
      · rw [ho] at C2
        have HO := Lib.hid ho
        clear ho
        go_wp2_with fail
        refine (C2.out _ HB.out).mono ?_
        rintro e w1 ⟨rfl, hb⟩
        have HB1 := Lib.hid (below_on HB.out hb)
        clear hb c0 c1 c2
        go_wp2_with fail
        go_roundw
        case rel =>
          refine ⟨t + 1, by omega, by go_num, Lib.hid (fun i hi => ?_), HB1⟩
          by_cases e : i = t
          · rw [e, ← HC.out]; exact HO.out
          · exact HT.out i (by omega)
        case measure => simp [intOf]; omega
    · have HE := Lib.hid (show aokB N cs = true by
        unfold aokB
        rw [List.all_eq_true]
        intro x hx
        obtain ⟨i, hi, rfl⟩ := List.getElem_of_mem hx
        have := HT.out i (by have := HL.out; omega)
        simpa [gc, hi] using this)
      go_wp2_with fail
      go_ret
      exact ⟨-1, rfl, by rw [HE.out]; rfl, HB.out⟩

set_option maxRecDepth 100000 in
theorem contains_any (N : Int) (v : Value) (pb : Nat) (cs : List Con) (dao : Option Addr) (dc : Nat) (w : World) (hD : Arg3 w dao cs) (hdl : cs.length ≤ 1000) (h0 : w.cell? ⟨pb, 0, none⟩ = some (.int .i64 N)) (h1 : w.cell? ⟨pb, 1, none⟩ = some v) :
    Calls Tryz.prog 181 #[.slice dao cs.length dc, .func (.func 182) #[] #[.pointer (some ⟨pb, 0, none⟩)]] w (Made (.bool (!aokB N cs)) w) := by
  have CI := Lib.hid (index_any N v pb cs dao dc w hD hdl h0 h1)
  generalize cs.length = len at *
  clear hD h0 h1
  go_enter Tryz.func181, Tryz.ntmps181
  go_wp2_with fail
  refine CI.out.mono ?_
  rintro e w1 ⟨r, rfl, hr, hb⟩
  have HB := Lib.hid hb
  have HRR := Lib.hid hr
  clear hb hr
  go_wp2_with fail
  go_ret
  exact ⟨ret_bool HRR.out, HB.out⟩
end Go.Proofs.YtaegiihkgicdnaaGreat

namespace Go.Proofs.YtaegiihkgicdnaaGreat
open Go.RowKit

end Go.Proofs.YtaegiihkgicdnaaGreat

namespace Go.Proofs.YtaegiihkgicdnaaGreat
open Go.RowKit

end Go.Proofs.YtaegiihkgicdnaaGreat

namespace Go.Proofs.YtaegiihkgicdnaaGreat
open Go.RowKit

end Go.Proofs.YtaegiihkgicdnaaGreat

namespace Go.Proofs.YtaegiihkgicdnaaGreat
open Go.RowKit

end Go.Proofs.YtaegiihkgicdnaaGreat

namespace Go.Proofs.YtaegiihkgicdnaaGreat
open Go.RowKit

end Go.Proofs.YtaegiihkgicdnaaGreat
