/- Contracts of Close, Zero and All of layer 3's reference.; The contract of layer 3's Close.; Contracts of Zero and All of layer 3's reference.; Contracts of slices.Repeat at one limit, and layer 3's Zero and All.; Contracts of layer 3's uniform, Zero and All.; What the examples of layer 3 are, but for Stay.; openAt of layer 3: a bad zone, or a point of another dimension.; slices.Grow of nil, for ratios.; slices.Concat of two lists of ratios, the first of one element.; openAt of layer 3: a good zone. -/
import Derived.Test.YtbnebinpemejlaaHc3
import Derived.Test.YtbnebinpemejlaaHc6
import Derived.Shelf.Bits.Mul64
import Derived.Test.YtbnebinpemejlaaHc7
import Derived.Test.YtbnebinpemejlaaHc8
import Derived.Lib.AppendZeros

namespace Go.Proofs.Ytbnebinpemejlaa
open Go.RowKit

def closeB (N : Int) (l : List Int) : Bool := dimB N && decide (l.length = (N.toNat + 1) * (N.toNat + 1)) && l.all lvB

def closeE (N : Int) (l : List Int) : Int := if closeB N l then cloE N.toNat l else 2

theorem closeE_bad1 {N : Int} {l : List Int} (h : dimB N = false) : closeE N l = 2 := by simp [closeE, closeB, h]

theorem closeE_bad2 {N : Int} {l : List Int} (h : l.length ≠ (N.toNat + 1) * (N.toNat + 1)) : closeE N l = 2 := by simp [closeE, closeB, h]

theorem closeE_bad3 {N : Int} {l : List Int} {k : Nat} (hk : k < l.length) (h : lvB (Zo.gt l k) = false) : closeE N l = 2 := by
  have : l.all lvB = false := by
    rw [List.all_eq_false]
    exact ⟨l[k], List.getElem_mem hk, by rw [show l[k] = Zo.gt l k by simp [Zo.gt, hk], h]; simp⟩
  simp [closeE, closeB, this]

theorem closeE_ok {n : Nat} {l : List Int} (hn : n ≤ 10) (hl : l.length = (n + 1) * (n + 1)) (h : ∀ k, k < l.length → lvB (Zo.gt l k) = true) : closeE (n : Int) l = cloE n l := by
  have h1 : l.all lvB = true := by
    rw [List.all_eq_true]
    intro x hx
    obtain ⟨k, hk, rfl⟩ := List.getElem_of_mem hx
    have := h k hk
    simpa [Zo.gt, hk] using this
  have d : dimB (n : Int) = true := by unfold dimB; simp; omega
  simp [closeE, closeB, d, hl, h1]

theorem two_res (w : World) : Two (w.alloc (.cells #[.int .i64 0, .slice none 0 0] 25)) w.heap.size (.int .i64 0) (.slice none 0 0) := Two.made _ _ _ _

set_option maxHeartbeats 400000 in
theorem close_bad1 (N : Int) (l : List Int) (ao : Option Addr) (cap : Nat) (w : World) (h : dimB N = false) :
    Calls Try.prog 15 #[.int .i64 N, .slice ao l.length cap] w (ZRes w 0 [] 2) := by
  have p := fun W => dimension_any N W
  rw [h] at p
  have PD := Lib.hid p
  obtain ⟨b0, b1, b2, b3⟩ := (two_res w).facts
  clear p h
  go_enter Try.func15, Try.ntmps15
  go_wp2_with fail
  refine (PD.out _).mono ?_
  rintro e w1 ⟨rfl, rfl⟩
  go_wp2_with fail
  refine bodyPost_ret (v := .tuple #[.agg #[.int .i64 0, .slice none 0 0], .int .i64 2]) (by simp [results, Try.results15, go_sem]) rfl (zres_bad ?_)
  exact one_more _

set_option maxHeartbeats 400000 in
theorem close_bad2 (n : Nat) (l : List Int) (ao : Option Addr) (cap : Nat) (w : World) (hn : n ≤ 10) (h : l.length ≠ (n + 1) * (n + 1)) :
    Calls Try.prog 15 #[.int .i64 n, .slice ao l.length cap] w (ZRes w 0 [] 2) := by
  have p := fun W => dimension_any n W
  rw [show dimB n = true by unfold dimB; simp; omega] at p
  have PD := Lib.hid p
  have t3 : ((n : Int) + 1) * ((n : Int) + 1) ≤ 121 ∧ 0 ≤ ((n : Int) + 1) * ((n : Int) + 1) := by
    have : (n + 1) * (n + 1) ≤ 11 * 11 := Nat.mul_le_mul (by omega) (by omega)
    constructor
    · exact_mod_cast this
    · exact_mod_cast Nat.zero_le _
  have h2 : ((l.length : Int) != ((n : Int) + 1) * ((n : Int) + 1)) = true := by
    simp; intro e; apply h; exact_mod_cast e
  generalize l.length = len at *
  obtain ⟨b0, b1, b2, b3⟩ := (two_res w).facts
  clear p h
  go_enter Try.func15, Try.ntmps15
  go_wp2_with fail
  refine (PD.out _).mono ?_
  rintro e w1 ⟨rfl, rfl⟩
  go_wp2_with fail
  refine bodyPost_ret (v := .tuple #[.agg #[.int .i64 0, .slice none 0 0], .int .i64 2]) (by simp [results, Try.results15, go_sem]) rfl (zres_bad ?_)
  exact one_more _

set_option maxHeartbeats 1600000 in
theorem close_any (n : Nat) (l : List Int) (a : Addr) (cap : Nat) (w : World) (hn : n ≤ 10) (hl : l.length = (n + 1) * (n + 1)) (hR : Rd w a l) :
    Calls Try.prog 15 #[.int .i64 n, .slice (some a) l.length cap] w (ZRes w n (Zo.clo n l) (closeE n l)) := by
  obtain ⟨len, hlen⟩ : ∃ len, len = l.length := ⟨_, rfl⟩
  obtain ⟨w0, hw0⟩ : ∃ w0, w0 = w.alloc (.cells #[.int .i64 0, .slice none 0 0] 25) := ⟨_, rfl⟩
  have rs : Two w0 w.heap.size (.int .i64 0) (.slice none 0 0) := by rw [hw0]; exact two_res w
  have e0 : Below w.heap.size w w0 := by rw [hw0]; exact one_more _
  have z0 : w0.heap.size = w.heap.size + 1 := by rw [hw0]; simp
  have HR := Lib.hid (hR.on e0)
  have CP : Hid (∀ W, Rd W a l → Calls Try.prog 66 #[.agg #[.int .i64 n, .slice (some a) len cap]] W (fun e w' => ∃ g c, e = .returned (.agg #[.int .i64 n, .slice (some ⟨g, 0, none⟩) len c]) ∧ W.heap.size ≤ g ∧ Own w' g c l ∧ Below W.heap.size W w')) := Lib.hid fun W h => by have := copied_any n l a cap W (by rw [hl]; exact dsq_pos n) (by rw [hl]; have := dsq_le hn; omega) h; rw [← hlen] at this; exact this
  have p := fun W => dimension_any n W
  rw [show dimB n = true by unfold dimB; simp; omega] at p
  have PD := Lib.hid p
  have t3 : ((n : Int) + 1) * ((n : Int) + 1) ≤ 121 ∧ 0 ≤ ((n : Int) + 1) * ((n : Int) + 1) := by
    have : (n + 1) * (n + 1) ≤ 11 * 11 := Nat.mul_le_mul (by omega) (by omega)
    constructor
    · exact_mod_cast this
    · exact_mod_cast Nat.zero_le _
  have h2 : ((len : Int) != ((n : Int) + 1) * ((n : Int) + 1)) = false := by
    rw [hlen, hl]; simp
  have lb : len ≤ 121 := by rw [hlen, hl]; exact dsq_le hn
  have lx : l.length = (n + 1) * (n + 1) := hl
  have HL := Lib.hid hl
  have HLn := Lib.hid hlen
  have E0 := Lib.hid e0
  rw [← hlen]
  clear p hl hlen hR e0 lx
  go_enter Try.func15, Try.ntmps15
  go_wp2_with fail
  rw [← hw0]
  clear hw0
  refine (PD.out _).mono ?_
  rintro e w1 ⟨rfl, rfl⟩
  go_wp2_with fail
  clear t3 h2
  go_loopw [6] (fun s wr => ∃ t : Nat, t ≤ len ∧ s = .int .i64 t ∧ Hid (∀ k, k < t → lvB (Zo.gt l k) = true) ∧ Hid (wr = w1)) (fun s _ => len - (intOf s).toNat)
  case atStart => exact ⟨0, by omega, rfl, Lib.hid (fun k hk => by omega), Lib.hid rfl⟩
  case round =>
    obtain ⟨t, ht, rfl, HK, HW⟩ := hrel
    have hwr := HW.out
    subst hwr
    clear HW
    by_cases htn : t < len
    · have d1 := HR.out t (by rw [← HLn.out]; exact htn)
      obtain ⟨x, hx⟩ : ∃ x, x = Zo.gt l t := ⟨_, rfl⟩
      rw [← hx] at d1
      have HXE := Lib.hid hx
      have v9 := fun W => refLimValid_free x W
      clear hx
      cases lv : lvB x
      · have HE := Lib.hid (closeE_bad3 (N := n) (l := l) (k := t) (by rw [← HLn.out]; exact htn) (by rw [← HXE.out]; exact lv))
        rw [lv] at v9
        have V9 := Lib.hid v9
        clear v9 lv
        obtain ⟨b0, b1, b2, b3⟩ := rs.facts
        go_wp2_with fail
        refine (V9.out _).mono ?_
        rintro e w2 ⟨rfl, rfl⟩
        go_wp2_with fail
        refine bodyPost_ret (v := .tuple #[.agg #[.int .i64 0, .slice none 0 0], .int .i64 2]) (by simp [results, Try.results15, go_sem, b0, b1]) rfl (ZRes.bad (zres_bad (N := 0) (l := []) ?_) HE.out)
        exact (E0.out.setCell (by show w.heap.size ≤ w.heap.size; omega) _).setCell (by show w.heap.size ≤ w.heap.size; omega) _
      · have HK2 := Lib.hid (show lvB (Zo.gt l t) = true by rw [← HXE.out]; exact lv)
        rw [lv] at v9
        have V9 := Lib.hid v9
        clear v9 lv
        go_wp2_with fail
        refine (V9.out _).mono ?_
        rintro e w2 ⟨rfl, rfl⟩
        go_wp2_with fail
        go_roundw
        case rel =>
          refine ⟨t + 1, by omega, by go_num, Lib.hid (fun k hk => ?_), by first | exact Lib.hid rfl | exact Lib.hid trivial⟩
          by_cases e : k = t
          · rw [e]; exact HK2.out
          · exact HK.out k (by omega)
        case measure => simp [intOf]; omega
    · have HAE := Lib.hid (closeE_ok hn HL.out (fun k hk => HK.out k (by rw [← HLn.out] at hk; omega)))
      go_wp2_with fail
      refine (CP.out _ HR.out).mono ?_
      rintro e w2 ⟨g, c, rfl, hg, ho, hb2⟩
      have rs2 := rs.kept hb2
      have E2 := Lib.hid (below_on E0.out hb2)
      have HO := Lib.hid ho
      have z2 := hb2.size
      clear hb2 ho
      go_wp2_with fail
      by_cases hE : cloE n l = 0
      · have CL : Hid (∀ W, Own W g c l → Calls Try.prog 65 #[.agg #[.int .i64 n, .slice (some ⟨g, 0, none⟩) len c]] W (fun e w' => e = .returned (.tuple #[.agg #[.int .i64 n, .slice (some ⟨g, 0, none⟩) len c], .int .i64 0]) ∧ Own w' g c (Zo.clo n l) ∧ W.grownBy w' (some g))) := Lib.hid fun W h => by have := closed_ok W hn HL.out h hE; rw [← HLn.out] at this; exact this
        have HEE := Lib.hid hE
        clear hE
        refine (CL.out _ HO.out).mono ?_
        rintro e w5 ⟨rfl, ho5, hg5⟩
        have rs5 := rs2.grown hg5 (by omega)
        obtain ⟨q0, q1, q2, q3⟩ := rs5.facts
        have E5 := Lib.hid (grown_over E2.out hg5 (by omega))
        have HO5 := Lib.hid ho5
        clear ho5 hg5
        go_wp2_with fail
        refine bodyPost_ret (v := .tuple #[.agg #[.int .i64 n, .slice (some ⟨g, 0, none⟩) len c], .int .i64 0]) (by simp [results, Try.results15, go_sem, q0, q1]) rfl ⟨(E5.out.setCell (by show w.heap.size ≤ w.heap.size; omega) _).setCell (by show w.heap.size ≤ w.heap.size; omega) _, Or.inl ⟨by rw [HAE.out]; exact HEE.out, g, c, ?_, by omega, ?_⟩⟩
        · rw [Zo.clo_length, ← HLn.out]
        · exact put_far HO5.out (by omega) _ _
      · have CL : Hid (∀ W, Own W g c l → Calls Try.prog 65 #[.agg #[.int .i64 n, .slice (some ⟨g, 0, none⟩) len c]] W (fun e w' => e = .returned (.tuple #[.agg #[.int .i64 0, .slice none 0 0], .int .i64 (cloE n l)]) ∧ Own w' g c (Zo.clo n l) ∧ W.grownBy w' (some g))) := Lib.hid fun W h => by have := closed_no W hn HL.out h hE; rw [← HLn.out] at this; exact this
        have HEE := Lib.hid hE
        clear hE
        refine (CL.out _ HO.out).mono ?_
        rintro e w5 ⟨rfl, ho5, hg5⟩
        have rs5 := rs2.grown hg5 (by omega)
        obtain ⟨q0, q1, q2, q3⟩ := rs5.facts
        have E5 := Lib.hid (grown_over E2.out hg5 (by omega))
        have HO5 := Lib.hid ho5
        clear ho5 hg5
        go_wp2_with fail
        refine bodyPost_ret (v := .tuple #[.agg #[.int .i64 0, .slice none 0 0], .int .i64 (cloE n l)]) (by simp [results, Try.results15, go_sem, q0, q1]) rfl ⟨(E5.out.setCell (by show w.heap.size ≤ w.heap.size; omega) _).setCell (by show w.heap.size ≤ w.heap.size; omega) _, Or.inr ⟨by rw [HAE.out]; exact HEE.out, ?_⟩⟩
        rw [HAE.out]

theorem close_gen (N : Int) (l : List Int) (ao : Option Addr) (cap : Nat) (w : World) (hA : Arg w ao l) :
    Calls Try.prog 15 #[.int .i64 N, .slice ao l.length cap] w (ZRes w N (Zo.clo N.toNat l) (closeE N l)) := by
  cases hd : dimB N
  · exact (close_bad1 N l ao cap w hd).mono fun e w' h => h.bad (closeE_bad1 hd)
  · obtain ⟨n, rfl, hn⟩ := dim_nat hd
    by_cases hl : l.length = (n + 1) * (n + 1)
    · obtain ⟨a, rfl, hR⟩ := hA (fun e => by have := dsq_pos n; rw [e] at hl; simp at hl)
      exact close_any n l a cap w hn hl hR
    · exact (close_bad2 n l ao cap w hn hl).mono fun e w' h => h.bad (closeE_bad2 (by simpa using hl))
end Go.Proofs.Ytbnebinpemejlaa

namespace Go.Proofs.Ytbnebinpemejlaa
open Go.RowKit

theorem rd_close (N : Int) (l : List Int) : closeE N l = if rdB N l then cloE N.toNat l else 2 := rfl

set_option maxRecDepth 100000 in
set_option maxHeartbeats 4000000 in
theorem zclose_gen (N : Int) (l : List Int) (ao : Option Addr) (cap : Nat) (w : World) (hA : Arg w ao l) :
    Calls Try.prog 14 #[.int .i64 N, .slice ao l.length cap] w (ZRes w N (Zo.clo N.toNat l) (closeE N l)) := by
  have hz := mx_zero
  have sz := rdW_size N l
  have s1 := rdW_one N l
  have CR := Lib.hid (show ∀ W, Below w.heap.size w W → _ from fun W h => read_gen N l ao cap W (hA.on h))
  have HM := Lib.hid (show rdB N l = true → ∃ n : Nat, N = n ∧ ∀ (b : Nat) (W : World), Var W b (rdW N l) → Calls Try.prog 62 #[.pointer (some ⟨b, 0, none⟩)] W (GRes b W N (Zo.clo N.toNat l) (closeE N l)) from fun hr => by
    obtain ⟨n, rfl, hn, hl, hv⟩ := rdB_ok hr
    refine ⟨n, rfl, fun b W hV => ?_⟩
    have := mzone_any b n l W hn ⟨by have := hV.1; unfold rdW at this; rw [hr] at this; exact this, hl⟩ (a64_of hv)
    rw [rd_close, hr]
    exact this)
  have HE := Lib.hid (show rdB N l = false → closeE N l = 2 from fun h => by rw [rd_close, h]; rfl)
  generalize rdW N l = A at *
  generalize Zo.clo N.toNat l = r at *
  generalize closeE N l = er at *
  generalize rdB N l = ok at *
  generalize l.length = len at *
  obtain ⟨w0, hw0⟩ : ∃ w0, w0 = w.alloc (.cells #[.int .i64 0, .slice none 0 0] 25) := ⟨_, rfl⟩
  have rs : Two w0 w.heap.size (.int .i64 0) (.slice none 0 0) := by rw [hw0]; exact Two.made _ _ _ _
  have E0 := Lib.hid (show Below w.heap.size w w0 by rw [hw0]; exact one_more _)
  clear hA
  go_enter Try.func14, Try.ntmps14
  go_wp2_with fail
  rw [← hw0]
  clear hw0
  refine (CR.out _ E0.out).mono ?_
  rintro e w1 ⟨rfl, hb⟩
  have rs1 := rs.kept hb
  have HB := Lib.hid (below_on E0.out hb)
  have hlt := rs1.lt
  have hsz := HB.out.size
  obtain ⟨w2, hw2⟩ : ∃ w2, w2 = (w1.alloc (.cells (mcs 0 []) 80)).setRow w1.heap.size A := ⟨_, rfl⟩
  have rs3 : Two w2 w.heap.size (.int .i64 0) (.slice none 0 0) := by rw [hw2]; exact (rs1.alloc _).kept_row (by omega) _
  have V2 : Var w2 w1.heap.size A := by rw [hw2]; exact (Var.made w1).put A sz
  have h2s : w2.heap.size = w1.heap.size + 1 := by rw [hw2]; simp
  have HRS := Lib.hid rs3
  have HV := Lib.hid V2
  have HBE := Lib.hid (show Below w.heap.size w w2 by rw [hw2]; exact Below.setRow (HB.out.alloc hsz _) hsz _)
  clear rs rs1 rs3 V2 hb
  cases ok
  · obtain rfl := HE.out rfl
    obtain ⟨q0, q1, q2, q3⟩ := HRS.out.facts
    rw [hw2] at q0 q1 q2 q3
    rw [hw2] at HBE
    go_wp2_with (refine wpl_store rfl _ _ rfl _ _ rfl rfl _ (Var.made _) sz s1 ?_)
    refine bodyPost_ret (v := .tuple #[.agg #[.int .i64 0, .slice none 0 0], .int .i64 2]) (by simp [results, Try.results14, go_sem, q0, q1]) rfl ⟨(HBE.out.setCell (by show w.heap.size ≤ w.heap.size; omega) _).setCell (by show w.heap.size ≤ w.heap.size; omega) _, Or.inr ⟨by decide, rfl⟩⟩
  · obtain ⟨n, rfl, hmz⟩ := HM.out rfl
    have HMZ := Lib.hid hmz
    clear hmz
    go_wp2_with (refine wpl_store rfl _ _ rfl _ _ rfl rfl _ (Var.made _) sz s1 ?_)
    rw [← hw2]
    clear hw2
    refine (HMZ.out _ _ HV.out).mono ?_
    intro e w4 hG
    obtain ⟨hg4, hres⟩ := hG
    have E4 := Lib.hid (grown_over HBE.out hg4 hsz)
    obtain ⟨q0, q1, q2, q3⟩ := (HRS.out.grown hg4 (by omega)).facts
    rcases hres with ⟨he, g, c, rfl, hgl, hO⟩ | ⟨he, rfl⟩
    · have HO := Lib.hid hO
      subst he
      clear hO hg4
      go_wp2_with fail
      refine bodyPost_ret (v := .tuple #[.agg #[.int .i64 n, .slice (some ⟨g, 0, none⟩) r.length c], .int .i64 0]) (by simp [results, Try.results14, go_sem, q0, q1]) rfl ⟨?_, Or.inl ⟨rfl, g, c, rfl, by omega, put_far HO.out (by omega) _ _⟩⟩
      exact (E4.out.setCell (by show w.heap.size ≤ w.heap.size; omega) _).setCell (by show w.heap.size ≤ w.heap.size; omega) _
    · have HEE := Lib.hid he
      clear hg4 he
      go_wp2_with fail
      refine bodyPost_ret (v := .tuple #[.agg #[.int .i64 0, .slice none 0 0], .int .i64 er]) (by simp [results, Try.results14, go_sem, q0, q1]) rfl ⟨?_, Or.inr ⟨HEE.out, rfl⟩⟩
      exact (E4.out.setCell (by show w.heap.size ≤ w.heap.size; omega) _).setCell (by show w.heap.size ≤ w.heap.size; omega) _
end Go.Proofs.Ytbnebinpemejlaa

namespace Go.Proofs.Ytbnebinpemejlaa
open Go.RowKit

/-- 'make([]api.Limit, k)'. -/
theorem make_limits (w : World) (len : Nat) (hl : len ≤ 1000) (x : Int) (hx : x = len) : ∃ cur : Array Value, cur = (List.replicate len (Value.int .i64 0)).toArray ∧
    (Instr.makeSlice 22 (.int .i64 x) (.int .i64 x)).run Try.prog w = .ok (.slice (some ⟨w.heap.size, 0, none⟩) len len) (w.alloc (.cells cur 43)) := by
  subst hx
  obtain ⟨i0, hi, hz0, hz1, hz2⟩ := info_parts Try.info43
  have hr := run_make (P := Try.prog) w 22 43 i0 _ Try.underlying22 hi hz0 .i64 .i64 (len : Int) (len : Int) (by omega) (by omega) (by rw [hz2]; omega) (by omega)
  refine ⟨_, ?_, hr⟩
  rw [hz1]
  apply Array.toList_inj.1
  simp only [Int.toNat_natCast, Nat.mul_one]
  rw [show (Value.int IntKind.i64 0).cells = #[Value.int .i64 0] from rfl, toList_madeCells_one]

theorem own_new (w : World) (l : List Int) (hl : l.length ≤ 1000) : Own (w.alloc (.cells (l.map (Value.int .i64)).toArray 43)) w.heap.size l.length l := by
  have := World.ownsRow_lit (base := 0) (e := 43) (size := 1) w (l.map (Value.int .i64)).toArray l.length (Nat.zero_le _) (by unfold maxLen; omega) (by simp)
  simpa [Own] using this

def flE (N : Int) (v : Int) : Int := if dimB N then cloE N.toNat (List.replicate ((N.toNat + 1) * (N.toNat + 1)) v) else 2

set_option maxHeartbeats 400000 in
theorem filled_bad (N v : Int) (w : World) (h : dimB N = false) : Calls Try.prog 71 #[.int .i64 N, .int .i64 v] w (ZRes w 0 [] 2) := by
  have p := fun W => dimension_any N W
  rw [h] at p
  have PD := Lib.hid p
  obtain ⟨b0, b1, b2, b3⟩ := (two_res w).facts
  clear p h
  go_enter Try.func71, Try.ntmps71
  go_wp2_with fail
  refine (PD.out _).mono ?_
  rintro e w1 ⟨rfl, rfl⟩
  go_wp2_with fail
  refine bodyPost_ret (v := .tuple #[.agg #[.int .i64 0, .slice none 0 0], .int .i64 2]) (by simp [results, Try.results71, go_sem]) rfl (zres_bad ?_)
  exact one_more _

set_option maxHeartbeats 1600000 in
theorem filled_any (n : Nat) (v : Int) (w : World) (hn : n ≤ 10) : Calls Try.prog 71 #[.int .i64 n, .int .i64 v] w (ZRes w n (Zo.clo n (List.replicate ((n + 1) * (n + 1)) v)) (cloE n (List.replicate ((n + 1) * (n + 1)) v))) := by
  obtain ⟨len, hlen⟩ : ∃ len, len = (n + 1) * (n + 1) := ⟨_, rfl⟩
  have lb : len ≤ 121 := by rw [hlen]; exact dsq_le hn
  obtain ⟨w0, hw0⟩ : ∃ w0, w0 = w.alloc (.cells #[.int .i64 0, .slice none 0 0] 25) := ⟨_, rfl⟩
  have rs : Two w0 w.heap.size (.int .i64 0) (.slice none 0 0) := by rw [hw0]; exact two_res w
  have e0 : Below w.heap.size w w0 := by rw [hw0]; exact one_more _
  have z0 : w0.heap.size = w.heap.size + 1 := by rw [hw0]; simp
  have p := fun W => dimension_any n W
  rw [show dimB n = true by unfold dimB; simp; omega] at p
  have PD := Lib.hid p
  have t3 : ((n : Int) + 1) * ((n : Int) + 1) ≤ 121 ∧ 0 ≤ ((n : Int) + 1) * ((n : Int) + 1) := by
    have : (n + 1) * (n + 1) ≤ 11 * 11 := Nat.mul_le_mul (by omega) (by omega)
    constructor
    · exact_mod_cast this
    · exact_mod_cast Nat.zero_le _
  obtain ⟨cur, hcur, hmk⟩ := make_limits w0 len (by omega) (((n : Int) + 1) * ((n : Int) + 1)) (by rw [hlen]; push_cast; rfl)
  obtain ⟨w3, hw3⟩ : ∃ w3, w3 = (w0.alloc (.cells cur 43)).alloc (.cells #[.int .i64 n, .slice (some ⟨w.heap.size + 1, 0, none⟩) len len] 25) := ⟨_, rfl⟩
  have O3 : Own w3 (w.heap.size + 1) len (List.replicate len 0) := by
    rw [hw3, hcur, ← z0]
    have := own_new w0 (List.replicate len 0) (by simp; omega)
    simp only [List.map_replicate, List.length_replicate] at this
    exact this.alloc _
  have bx3 : Two w3 (w.heap.size + 1 + 1) (.int .i64 n) (.slice (some ⟨w.heap.size + 1, 0, none⟩) len len) := by
    rw [hw3]
    have := Two.made (w0.alloc (.cells cur 43)) (.int .i64 n) (.slice (some ⟨w.heap.size + 1, 0, none⟩) len len) 25
    rw [show (w0.alloc (.cells cur 43)).heap.size = w.heap.size + 1 + 1 by simp; omega] at this
    exact this
  have rs3 : Two w3 w.heap.size (.int .i64 0) (.slice none 0 0) := by rw [hw3]; exact (rs.alloc _).alloc _
  have E3 : Below w.heap.size w w3 := by rw [hw3]; exact (e0.alloc e0.size _).alloc (by simp; omega) _
  have S3 := Lib.hid (show St w3 (w.heap.size + 1) len (List.replicate len 0) w3 from ⟨O3, World.grownBy.refl _ _⟩)
  have HE3 := Lib.hid E3
  have HL := Lib.hid hlen
  rw [← hlen]
  have HW0 := Lib.hid hw0
  have HW3 := Lib.hid hw3
  clear p hlen e0 rs O3 E3 hcur hw0 hw3
  go_enter Try.func71, Try.ntmps71
  go_wp2_with fail
  rw [← HW0.out]
  refine (PD.out _).mono ?_
  rintro e w1 ⟨rfl, rfl⟩
  go_wp2_with fail
  rw [← HW3.out]
  clear hmk HW0 HW3 t3 z0 PD
  clear cur
  go_loopw [7] (fun s wr => ∃ (t : Nat) (x : List Int), t ≤ len ∧ s = .int .i64 t ∧ x.length = len ∧ Hid (∀ k, k < t → Zo.gt x k = v) ∧ Hid (St w3 (w.heap.size + 1) len x wr)) (fun s _ => len - (intOf s).toNat)
  case atStart => exact ⟨0, List.replicate len 0, by omega, rfl, by simp, Lib.hid (fun k hk => by omega), S3⟩
  case round =>
    obtain ⟨t, x, ht, rfl, hx, HX, HT⟩ := hrel
    obtain ⟨b0, b1, b2, b3⟩ := (bx3.grown HT.out.2 (by omega)).facts
    by_cases htn : t < len
    · have d1 : wr.cell? ⟨w.heap.size + 1, t, none⟩ = some (.int .i64 (Zo.gt x t)) := by
        have := HT.out.1.rd t (by omega)
        rwa [addr_add] at this
      have d2 : wr.frozen? ⟨w.heap.size + 1, t, none⟩ = false := World.ownsRow.frozenAt HT.out.1 t
      have S4 := Lib.hid (show St w3 (w.heap.size + 1) len (x.set t v) (wr.setCell ⟨w.heap.size + 1, t, none⟩ (.int .i64 v)) from ⟨(HT.out.1.put t v).1, grown_trans HT.out.2 (HT.out.1.put t v).2⟩)
      go_wp2_with fail
      go_roundw
      case rel =>
        refine ⟨t + 1, x.set t v, by omega, by go_num, by simpa using hx, Lib.hid (fun k hk => ?_), S4⟩
        rw [Zo.gt_set v (by omega)]
        split
        · rfl
        · exact HX.out k (by omega)
      case measure => simp [intOf]; omega
    · have HX2 := Lib.hid (show x = List.replicate len v from List.ext_getElem (by simp [hx]) fun k h1 h2 => by
        have := HX.out k (by omega)
        simpa [Zo.gt, h1] using this)
      have lx : x.length = (n + 1) * (n + 1) := by rw [hx, HL.out]
      by_cases hE : cloE n x = 0
      · have CL : Hid (∀ W, Own W (w.heap.size + 1) len x → Calls Try.prog 65 #[.agg #[.int .i64 n, .slice (some ⟨w.heap.size + 1, 0, none⟩) len len]] W (fun e w' => e = .returned (.tuple #[.agg #[.int .i64 n, .slice (some ⟨w.heap.size + 1, 0, none⟩) len len], .int .i64 0]) ∧ Own w' (w.heap.size + 1) len (Zo.clo n x) ∧ W.grownBy w' (some (w.heap.size + 1)))) := Lib.hid fun W h => by have := closed_ok W hn lx h hE; rw [hx] at this; exact this
        have HEE := Lib.hid hE
        clear hE
        go_wp2_with fail
        refine (CL.out _ HT.out.1).mono ?_
        rintro e w5 ⟨rfl, ho5, hg5⟩
        have rs5 := (rs3.grown HT.out.2 (by omega)).grown hg5 (by omega)
        obtain ⟨q0, q1, q2, q3⟩ := rs5.facts
        have E5 := Lib.hid (grown_over (grown_over HE3.out HT.out.2 (by omega)) hg5 (by omega))
        have HO5 := Lib.hid ho5
        clear ho5 hg5
        go_wp2_with fail
        refine bodyPost_ret (v := .tuple #[.agg #[.int .i64 n, .slice (some ⟨w.heap.size + 1, 0, none⟩) len len], .int .i64 0]) (by simp [results, Try.results71, go_sem, q0, q1]) rfl ⟨(E5.out.setCell (by show w.heap.size ≤ w.heap.size; omega) _).setCell (by show w.heap.size ≤ w.heap.size; omega) _, Or.inl ⟨by rw [← HX2.out]; exact HEE.out, w.heap.size + 1, len, ?_, by omega, ?_⟩⟩
        · rw [Zo.clo_length, List.length_replicate]
        · rw [← HX2.out]; exact put_far HO5.out (by omega) _ _
      · have CL : Hid (∀ W, Own W (w.heap.size + 1) len x → Calls Try.prog 65 #[.agg #[.int .i64 n, .slice (some ⟨w.heap.size + 1, 0, none⟩) len len]] W (fun e w' => e = .returned (.tuple #[.agg #[.int .i64 0, .slice none 0 0], .int .i64 (cloE n x)]) ∧ Own w' (w.heap.size + 1) len (Zo.clo n x) ∧ W.grownBy w' (some (w.heap.size + 1)))) := Lib.hid fun W h => by have := closed_no W hn lx h hE; rw [hx] at this; exact this
        have HEE := Lib.hid hE
        clear hE
        go_wp2_with fail
        refine (CL.out _ HT.out.1).mono ?_
        rintro e w5 ⟨rfl, ho5, hg5⟩
        have rs5 := (rs3.grown HT.out.2 (by omega)).grown hg5 (by omega)
        obtain ⟨q0, q1, q2, q3⟩ := rs5.facts
        have E5 := Lib.hid (grown_over (grown_over HE3.out HT.out.2 (by omega)) hg5 (by omega))
        have HO5 := Lib.hid ho5
        clear ho5 hg5
        go_wp2_with fail
        refine bodyPost_ret (v := .tuple #[.agg #[.int .i64 0, .slice none 0 0], .int .i64 (cloE n x)]) (by simp [results, Try.results71, go_sem, q0, q1]) rfl ⟨(E5.out.setCell (by show w.heap.size ≤ w.heap.size; omega) _).setCell (by show w.heap.size ≤ w.heap.size; omega) _, Or.inr ⟨by rw [← HX2.out]; exact HEE.out, ?_⟩⟩
        rw [HX2.out]

theorem filled_gen (N v : Int) (w : World) : Calls Try.prog 71 #[.int .i64 N, .int .i64 v] w (ZRes w N (Zo.clo N.toNat (List.replicate ((N.toNat + 1) * (N.toNat + 1)) v)) (flE N v)) := by
  cases hd : dimB N
  · exact (filled_bad N v w hd).mono fun e w' h => h.bad (by simp [flE, hd])
  · obtain ⟨n, rfl, hn⟩ := dim_nat hd
    rw [show flE (n : Int) v = cloE n (List.replicate ((n + 1) * (n + 1)) v) by simp [flE, hd]]
    exact filled_any n v w hn

set_option maxHeartbeats 400000 in
theorem zero_gen (N : Int) (w : World) : Calls Try.prog 21 #[.int .i64 N] w (ZRes w N (Zo.clo N.toNat (List.replicate ((N.toNat + 1) * (N.toNat + 1)) 1)) (flE N 1)) := by
  obtain ⟨b0, b1, b2, b3⟩ := (two_res w).facts
  have P := Lib.hid fun W => filled_gen N 1 W
  go_enter Try.func21, Try.ntmps21
  go_wp2_with fail
  refine (P.out _).mono ?_
  intro e w1 hz
  obtain ⟨hb, hz⟩ := hz
  have rs := (two_res w).kept hb
  obtain ⟨q0, q1, q2, q3⟩ := rs.facts
  have hB := past_one hb
  have z1 := hb.size
  rcases hz with ⟨he, g, c, rfl, hg, ho⟩ | ⟨he, rfl⟩
  · have HE := Lib.hid he
    have HO := Lib.hid ho
    have HB := Lib.hid hB
    clear he ho hB hb b0 b1 b2 b3
    simp at hg z1
    go_wp2_with fail
    refine bodyPost_ret (v := .tuple #[.agg #[.int .i64 N, .slice (some ⟨g, 0, none⟩) (Zo.clo N.toNat (List.replicate ((N.toNat + 1) * (N.toNat + 1)) 1)).length c], .int .i64 0]) (by simp [results, Try.results21, go_sem, q0, q1]) rfl ⟨(HB.out.setCell (by show w.heap.size ≤ w.heap.size; omega) _).setCell (by show w.heap.size ≤ w.heap.size; omega) _, Or.inl ⟨HE.out, g, c, rfl, by omega, put_far HO.out (by omega) _ _⟩⟩
  · have HE := Lib.hid he
    have HB := Lib.hid hB
    clear he hB hb b0 b1 b2 b3
    go_wp2_with fail
    refine bodyPost_ret (v := .tuple #[.agg #[.int .i64 0, .slice none 0 0], .int .i64 (flE N 1)]) (by simp [results, Try.results21, go_sem, q0, q1]) rfl ⟨(HB.out.setCell (by show w.heap.size ≤ w.heap.size; omega) _).setCell (by show w.heap.size ≤ w.heap.size; omega) _, Or.inr ⟨HE.out, rfl⟩⟩

set_option maxHeartbeats 400000 in
theorem all_gen (N : Int) (w : World) : Calls Try.prog 23 #[.int .i64 N] w (ZRes w N (Zo.clo N.toNat (List.replicate ((N.toNat + 1) * (N.toNat + 1)) 1099511627776)) (flE N 1099511627776)) := by
  obtain ⟨b0, b1, b2, b3⟩ := (two_res w).facts
  have P := Lib.hid fun W => filled_gen N 1099511627776 W
  go_enter Try.func23, Try.ntmps23
  go_wp2_with fail
  refine (P.out _).mono ?_
  intro e w1 hz
  obtain ⟨hb, hz⟩ := hz
  have rs := (two_res w).kept hb
  obtain ⟨q0, q1, q2, q3⟩ := rs.facts
  have hB := past_one hb
  have z1 := hb.size
  rcases hz with ⟨he, g, c, rfl, hg, ho⟩ | ⟨he, rfl⟩
  · have HE := Lib.hid he
    have HO := Lib.hid ho
    have HB := Lib.hid hB
    clear he ho hB hb b0 b1 b2 b3
    simp at hg z1
    go_wp2_with fail
    refine bodyPost_ret (v := .tuple #[.agg #[.int .i64 N, .slice (some ⟨g, 0, none⟩) (Zo.clo N.toNat (List.replicate ((N.toNat + 1) * (N.toNat + 1)) 1099511627776)).length c], .int .i64 0]) (by simp [results, Try.results23, go_sem, q0, q1]) rfl ⟨(HB.out.setCell (by show w.heap.size ≤ w.heap.size; omega) _).setCell (by show w.heap.size ≤ w.heap.size; omega) _, Or.inl ⟨HE.out, g, c, rfl, by omega, put_far HO.out (by omega) _ _⟩⟩
  · have HE := Lib.hid he
    have HB := Lib.hid hB
    clear he hB hb b0 b1 b2 b3
    go_wp2_with fail
    refine bodyPost_ret (v := .tuple #[.agg #[.int .i64 0, .slice none 0 0], .int .i64 (flE N 1099511627776)]) (by simp [results, Try.results23, go_sem, q0, q1]) rfl ⟨(HB.out.setCell (by show w.heap.size ≤ w.heap.size; omega) _).setCell (by show w.heap.size ≤ w.heap.size; omega) _, Or.inr ⟨HE.out, rfl⟩⟩
end Go.Proofs.Ytbnebinpemejlaa

namespace Go.Proofs.Ytbnebinpemejlaa
open Go.RowKit

set_option maxHeartbeats 1000000 in
theorem mul64_one (c : Nat) (hc : c ≤ 121) (w : World) : Calls Try.prog 155 #[.int .u64 1, .int .u64 c] w (Still (.tuple #[.int .u64 0, .int .u64 c]) w) := by
  have m1 : bits .and .u64 1 4294967295 = 1 := by decide
  have m0 : bits .and .u64 0 4294967295 = 0 := by decide
  have m2 : bits .and .u64 (c : Int) 4294967295 = c := by rw [Mul64.maskN c (by omega), show c % 4294967296 = c by omega]
  have d2 : (c : Int) / 4294967296 = 0 := by omega
  have w2 : IntKind.u64.wrap (c : Int) = c := Mul64.wrapN c (by omega)
  have w0 : IntKind.u64.wrap 0 = 0 := by decide
  have z0 : (0 : Int) / 4294967296 = 0 := by decide
  go_enter Try.func155, Try.ntmps155
  go_wp2_with fail
  go_ret2
  exact ⟨rfl, rfl⟩

set_option maxHeartbeats 1000000 in
theorem mul_one_any (c : Nat) (hc : c ≤ 121) (w : World) : Calls Try.prog 139 #[.int .u64 1, .int .u64 c] w (Still (.tuple #[.int .u64 0, .int .u64 c]) w) := by
  have M := Lib.hid (fun W => mul64_one c hc W)
  go_enter Try.func139, Try.ntmps139
  go_wp2_with fail
  refine (M.out _).mono ?_
  rintro e w1 ⟨rfl, hw⟩
  rw [hw]; clear hw w1
  go_wp2_with fail
  go_ret2
  exact ⟨rfl, rfl⟩

/-- A row that is filled up to k. -/
def Fl (w : World) (g c k : Nat) (v : Int) : Prop := w.heap[g]? = some (.cells ((List.replicate k v ++ List.replicate (c - k) 0).map (Value.int .i64)).toArray 43 (0, 0))

theorem fill_vals {b : Nat} {t : TypeId} (v : Value) : ∀ (m k : Nat) (A : List Value) (w : World), w.heap[b]? = some (.cells A.toArray t (0, 0)) → k + m ≤ A.length →
    (w.setCells b k (List.replicate m v)).heap[b]? = some (.cells (A.take k ++ List.replicate m v ++ A.drop (k + m)).toArray t (0, 0)) := by
  intro m
  induction m with
  | zero => intro k A w h hk; simpa [World.setCells] using h
  | succ m ih =>
    intro k A w h hk
    have h1 : (w.setCell ⟨b, k, none⟩ v).heap[b]? = some (.cells (A.set k v).toArray t (0, 0)) := by
      rw [heap_setCell_same w b _ _ _ _ h]; simp
    have := ih (k + 1) (A.set k v) _ h1 (by simp; omega)
    rw [List.replicate_succ]
    show ((w.setCell ⟨b, k, none⟩ v).setCells b (k + 1) (List.replicate m v)).heap[b]? = _
    rw [this]
    congr 3
    have hk' : k < A.length := by omega
    have e1 : (A.set k v).take (k + 1) = A.take k ++ [v] := by
      rw [List.take_add_one, List.take_set, List.set_eq_of_length_le (by simp; omega), List.getElem?_set_self hk']
      rfl
    rw [e1, List.drop_set_of_lt (by omega), show k + 1 + m = k + (m + 1) by omega]
    simp

theorem Fl.step {w : World} {g c k m : Nat} {v : Int} (h : Fl w g c k v) (hk : k + m ≤ c) : Fl (w.setCells g k (List.replicate m (Value.int .i64 v))) g c (k + m) v := by
  unfold Fl at *
  rw [fill_vals (Value.int .i64 v) m k _ w h (by simp; omega)]
  congr 3
  simp only [List.map_append, List.map_replicate]
  rw [List.take_append_of_le_length (by simp), List.take_of_length_le (by simp), List.drop_append, List.drop_of_length_le (by simp)]
  simp
  omega

theorem Fl.at {w : World} {g c k : Nat} {v : Int} (h : Fl w g c k v) {j : Nat} (hj : j < k) : w.cell? ⟨g, j, none⟩ = some (.int .i64 v) := by
  rw [cell_of_row w g j _ _ _ h]; simp [List.getElem?_append, hj]

theorem Fl.some {w : World} {g c k : Nat} {v : Int} (h : Fl w g c k v) (hk : k ≤ c) {j : Nat} (hj : j < c) : (w.cell? ⟨g, j, none⟩).isSome = true := by
  rw [cell_of_row w g j _ _ _ h]
  have : j < (((List.replicate k v ++ List.replicate (c - k) 0).map (Value.int .i64)).toArray).size := by simp; omega
  rw [Array.getElem?_eq_getElem this]; rfl

theorem Fl.free {w : World} {g c k : Nat} {v : Int} (h : Fl w g c k v) (j : Nat) : w.frozen? ⟨g, j, none⟩ = false := frozen_of_row w g j _ _ h

theorem Fl.own {w : World} {g c : Nat} {v : Int} (h : Fl w g c c v) (hc : 0 < c) (hm : c ≤ 1000) : Own w g c (List.replicate c v) := by
  unfold Own
  unfold Fl at h
  refine ⟨by simp, Or.inr ⟨g, c, _, by simp, Nat.zero_le _, h, by simp, by unfold maxLen; omega, by simp, by simp⟩⟩

theorem run_cut_lo (w : World) (a : Addr) (c k : Nat) (hk : k < c) : (Instr.sliceAt 22 (.slice (some a) c c) (some (.int .i64 k)) none none).run Try.prog w = .ok (.slice (some (a.add k)) (c - k) (c - k)) w := by
  have he : Try.prog.elem 22 = 43 := by simp [Program.elem]
  rw [run_sliceAt_slice w _ _ _ _ _ (by rw [he]; exact Try.underlying22), run_slice_l w _ _ _ _ (by rw [he]; exact Try.underlying22) .i64 k (by omega) (by omega), he, limit_size]
  simp only [Result.andThen_ok, sliced, Int.toNat_natCast]
  rw [if_neg (by omega)]
  simp

theorem run_cut_hi (w : World) (a : Addr) (c k : Nat) (hk : k < c) : (Instr.sliceAt 22 (.slice (some a) c c) none (some (.int .i64 k)) none).run Try.prog w = .ok (.slice (some a) k c) w := by
  have he : Try.prog.elem 22 = 43 := by simp [Program.elem]
  rw [run_sliceAt_slice w _ _ _ _ _ (by rw [he]; exact Try.underlying22), run_slice_h w _ _ _ _ (by rw [he]; exact Try.underlying22) .i64 k (by omega) (by omega), he, limit_size]
  simp only [Result.andThen_ok, sliced, Int.toNat_natCast]
  rw [if_neg (by omega)]
  simp [Addr.add]

set_option maxRecDepth 100000 in
set_option maxHeartbeats 4000000 in
theorem repeat_any (v : Int) (c xb : Nat) (w : World) (hc0 : 0 < c) (hc : c ≤ 121) (hx : w.cell? ⟨xb, 0, none⟩ = some (.int .i64 v)) :
    Calls Try.prog 118 #[.slice (some ⟨xb, 0, none⟩) 1 1, .int .i64 c] w
      (fun e w' => e = .returned (.slice (some ⟨w.heap.size, 0, none⟩) c c) ∧ Own w' w.heap.size c (List.replicate c v) ∧ Below w.heap.size w w') := by
  have MU := Lib.hid (fun W => mul_one_any c hc W)
  obtain ⟨cur, hcur, hmk⟩ := make_limits w c (by omega) c rfl
  have F0 : Fl (w.alloc (.cells cur 43)) w.heap.size c 0 v := by
    unfold Fl; rw [heap_alloc_last]; rw [hcur]; simp
  obtain ⟨w1, hw1⟩ : ∃ w1, w1 = w.alloc (.cells cur 43) := ⟨_, rfl⟩
  rw [← hw1] at hmk F0
  have E1 : Below w.heap.size w w1 := by rw [hw1]; exact one_more _
  have hx1 : w1.cell? ⟨xb, 0, none⟩ = some (.int .i64 v) := by rw [hw1]; exact kept (one_more _) hx
  have hcp1 := fun ty => run_copy_cells (P := Try.prog) w1 22 22 ty 43 w.heap.size 0 c c ⟨xb, 0, none⟩ 1 1 (List.replicate 1 (Value.int .i64 v)) Try.underlying22
    (by rfl) (by rw [List.length_replicate]; exact (Nat.min_eq_left hc0).symm)
    (fun j u hj => by
      have : j = 0 := by
        have := List.getElem?_eq_some_iff.1 hj
        obtain ⟨h, _⟩ := this
        simp at h; exact h
      subst this
      simp at hj
      subst hj
      exact hx1)
    (fun j hj => F0.some (by omega) (by simp at hj; omega)) (fun j hj => F0.free _) (by simp [Value.oneCell'])
  have F1 := F0.step (m := 1) (by omega)
  have HF1 := Lib.hid F1
  have HE1 := Lib.hid (Below.setCells (B := w.heap.size) (b := w.heap.size) (Nat.le_refl _) (List.replicate 1 (Value.int .i64 v)) 0 w1 E1)
  have HW1 := Lib.hid hw1
  simp only [List.length_replicate] at hcp1
  clear hx hx1 F0 F1 E1 hcur hw1
  go_enter Try.func118, Try.ntmps118
  go_wp2_with fail
  refine (MU.out _).mono ?_
  rintro e w2 ⟨rfl, hw⟩
  rw [hw]; clear hw w2
  go_wp2_with fail
  clear hcp1 hmk
  go_loopw [8] (fun s wr => ∃ k : Nat, 0 < k ∧ k ≤ c ∧ s = .int .i64 k ∧ Hid (Fl wr w.heap.size c k v) ∧ Hid (Below w.heap.size w wr)) (fun s _ => c - (intOf s).toNat)
  case atStart => exact ⟨1, by omega, by omega, rfl, HF1, HE1⟩
  case round =>
    clear HF1 HE1
    obtain ⟨k, hk0, hkc, rfl, HF, HB⟩ := hrel
    by_cases hlt : k < c
    · obtain ⟨m, hm⟩ : ∃ m, m = Nat.min k (c - k) := ⟨_, rfl⟩
      have hm0 : 0 < m := by rw [hm]; exact Nat.lt_min.2 ⟨hk0, by omega⟩
      have hm1 : k + m ≤ c := by have : m ≤ c - k := by rw [hm]; exact Nat.min_le_right _ _
                                 omega
      have FD : Fl wr.drew w.heap.size c k v := HF.out
      have s1 := fun W => run_cut_lo W ⟨w.heap.size, 0, none⟩ c k hlt
      have s2 := fun W => run_cut_hi W ⟨w.heap.size, 0, none⟩ c k hlt
      rw [show (⟨w.heap.size, 0, none⟩ : Addr).add k = ⟨w.heap.size, k, none⟩ from addr_add _ _] at s1
      have hcp := fun ty => run_copy_cells (P := Try.prog) wr.drew 22 22 ty 43 w.heap.size k (c - k) (c - k) ⟨w.heap.size, 0, none⟩ k c (List.replicate m (Value.int .i64 v)) Try.underlying22
        (by rfl) (by rw [List.length_replicate]; exact hm)
        (fun j u hj => by
          have h2 := List.getElem?_eq_some_iff.1 hj
          obtain ⟨h, h3⟩ := h2
          simp at h h3
          subst h3
          rw [addr_add]
          exact FD.at (by have : m ≤ k := by rw [hm]; exact Nat.min_le_left _ _
                          omega))
        (fun j hj => FD.some hkc (by simp at hj; omega)) (fun j hj => FD.free _) (by simp [Value.oneCell'])
      simp only [List.length_replicate] at hcp
      have F2 := Lib.hid (FD.step hm1)
      have B2 := Lib.hid (Below.setCells (B := w.heap.size) (b := w.heap.size) (Nat.le_refl _) (List.replicate m (Value.int .i64 v)) k wr.drew HB.out.drew)
      clear hm FD
      go_wp2_with fail
      go_region
      clear hcp s1 s2
      go_wp2_with fail
      go_roundw
      case rel => exact ⟨k + m, by omega, hm1, by go_num, F2, B2⟩
      case measure => simp [intOf]; omega
    · have HO := Lib.hid (show Fl wr w.heap.size c c v by have := HF.out; rwa [show k = c by omega] at this)
      go_wp2_with fail
      go_ret
      exact ⟨rfl, HO.out.own hc0 (by omega), HB.out⟩
end Go.Proofs.Ytbnebinpemejlaa

namespace Go.Proofs.Ytbnebinpemejlaa
open Go.RowKit

theorem flE_close {n : Nat} {v : Int} (hn : n ≤ 10) (hv : lvB v = true) : closeE n (List.replicate ((n + 1) * (n + 1)) v) = flE n v := by
  have d : dimB (n : Int) = true := by unfold dimB; simp; omega
  rw [rd_close]
  unfold flE rdB
  rw [d]
  have : (List.replicate ((n + 1) * (n + 1)) v).all lvB = true := by
    rw [List.all_eq_true]; intro x hx; rw [(List.mem_replicate.1 hx).2]; exact hv
  simp only [Int.toNat_natCast, List.length_replicate, decide_true, Bool.true_and, this]

set_option maxRecDepth 100000 in
set_option maxHeartbeats 4000000 in
theorem zunif_bad (N v : Int) (w : World) (hd : dimB N = false) : Calls Try.prog 70 #[.int .i64 N, .int .i64 v] w (ZRes w 0 [] 2) := by
  have PD := fun W => isDimension_any N W
  rw [hd] at PD
  have HD := Lib.hid PD
  obtain ⟨b0, b1, b2, b3⟩ := (two_res w).facts
  have E0 := Lib.hid (one_more (w1 := w) (.cells #[.int .i64 0, .slice none 0 0] 25))
  have rs := two_res w
  clear hd PD
  go_enter Try.func70, Try.ntmps70
  go_wp2_with fail
  refine (HD.out _).mono ?_
  rintro e w1 ⟨rfl, hw⟩
  rw [hw]; clear hw w1
  go_wp2_with fail
  refine bodyPost_ret (v := .tuple #[.agg #[.int .i64 0, .slice none 0 0], .int .i64 2]) (by simp [results, Try.results70, go_sem, b0, b1]) rfl (zres_bad ?_)
  exact E0.out

set_option maxRecDepth 100000 in
set_option maxHeartbeats 4000000 in
theorem zunif_ok (n : Nat) (v : Int) (w : World) (hn : n ≤ 10) (hv : lvB v = true) : Calls Try.prog 70 #[.int .i64 n, .int .i64 v] w (ZRes w n (Zo.clo n (List.replicate ((n + 1) * (n + 1)) v)) (flE n v)) := by
  have PD := fun W => isDimension_any n W
  rw [show dimB (n : Int) = true by unfold dimB; simp; omega] at PD
  have HD := Lib.hid PD
  have HP := Lib.hid (fun W => places_any n W hn)
  have hle := dsq_le hn
  have hpos := dsq_pos n
  have CC := Lib.hid (show ∀ (W : World) (g c : Nat), Own W g c (List.replicate ((n + 1) * (n + 1)) v) → _ from fun W g c hO => zclose_gen n (List.replicate ((n + 1) * (n + 1)) v) (some ⟨g, 0, none⟩) c W hO.arg)
  rw [flE_close hn hv] at CC
  simp only [List.length_replicate, Int.toNat_natCast] at CC
  generalize Zo.clo n (List.replicate ((n + 1) * (n + 1)) v) = r at *
  generalize flE n v = er at *
  generalize (n + 1) * (n + 1) = sz at *
  have RP := Lib.hid (fun (xb : Nat) (W : World) (h : W.cell? ⟨xb, 0, none⟩ = some (.int .i64 v)) => repeat_any v sz xb W hpos hle h)
  obtain ⟨w0, hw0⟩ : ∃ w0, w0 = w.alloc (.cells #[.int .i64 0, .slice none 0 0] 25) := ⟨_, rfl⟩
  have rs : Two w0 w.heap.size (.int .i64 0) (.slice none 0 0) := by rw [hw0]; exact Two.made _ _ _ _
  have E0 := Lib.hid (show Below w.heap.size w w0 by rw [hw0]; exact one_more _)
  have z0 : w0.heap.size = w.heap.size + 1 := by rw [hw0]; simp
  clear hv PD
  go_enter Try.func70, Try.ntmps70
  go_wp2_with fail
  rw [← hw0]
  clear hw0
  refine (HD.out _).mono ?_
  rintro e w1 ⟨rfl, hw⟩
  rw [hw]; clear hw w1
  go_wp2_with fail
  refine (HP.out _).mono ?_
  rintro e w1 ⟨rfl, hw⟩
  rw [hw]; clear hw w1
  have hcx : (w0.alloc (.cells #[.int .i64 v] 43)).cell? ⟨w.heap.size + 1, 0, none⟩ = some (.int .i64 v) := by rw [← z0]; go_simp
  go_wp2_with fail
  refine (RP.out _ _ hcx).mono ?_
  rintro e w2 ⟨rfl, hO, hb⟩
  rw [show (w0.alloc (.cells #[.int .i64 v] 43)).heap.size = w.heap.size + 1 + 1 by simp [z0]] at hO
  have HO := Lib.hid hO
  have B2 := Lib.hid (show Below w0.heap.size w0 w2 from past_one hb)
  clear hcx hO hb
  go_wp2_with fail
  refine (CC.out _ _ _ HO.out).mono ?_
  intro e w4 hG
  obtain ⟨hb4, hres⟩ := hG
  have HB4 := Lib.hid (below_on B2.out hb4)
  obtain ⟨q0, q1, q2, q3⟩ := (rs.kept HB4.out).facts
  have h2s := B2.out.size
  rcases hres with ⟨he, g, c, rfl, hgl, hO⟩ | ⟨he, rfl⟩
  · have HOO := Lib.hid hO
    subst he
    clear hO hb4
    go_wp2_with fail
    refine bodyPost_ret (v := .tuple #[.agg #[.int .i64 n, .slice (some ⟨g, 0, none⟩) r.length c], .int .i64 0]) (by simp [results, Try.results70, go_sem, q0, q1]) rfl (zres_over E0.out HB4.out HOO.out (by omega) (by omega) (by omega) _ _)
  · have HEE := Lib.hid he
    clear he hb4
    go_wp2_with fail
    refine bodyPost_ret (v := .tuple #[.agg #[.int .i64 0, .slice none 0 0], .int .i64 er]) (by simp [results, Try.results70, go_sem, q0, q1]) rfl (zres_over0 E0.out HB4.out HEE.out (by omega) _ _)

theorem zunif_gen (N v : Int) (w : World) (hv : lvB v = true) : Calls Try.prog 70 #[.int .i64 N, .int .i64 v] w (ZRes w N (Zo.clo N.toNat (List.replicate ((N.toNat + 1) * (N.toNat + 1)) v)) (flE N v)) := by
  cases hd : dimB N
  · exact (zunif_bad N v w hd).mono fun e w' h => h.bad (by simp [flE, hd])
  · obtain ⟨n, rfl, hn⟩ := dim_nat hd
    exact zunif_ok n v w hn hv

set_option maxRecDepth 100000 in
set_option maxHeartbeats 1000000 in
theorem zzero_gen (N : Int) (w : World) : Calls Try.prog 20 #[.int .i64 N] w (ZRes w N (Zo.clo N.toNat (List.replicate ((N.toNat + 1) * (N.toNat + 1)) 1)) (flE N 1)) := by
  have P := Lib.hid (fun W => zunif_gen N 1 W (by decide))
  generalize Zo.clo N.toNat (List.replicate ((N.toNat + 1) * (N.toNat + 1)) 1) = r at *
  generalize flE N 1 = er at *
  obtain ⟨w0, hw0⟩ : ∃ w0, w0 = w.alloc (.cells #[.int .i64 0, .slice none 0 0] 25) := ⟨_, rfl⟩
  have rs : Two w0 w.heap.size (.int .i64 0) (.slice none 0 0) := by rw [hw0]; exact Two.made _ _ _ _
  have E0 := Lib.hid (show Below w.heap.size w w0 by rw [hw0]; exact one_more _)
  have z0 : w0.heap.size = w.heap.size + 1 := by rw [hw0]; simp
  go_enter Try.func20, Try.ntmps20
  go_wp2_with fail
  rw [← hw0]
  clear hw0
  refine (P.out _).mono ?_
  intro e w4 hG
  obtain ⟨hb4, hres⟩ := hG
  have HB4 := Lib.hid hb4
  obtain ⟨q0, q1, q2, q3⟩ := (rs.kept hb4).facts
  rcases hres with ⟨he, g, c, rfl, hgl, hO⟩ | ⟨he, rfl⟩
  · have HOO := Lib.hid hO
    subst he
    clear hO hb4
    go_wp2_with fail
    refine bodyPost_ret (v := .tuple #[.agg #[.int .i64 N, .slice (some ⟨g, 0, none⟩) r.length c], .int .i64 0]) (by simp [results, Try.results20, go_sem, q0, q1]) rfl (zres_over E0.out HB4.out HOO.out hgl (by omega) (by omega) _ _)
  · have HEE := Lib.hid he
    clear he hb4
    go_wp2_with fail
    refine bodyPost_ret (v := .tuple #[.agg #[.int .i64 0, .slice none 0 0], .int .i64 er]) (by simp [results, Try.results20, go_sem, q0, q1]) rfl (zres_over0 E0.out HB4.out HEE.out (by omega) _ _)

set_option maxRecDepth 100000 in
set_option maxHeartbeats 1000000 in
theorem zall_gen (N : Int) (w : World) : Calls Try.prog 22 #[.int .i64 N] w (ZRes w N (Zo.clo N.toNat (List.replicate ((N.toNat + 1) * (N.toNat + 1)) 1099511627776)) (flE N 1099511627776)) := by
  have P := Lib.hid (fun W => zunif_gen N 1099511627776 W (by decide))
  generalize Zo.clo N.toNat (List.replicate ((N.toNat + 1) * (N.toNat + 1)) 1099511627776) = r at *
  generalize flE N 1099511627776 = er at *
  obtain ⟨w0, hw0⟩ : ∃ w0, w0 = w.alloc (.cells #[.int .i64 0, .slice none 0 0] 25) := ⟨_, rfl⟩
  have rs : Two w0 w.heap.size (.int .i64 0) (.slice none 0 0) := by rw [hw0]; exact Two.made _ _ _ _
  have E0 := Lib.hid (show Below w.heap.size w w0 by rw [hw0]; exact one_more _)
  have z0 : w0.heap.size = w.heap.size + 1 := by rw [hw0]; simp
  go_enter Try.func22, Try.ntmps22
  go_wp2_with fail
  rw [← hw0]
  clear hw0
  refine (P.out _).mono ?_
  intro e w4 hG
  obtain ⟨hb4, hres⟩ := hG
  have HB4 := Lib.hid hb4
  obtain ⟨q0, q1, q2, q3⟩ := (rs.kept hb4).facts
  rcases hres with ⟨he, g, c, rfl, hgl, hO⟩ | ⟨he, rfl⟩
  · have HOO := Lib.hid hO
    subst he
    clear hO hb4
    go_wp2_with fail
    refine bodyPost_ret (v := .tuple #[.agg #[.int .i64 N, .slice (some ⟨g, 0, none⟩) r.length c], .int .i64 0]) (by simp [results, Try.results22, go_sem, q0, q1]) rfl (zres_over E0.out HB4.out HOO.out hgl (by omega) (by omega) _ _)
  · have HEE := Lib.hid he
    clear he hb4
    go_wp2_with fail
    refine bodyPost_ret (v := .tuple #[.agg #[.int .i64 0, .slice none 0 0], .int .i64 er]) (by simp [results, Try.results22, go_sem, q0, q1]) rfl (zres_over0 E0.out HB4.out HEE.out (by omega) _ _)
end Go.Proofs.Ytbnebinpemejlaa

namespace Go.Proofs.Ytbnebinpemejlaa
open Go.RowKit

def y2L : List Int := [1, 1, 1, 1, 1, 1, 1, 1, 1]

def y2U : List Int := [1, 1, 1, 1099511627776, 1, 1, 1099511627776, 1, 1]

def y2A : List Int := [1, -3, -3, 1099511627776, 1, 1, 1099511627776, 1, 1]

def y2R : List Int := [1, -3, 1, 1099511627776, 1, 1099511627776, 1, -3, 1]

theorem y2_zero : Zo.clo 2 (List.replicate 9 1) = y2L ∧ flE 2 1 = 0 := by decide +kernel

theorem y2_up : Zo.clo 2 (upL 2 y2L) = y2U ∧ upE 2 y2L = 0 := by decide +kernel

theorem y2_and : Zo.clo 2 (anL 2 [(0, 1, -3)] y2U) = y2A ∧ anG 2 [(0, 1, -3)] y2U = 0 := by decide +kernel

theorem y2_reset : reL 2 2 0 y2A = y2R ∧ reG 2 y2A 2 0 = 0 := by decide +kernel

theorem y2_point : pnL 2 y2R = [(2, 1), (0, 1)] ∧ pnE 2 y2R = 0 := by decide +kernel

theorem y2_none : anG 2 [(2, 0, 4)] y2A = 4 := by decide +kernel

theorem y2_stay : chkE 1 [1, -5, 11, 1] = 0 := by decide +kernel
end Go.Proofs.Ytbnebinpemejlaa

namespace Go.Proofs.Ytbnebinpemejlaa
open Go.RowKit

theorem results_mx3 {fn : Func} {p t s : Tmp} (h : fn.results = #[.cell p 80, .tmp t, .tmp s]) (tmps : Array Value) {w : World} {b : Nat} {cs : Array Value} {v u : Value}
    (hp : tmps.getD p undef = .pointer (some ⟨b, 0, none⟩)) (ht : tmps.getD t undef = v) (hs : tmps.getD s undef = u) (hv : Var w b cs) : (results fn tmps).run Try.prog w = .ok (.tuple #[.agg cs, v, u]) w := by
  have hp' : tmps[p]?.getD undef = .pointer (some ⟨b, 0, none⟩) := by simpa using hp
  have ht' : tmps[t]?.getD undef = v := by simpa using ht
  have hs' : tmps[s]?.getD undef = u := by simpa using hs
  simp [results, h, hp', ht', hs', asAddr, mx_load hv.1 hv.2]

set_option maxRecDepth 100000 in
set_option maxHeartbeats 4000000 in
theorem openat_bad (N : Int) (l : List Int) (ao : Option Addr) (cap : Nat) (po : Option Addr) (pl pc : Nat) (w : World) (hA : Arg w ao l) (hr : okB N l = false ∨ (pl : Int) ≠ N) :
    Calls Try.prog 97 #[.agg #[.int .i64 N, .slice ao l.length cap], .slice po pl pc] w (fun e w' => e = .returned (.tuple #[.agg (mcs 0 []), .slice none 0 0, .int .i64 2]) ∧ Below w.heap.size w w') := by
  have hz := mx_zero
  have h0 := mx_build0
  have szA := rdW_size N l
  have s1A := rdW_one N l
  have CR := Lib.hid (show ∀ W, Below w.heap.size w W → Calls Try.prog 67 #[.agg #[.int .i64 N, .slice ao l.length cap]] W (fun e w' => e = .returned (.tuple #[.agg (rdW N l), .bool (okB N l)]) ∧ Below W.heap.size W w') from fun W h => open_gen N l ao cap W (hA.on h))
  generalize rdW N l = A at *
  generalize okB N l = ok at *
  generalize l.length = len at *
  obtain ⟨w0, hw0⟩ : ∃ w0, w0 = (w.alloc (.cells #[.int .i64 N, .slice ao len cap] 25)).alloc (.cells (mcs 0 []) 80) := ⟨_, rfl⟩
  have bx : Two w0 w.heap.size (.int .i64 N) (.slice ao len cap) := by rw [hw0]; exact (Two.made _ _ _ _).alloc _
  have BX := Lib.hid bx
  obtain ⟨b0, b1, b2, b3⟩ := bx.facts
  have V0 : Var w0 (w.heap.size + 1) (mcs 0 []) := by
    rw [hw0]
    have := Var.made (w.alloc (.cells #[.int .i64 N, .slice ao len cap] 25))
    simpa using this
  have E0 := Lib.hid (show Below w.heap.size w w0 by rw [hw0]; exact past_two (Below.refl _ _))
  have HV := Lib.hid V0
  clear V0 hA bx
  go_enter Try.func97, Try.ntmps97
  go_upto_region 1 with (fail)
  rw [← hw0]
  clear hw0
  go_wp2_with fail
  refine (CR.out _ E0.out).mono ?_
  rintro e w1 ⟨rfl, hb⟩
  have V1 := HV.out.kept hb
  have E1 := below_on E0.out hb
  have hle := E1.size
  obtain ⟨w2, hw2⟩ : ∃ w2, w2 = (w1.alloc (.cells (mcs 0 []) 80)).setRow w1.heap.size A := ⟨_, rfl⟩
  have V3 := Lib.hid (show Var w2 (w.heap.size + 1) (mcs 0 []) by rw [hw2]; exact (V1.kept (one_more _)).far (b' := w1.heap.size) (by have := V1.lt; omega) A)
  have B2 := Lib.hid (show Below w0.heap.size w0 w2 by rw [hw2]; exact Below.setRow (hb.alloc hb.size _) hb.size _)
  have sz := mcs_size (n := 0) (l := []) (by simp)
  clear V1 E1 hb b0 b1 b2 b3
  obtain ⟨b0, b1, b2, b3⟩ := (BX.out.kept B2.out).facts
  have fin : ∀ w' : World, w' = w2.setRow (w.heap.size + 1) (mcs 0 []) → Below w.heap.size w w' := fun w' e => by
    rw [e]; exact Below.setRow (below_on E0.out B2.out) (by omega) _
  have FIN := Lib.hid fin
  clear fin
  go_upto_region 2 with (refine wpl_store rfl _ _ rfl _ _ rfl rfl _ (Var.made _) szA s1A ?_)
  rw [← hw2]
  clear hw2
  cases ok
  · clear hr
    go_wp2_with (refine wpl_store rfl _ _ rfl _ _ rfl rfl _ V3.out sz (mcs_one _ _) ?_)
    refine bodyPost_ret (results_mx3 Try.results97 _ rfl rfl rfl (V3.out.put (mcs 0 []) sz)) rfl ⟨rfl, FIN.out _ rfl⟩
  · have hne : (pl : Int) ≠ N := by
      rcases hr with q | q
      · cases q
      · exact q
    have D : ((pl : Int) != N) = true := by simpa using hne
    clear hr hne
    go_wp2_with (refine wpl_store rfl _ _ rfl _ _ rfl rfl _ V3.out sz (mcs_one _ _) ?_)
    refine bodyPost_ret (results_mx3 Try.results97 _ rfl rfl rfl (V3.out.put (mcs 0 []) sz)) rfl ⟨rfl, FIN.out _ rfl⟩
end Go.Proofs.Ytbnebinpemejlaa

namespace Go.Proofs.Ytbnebinpemejlaa
open Go.RowKit

set_option maxRecDepth 100000 in
set_option maxHeartbeats 4000000 in
theorem grow_any (m : Nat) (w : World) (h0 : 0 < m) (h1 : m ≤ 1000) :
    Calls Try.prog 143 #[.slice none 0 0, .int .i64 m] w (fun e w' => Below w.heap.size w w' ∧ ∃ v, e = .returned v ∧ OwnQ w' w.heap.size v []) := by
  obtain ⟨i0, hi, hz0, hz1, hz2⟩ := info_parts rat_info
  have D : decide ((m : Int) < 0) = false := by simp
  have D2 : decide ((0 : Int) < (m : Int)) = true := by simp; omega
  have RUN := Lib.hid (Lib.run_append_nil_zeros (P := Try.prog) w 48 3 48 52 i0 (.agg #[.int .i64 0, .int .i64 0]) .i64 .i64 Try.underlying48 Try.underlying3 hi hz0 m h0 (by omega) (by omega) (by rw [hz2]; omega))
  have G1 := grownCap_ge w m 0 52
  have G2 := grownCap_le_maxLen w m 0 52 (by unfold maxLen; omega)
  generalize grownCap w m 0 52 = c at *
  obtain ⟨w5, hw5⟩ : ∃ w5, w5 = w.drew.alloc (.cells (Builtin.zeroCells (Value.agg #[.int .i64 0, .int .i64 0]).cells m ++ Builtin.zeroCells (Value.agg #[.int .i64 0, .int .i64 0]).cells (c - m)) 52) := ⟨_, rfl⟩
  rw [← hw5] at RUN
  have B5 := Lib.hid (show Below w.heap.size w w5 by rw [hw5]; exact (Below.refl _ _).drew.alloc (Nat.le_refl _) _)
  have O5 := Lib.hid (show OwnQ w5 w.heap.size (.slice (some ⟨w.heap.size, 0, none⟩) 0 c) [] by
    refine ⟨rfl, .inr ⟨w.heap.size, c, _, rfl, Nat.le_refl _, by rw [hw5]; exact heap_alloc_new w.drew _, Nat.zero_le _, G2, ?_, rfl⟩⟩
    simp only [Array.size_append, size_zeroCells]
    show m * 2 + (c - m) * 2 = c * 2
    omega)
  have hc0 : (c = 0) = False := by simp; omega
  clear hw5
  go_enter Try.func143, Try.ntmps143
  go_wp2_with (at_builtin; refine Lib.wpList_append_run _ rfl _ _ _ _ rfl _ _ rfl rfl _ _ RUN.out ?_)
  go_ret
  exact ⟨B5.out, _, rfl, O5.out⟩
end Go.Proofs.Ytbnebinpemejlaa

namespace Go.Proofs.Ytbnebinpemejlaa
open Go.RowKit

def ccS (k : Nat) : Nat → Nat
  | 0 => 0
  | 1 => 1
  | _ => 1 + k

def ccP (q : Pq) (ps : List Pq) : Nat → List Pq
  | 0 => []
  | 1 => [q]
  | _ => q :: ps

theorem qV_appd (a b : List Pq) : qV (a ++ b) = qV a ++ qV b := by unfold qV; rw [List.flatMap_append]

theorem qV_one (cs : List Pq) : ∀ u ∈ qV cs, u.oneCell' = true := by
  intro u hu
  unfold qV at hu
  rw [List.mem_flatMap] at hu
  obtain ⟨c, _, hc⟩ := hu
  simp at hc
  rcases hc with rfl | rfl <;> rfl

theorem qV_cells {w : World} {a : Addr} {cs : List Pq} (h : Rd2 w a cs) : ∀ j u, (qV cs)[j]? = some u → w.cell? (a.add j) = some u := by
  intro j u hu
  have hj : j < cs.length * 2 := by
    rw [← qV_len]
    by_cases c : j < (qV cs).length
    · exact c
    · rw [List.getElem?_eq_none (by omega)] at hu; cases hu
  obtain ⟨h1, h2⟩ := h (j / 2) (by omega)
  obtain ⟨c1, c2⟩ := qV_at cs (j / 2) (by omega)
  rcases Nat.mod_two_eq_zero_or_one j with e | e
  · have ej : j / 2 * 2 = j := by omega
    rw [ej] at h1 c1
    rw [c1] at hu; injection hu with hu
    rw [← hu]; exact h1
  · have ej : j / 2 * 2 + 1 = j := by omega
    rw [ej] at c2
    rw [c2] at hu; injection hu with hu
    rw [← hu, ← h2]
    congr 1
    unfold Addr.add
    split <;> split <;> simp_all <;> omega

set_option maxRecDepth 100000 in
set_option maxHeartbeats 4000000 in
theorem concat_some (h b : Nat) (q : Pq) (ps : List Pq) (a : Addr) (cap : Nat) (w : World) (h0 : w.cell? ⟨h, 0, none⟩ = some (.slice (some ⟨b, 0, none⟩) 1 1)) (h1 : w.cell? ⟨h, 1, none⟩ = some (.slice (some a) ps.length cap))
    (hq : Rd2 w ⟨b, 0, none⟩ [q]) (hp : Arg2 w (some a) ps) (hl : ps.length ≤ 200) :
    Calls Try.prog 122 #[.slice (some ⟨h, 0, none⟩) 2 2] w (fun e w' => Below w.heap.size w w' ∧ ∃ v, e = .returned v ∧ OwnQ w' w.heap.size v (q :: ps)) := by
  obtain ⟨i0, hi, hz0, hz1, hz2⟩ := info_parts rat_info
  have GR := Lib.hid (grow_any (1 + ps.length) w (by omega) (by omega))
  have CL := Lib.hid (show ∀ W, Below w.heap.size w W → W.cell? ⟨h, 0, none⟩ = some (.slice (some ⟨b, 0, none⟩) 1 1) ∧ W.cell? ⟨h, 1, none⟩ = some (.slice (some a) ps.length cap) from fun W hb => ⟨kept hb h0, kept hb h1⟩)
  have C0 := Lib.hid (show ∀ W, Below w.heap.size w W → ∀ j u, (qV [q])[j]? = some u → W.cell? ((⟨b, 0, none⟩ : Addr).add j) = some u from fun W hb => qV_cells (hq.on hb))
  have hlen := Lib.hid (qV_len [q])
  have C1 := Lib.hid (show ∀ W, Below w.heap.size w W → ∀ j u, (qV ps)[j]? = some u → W.cell? (a.add j) = some u from fun W hb => by
    by_cases c : ps = []
    · subst c; intro j u q; simp [qV] at q
    · obtain ⟨a', e', hr⟩ := hp c
      injection e' with e'
      subst e'
      exact qV_cells (hr.on hb))
  have L1 := Lib.hid (show (qV ps).length = ps.length * 2 from qV_len ps)
  generalize hk : ps.length = k at *
  clear hq hp
  go_enter Try.func122, Try.ntmps122
  go_wp2_with fail
  go_loopw [11, 3] (fun s t wr => ∃ j : Nat, j ≤ 2 ∧ s = .int .i64 j ∧ t = .int .i64 (ccS k j) ∧ wr = w) (fun s _ _ => 2 - (intOf s).toNat)
  case atStart => exact ⟨0, by omega, rfl, rfl, rfl⟩
  case round =>
    obtain ⟨j, hj, rfl, rfl, hw⟩ := hrel
    rw [hw]
    clear hw
    obtain ⟨b0, b1⟩ := CL.out w (Below.refl _ _)
    have hjj : j = 0 ∨ j = 1 ∨ j = 2 := by omega
    clear hj
    rcases hjj with rfl | rfl | rfl
    · simp only [ccS]
      go_wp2_with fail
      go_roundw
      case rel => exact ⟨1, by omega, by go_num, by go_num, trivial⟩
      case measure => simp [intOf]
    · simp only [ccS]
      go_wp2_with fail
      go_roundw
      case rel => exact ⟨2, by omega, by go_num, by go_num, trivial⟩
      case measure => simp [intOf]
    · simp only [ccS]
      clear b0 b1
      go_wp2_with fail
      refine GR.out.mono ?_
      rintro e w1 ⟨hb1, v1, rfl, hv1⟩
      have B1 := Lib.hid hb1
      have O1 := Lib.hid hv1
      clear hb1 hv1
      go_wp2_with fail
      go_loopw [27, 6] (fun s v wr => ∃ j : Nat, j ≤ 2 ∧ s = .int .i64 j ∧ Hid (OwnQ wr w.heap.size v (ccP q ps j) ∧ Below w.heap.size w wr)) (fun s _ _ => 2 - (intOf s).toNat)
      case atStart => exact ⟨0, by omega, rfl, Lib.hid ⟨O1.out, B1.out⟩⟩
      case round =>
        obtain ⟨j, hj, rfl, HX⟩ := hrel
        have hjj : j = 0 ∨ j = 1 ∨ j = 2 := by omega
        clear hj
        rcases hjj with rfl | rfl | rfl
        · obtain ⟨b0, b1⟩ := CL.out _ HX.out.2
          have hown := HX.out.1
          unfold OwnQ at hown
          simp only [ccP, List.length_nil] at hown
          go_wp2_with (at_builtin; refine wpList_append_own _ rfl _ _ 48 rfl w.heap.size 52 i0 (.agg #[.int .i64 0, .int .i64 0]) 2 16 Try.underlying48 hi hz0 hz1 hz2 rfl (by decide) _ _ _ rfl hown ⟨b, 0, none⟩ 1 1 (qV [q]) rfl hlen.out (C0.out _ HX.out.2) (qV_one _) (by unfold maxLen; omega) (by omega) HX.out.2.size ?_)
          intro v' w9 hown9 hgrow _
          have B9 := Lib.hid (show Below w.heap.size w w9 from Below.grown HX.out.2 hgrow HX.out.2.size (fun k hk => (World.ownsRow.lt hown k hk).1))
          have O9 := Lib.hid (show OwnQ w9 w.heap.size v' (ccP q ps 1) from hown9)
          clear hown9 hgrow hown b0 b1
          go_wp2_with fail
          go_roundw
          case rel => exact ⟨1, by omega, by go_num, Lib.hid ⟨O9.out, B9.out⟩⟩
          case measure => simp [intOf]
        · obtain ⟨b0, b1⟩ := CL.out _ HX.out.2
          have hown := HX.out.1
          unfold OwnQ at hown
          simp only [ccP, List.length_nil, List.length_cons] at hown
          go_wp2_with (at_builtin; refine wpList_append_own _ rfl _ _ 48 rfl w.heap.size 52 i0 (.agg #[.int .i64 0, .int .i64 0]) 2 16 Try.underlying48 hi hz0 hz1 hz2 rfl (by decide) _ _ _ rfl hown a k cap (qV ps) rfl L1.out (C1.out _ HX.out.2) (qV_one _) (by unfold maxLen; omega) (by omega) HX.out.2.size ?_)
          intro v' w9 hown9 hgrow _
          have B9 := Lib.hid (show Below w.heap.size w w9 from Below.grown HX.out.2 hgrow HX.out.2.size (fun k hk => (World.ownsRow.lt hown k hk).1))
          have O9 := Lib.hid (show OwnQ w9 w.heap.size v' (ccP q ps 2) by
            unfold OwnQ
            simp only [ccP]
            rw [show q :: ps = [q] ++ ps from rfl, qV_appd, List.length_append, hk]
            exact hown9)
          clear hown9 hgrow hown b0 b1
          go_wp2_with fail
          go_roundw
          case rel => exact ⟨2, by omega, by go_num, Lib.hid ⟨O9.out, B9.out⟩⟩
          case measure => simp [intOf]
        · go_wp2_with fail
          go_ret
          exact ⟨HX.out.2, _, rfl, HX.out.1⟩

set_option maxRecDepth 100000 in
set_option maxHeartbeats 4000000 in
theorem concat_nil (h b : Nat) (q : Pq) (w : World) (h0 : w.cell? ⟨h, 0, none⟩ = some (.slice (some ⟨b, 0, none⟩) 1 1)) (h1 : w.cell? ⟨h, 1, none⟩ = some (.slice none 0 0))
    (hq : Rd2 w ⟨b, 0, none⟩ [q]) :
    Calls Try.prog 122 #[.slice (some ⟨h, 0, none⟩) 2 2] w (fun e w' => Below w.heap.size w w' ∧ ∃ v, e = .returned v ∧ OwnQ w' w.heap.size v (q :: [])) := by
  obtain ⟨i0, hi, hz0, hz1, hz2⟩ := info_parts rat_info
  have GR := Lib.hid (grow_any 1 w (by omega) (by omega))
  have CL := Lib.hid (show ∀ W, Below w.heap.size w W → W.cell? ⟨h, 0, none⟩ = some (.slice (some ⟨b, 0, none⟩) 1 1) ∧ W.cell? ⟨h, 1, none⟩ = some (.slice none 0 0) from fun W hb => ⟨kept hb h0, kept hb h1⟩)
  have C0 := Lib.hid (show ∀ W, Below w.heap.size w W → ∀ j u, (qV [q])[j]? = some u → W.cell? ((⟨b, 0, none⟩ : Addr).add j) = some u from fun W hb => qV_cells (hq.on hb))
  have hlen := Lib.hid (qV_len [q])
  clear hq
  go_enter Try.func122, Try.ntmps122
  go_wp2_with fail
  go_loopw [11, 3] (fun s t wr => ∃ j : Nat, j ≤ 2 ∧ s = .int .i64 j ∧ t = .int .i64 (ccS 0 j) ∧ wr = w) (fun s _ _ => 2 - (intOf s).toNat)
  case atStart => exact ⟨0, by omega, rfl, rfl, rfl⟩
  case round =>
    obtain ⟨j, hj, rfl, rfl, hw⟩ := hrel
    rw [hw]
    clear hw
    obtain ⟨b0, b1⟩ := CL.out w (Below.refl _ _)
    have hjj : j = 0 ∨ j = 1 ∨ j = 2 := by omega
    clear hj
    rcases hjj with rfl | rfl | rfl
    · simp only [ccS]
      go_wp2_with fail
      go_roundw
      case rel => exact ⟨1, by omega, by go_num, by go_num, trivial⟩
      case measure => simp [intOf]
    · simp only [ccS]
      go_wp2_with fail
      go_roundw
      case rel => exact ⟨2, by omega, by go_num, by go_num, trivial⟩
      case measure => simp [intOf]
    · simp only [ccS]
      clear b0 b1
      go_wp2_with fail
      refine GR.out.mono ?_
      rintro e w1 ⟨hb1, v1, rfl, hv1⟩
      have B1 := Lib.hid hb1
      have O1 := Lib.hid hv1
      clear hb1 hv1
      go_wp2_with fail
      go_loopw [27, 6] (fun s v wr => ∃ j : Nat, j ≤ 2 ∧ s = .int .i64 j ∧ Hid (OwnQ wr w.heap.size v (ccP q [] j) ∧ Below w.heap.size w wr)) (fun s _ _ => 2 - (intOf s).toNat)
      case atStart => exact ⟨0, by omega, rfl, Lib.hid ⟨O1.out, B1.out⟩⟩
      case round =>
        obtain ⟨j, hj, rfl, HX⟩ := hrel
        have hjj : j = 0 ∨ j = 1 ∨ j = 2 := by omega
        clear hj
        rcases hjj with rfl | rfl | rfl
        · obtain ⟨b0, b1⟩ := CL.out _ HX.out.2
          have hown := HX.out.1
          unfold OwnQ at hown
          simp only [ccP, List.length_nil] at hown
          go_wp2_with (at_builtin; refine wpList_append_own _ rfl _ _ 48 rfl w.heap.size 52 i0 (.agg #[.int .i64 0, .int .i64 0]) 2 16 Try.underlying48 hi hz0 hz1 hz2 rfl (by decide) _ _ _ rfl hown ⟨b, 0, none⟩ 1 1 (qV [q]) rfl hlen.out (C0.out _ HX.out.2) (qV_one _) (by unfold maxLen; omega) (by omega) HX.out.2.size ?_)
          intro v' w9 hown9 hgrow _
          have B9 := Lib.hid (show Below w.heap.size w w9 from Below.grown HX.out.2 hgrow HX.out.2.size (fun k hk => (World.ownsRow.lt hown k hk).1))
          have O9 := Lib.hid (show OwnQ w9 w.heap.size v' (ccP q [] 1) from hown9)
          clear hown9 hgrow hown b0 b1
          go_wp2_with fail
          go_roundw
          case rel => exact ⟨1, by omega, by go_num, Lib.hid ⟨O9.out, B9.out⟩⟩
          case measure => simp [intOf]
        · obtain ⟨b0, b1⟩ := CL.out _ HX.out.2
          have hown := HX.out.1
          unfold OwnQ at hown
          simp only [ccP, List.length_nil, List.length_cons] at hown
          have HRUN := Lib.hid (run_append_owned_none (P := Try.prog) _ w.heap.size 48 48 52 i0 2 Try.underlying48 hi _ _ _ hown)
          go_wp2_with (at_builtin; (refine Lib.wpList_append_run _ rfl _ _ _ _ rfl _ _ rfl rfl _ _ HRUN.out ?_))
          have O9 := Lib.hid (show OwnQ _ w.heap.size _ (ccP q [] 2) from hown)
          clear hown b0 b1
          go_wp2_with fail
          go_roundw
          case rel => exact ⟨2, by omega, by go_num, Lib.hid ⟨O9.out, HX.out.2⟩⟩
          case measure => simp [intOf]
        · go_wp2_with fail
          go_ret
          exact ⟨HX.out.2, _, rfl, HX.out.1⟩
end Go.Proofs.Ytbnebinpemejlaa

namespace Go.Proofs.Ytbnebinpemejlaa
open Go.RowKit

/-- What openAt leaves of a good zone and a point of its dimension. -/
def OPRes (w : World) (n : Nat) (l : List Int) (ps : List Pq) (e : Ending) (w' : World) : Prop :=
  Below w.heap.size w w' ∧ ((ps.all vldC = false ∧ e = .returned (.tuple #[.agg (mcs 0 []), .slice none 0 0, .int .i64 2])) ∨
    (ps.all vldC = true ∧ ∃ v, e = .returned (.tuple #[.agg (mcs n l), v, .int .i64 0]) ∧ OwnQ w' w.heap.size v ((0, 1) :: ps)))

theorem OwnQ.low {w : World} {B B' : Nat} {v : Value} {ps : List Pq} (h : OwnQ w B v ps) (hb : B' ≤ B) : OwnQ w B' v ps := by
  unfold OwnQ at h ⊢
  refine ⟨h.1, ?_⟩
  rcases h.2 with q | ⟨g, cap, cur, q1, q2, q3⟩
  · exact Or.inl q
  · exact Or.inr ⟨g, cap, cur, q1, by omega, q3⟩

theorem grown_row (w : World) (b : Nat) (cs : Array Value) : w.grownBy (w.setRow b cs) (some b) := ⟨rfl, rfl, rfl, by simp, fun k _ hne => setRow_other w b k cs (by rintro rfl; exact hne rfl)⟩

theorem rd2_one {w : World} {b : Nat} {x y : Int} (h : Pair w b x y) : Rd2 w ⟨b, 0, none⟩ [(x, y)] := by
  intro j hj
  obtain rfl : j = 0 := by simpa using hj
  exact ⟨by simpa [Addr.add, gp] using h.facts.1, by simpa [Addr.add, gp] using h.facts.2.1⟩

theorem OwnQ.row {w : World} {B b B0 : Nat} {v : Value} {ps : List Pq} (h : OwnQ w B v ps) (hb : b < B) (h0 : B0 ≤ B) (cs : Array Value) : OwnQ (w.setRow b cs) B0 v ps := by
  have hl := World.ownsRow.lt h
  refine OwnQ.low (World.ownsRow.kept (row := some b) h (grown_row _ _ _) ?_) h0
  cases hv : v.ownBlock with
  | none => exact Or.inl rfl
  | some k => right; intro e; have := hl k hv; injection e with e; omega

set_option maxRecDepth 100000 in
set_option maxHeartbeats 4000000 in
theorem openat_core (n : Nat) (l : List Int) (ao : Option Addr) (cap : Nat) (ps : List Pq) (d : Addr) (pc : Nat) (w : World) (hA : Arg w ao l) (hc : chkE n l = 0) (hp : ps.length = n) (hP : Rd2 w d ps) (hI : Fits ps) :
    Calls Try.prog 97 #[.agg #[.int .i64 n, .slice ao l.length cap], .slice (some d) n pc] w (OPRes w n l ps) := by
  have hz := mx_zero
  have h0 := mx_build0
  obtain ⟨n', en, hn, hl, _⟩ := chk_ok hc
  obtain rfl : n' = n := by omega
  clear en
  have CC := Lib.hid (show ∀ (h b : Nat) (W : World), W.cell? ⟨h, 0, none⟩ = some (.slice (some ⟨b, 0, none⟩) 1 1) → W.cell? ⟨h, 1, none⟩ = some (.slice (some d) n' pc) → Rd2 W ⟨b, 0, none⟩ [((0 : Int), (1 : Int))] → Below w.heap.size w W →
      Calls Try.prog 122 #[.slice (some ⟨h, 0, none⟩) 2 2] W (fun e w' => Below W.heap.size W w' ∧ ∃ v, e = .returned v ∧ OwnQ w' W.heap.size v ((0, 1) :: ps)) from fun h b W h0 h1 hq hb => by
    subst hp
    exact concat_some h b (0, 1) ps d pc W h0 h1 hq (fun _ => ⟨d, rfl, hP.on hb⟩) (by omega))
  have CR := Lib.hid (show ∀ W, Below w.heap.size w W → Calls Try.prog 67 #[.agg #[.int .i64 n', .slice ao l.length cap]] W (fun e w' => e = .returned (.tuple #[.agg (mcs n' l), .bool true]) ∧ Below W.heap.size W w') from fun W h => by
    have := open_gen n' l ao cap W (hA.on h)
    rwa [rdW_ok hc, show okB n' l = true by unfold okB; rw [hc]; rfl] at this)
  have sz : (mcs n' l).size = 122 := mcs_size (by rw [hl]; exact dsq_le hn)
  have s1 := mcs_one n' l
  have sz0 := mcs_size (n := 0) (l := []) (by simp)
  have HP := Lib.hid hP
  have HI := Lib.hid hI
  have HPL := Lib.hid hp
  generalize l.length = len at CR ⊢
  obtain ⟨w0, hw0⟩ : ∃ w0, w0 = (w.alloc (.cells #[.int .i64 n', .slice ao len cap] 25)).alloc (.cells (mcs 0 []) 80) := ⟨_, rfl⟩
  have bx : Two w0 w.heap.size (.int .i64 n') (.slice ao len cap) := by rw [hw0]; exact (Two.made _ _ _ _).alloc _
  have BX := Lib.hid bx
  obtain ⟨b0, b1, b2, b3⟩ := bx.facts
  have V0 : Var w0 (w.heap.size + 1) (mcs 0 []) := by
    rw [hw0]
    have := Var.made (w.alloc (.cells #[.int .i64 n', .slice ao len cap] 25))
    simpa using this
  have E0 := Lib.hid (show Below w.heap.size w w0 by rw [hw0]; exact past_two (Below.refl _ _))
  have z0 : w0.heap.size = w.heap.size + 2 := by rw [hw0]; simp
  have HV := Lib.hid V0
  clear V0 hA bx hc hl hP hI hp
  go_enter Try.func97, Try.ntmps97
  go_upto_region 1 with (fail)
  rw [← hw0]
  clear hw0
  go_wp2_with fail
  refine (CR.out _ E0.out).mono ?_
  rintro e w1 ⟨rfl, hb⟩
  have V1 := HV.out.kept hb
  have E1 := below_on E0.out hb
  have hle := E1.size
  have z1 := hb.size
  obtain ⟨w2, hw2⟩ : ∃ w2, w2 = (w1.alloc (.cells (mcs 0 []) 80)).setRow w1.heap.size (mcs n' l) := ⟨_, rfl⟩
  have V2 := Lib.hid (show Var w2 (w.heap.size + 1) (mcs 0 []) by rw [hw2]; exact (V1.kept (one_more _)).far (b' := w1.heap.size) (by have := V1.lt; omega) (mcs n' l))
  have M2 := Lib.hid (show Var w2 w1.heap.size (mcs n' l) by rw [hw2]; exact (Var.made w1).put (mcs n' l) sz)
  have B2 := Lib.hid (show Below w0.heap.size w0 w2 by rw [hw2]; exact Below.setRow (hb.alloc hb.size _) hb.size _)
  have E2 := Lib.hid (below_on E0.out B2.out)
  clear V1 E1 hb b0 b1 b2 b3
  obtain ⟨b0, b1, b2, b3⟩ := (BX.out.kept B2.out).facts
  have hne : w.heap.size + 1 ≠ w1.heap.size := by omega
  go_upto_region 2 with (refine wpl_store rfl _ _ rfl _ _ rfl rfl _ (Var.made _) sz s1 ?_)
  rw [← hw2]
  clear hw2
  have D0 : ((n' : Int) != (n' : Int)) = false := by simp
  go_wp2_with fail
  clear b0 b1 b2 b3
  go_loopw [28] (fun s wr => ∃ t : Nat, t ≤ n' ∧ s = .int .i64 t ∧ Hid (∀ k, k < t → vldC (gp ps k) = true) ∧ Hid (Below w2.heap.size w2 wr)) (fun s _ => n' - (intOf s).toNat)
  case atStart => exact ⟨0, by omega, rfl, Lib.hid (fun k hk => by omega), Lib.hid (Below.refl _ _)⟩
  case round =>
    obtain ⟨t, ht, rfl, HK, HB⟩ := hrel
    by_cases htn : t < n'
    case pos =>
      have D9 : decide ((t : Int) < (n' : Int)) = true := by simp; omega
      obtain ⟨i1, i2⟩ := HI.out t (by rw [HPL.out]; exact htn)
      obtain ⟨c1, c2⟩ := (HP.out.on (below_on E2.out HB.out)) t (by rw [HPL.out]; exact htn)
      obtain ⟨q, hq⟩ : ∃ q, q = gp ps t := ⟨_, rfl⟩
      rw [← hq] at c1 c2 i1 i2
      have HQ := Lib.hid hq
      clear hq
      obtain ⟨x, y⟩ := q
      simp only at c1 c2 i1 i2
      obtain ⟨w4, hw4⟩ : ∃ w4, w4 = wr.alloc (.cells #[.int .i64 x, .int .i64 y] 52) := ⟨_, rfl⟩
      have P4 := Lib.hid (show Pair w4 wr.heap.size x y by rw [hw4]; exact Pair.made _ _ _ _)
      have B4 := Lib.hid (show Below w2.heap.size w2 w4 by rw [hw4]; exact HB.out.alloc HB.out.size _)
      go_upto_region 7 with (fail)
      rw [← hw4]
      clear hw4 c1 c2
      obtain ⟨p0, p1, p2, p3⟩ := P4.out.facts
      cases v : vldB x y
      case false =>
        have HF := Lib.hid (show ps.all vldC = false by
          cases e : ps.all vldC
          · rfl
          · have := rd_all e t (by rw [HPL.out]; exact htn)
            rw [← HQ.out] at this
            simp [vldC, v] at this)
        have V := Lib.hid v
        clear v
        go_wp2_with fail
        refine (valid_as _ i1 i2 V.out).mono ?_
        rintro e w5 ⟨rfl, hb5⟩
        have B5 := Lib.hid (below_on B4.out hb5)
        have V5 := Lib.hid (V2.out.kept B5.out)
        clear hb5 p0 p1 p2 p3
        go_wp2_with (refine wpl_store rfl _ _ rfl _ _ rfl rfl _ V5.out sz0 (mcs_one _ _) ?_)
        refine bodyPost_ret (results_mx3 Try.results97 _ rfl rfl rfl (V5.out.put (mcs 0 []) sz0)) rfl ⟨Below.setRow (below_on E2.out B5.out) (by omega) _, Or.inl ⟨HF.out, rfl⟩⟩
      case true =>
        have V := Lib.hid v
        by_cases x0 : x < 0
        case pos =>
          have HF := Lib.hid (show ps.all vldC = false by
            cases e : ps.all vldC
            · rfl
            · have := rd_all e t (by rw [HPL.out]; exact htn)
              rw [← HQ.out] at this
              simp [vldC, v] at this
              omega)
          have D : decide (x < (0 : Int)) = true := by simpa using x0
          clear v
          go_wp2_with fail
          refine (valid_as _ i1 i2 V.out).mono ?_
          rintro e w5 ⟨rfl, hb5⟩
          have B5 := Lib.hid (below_on B4.out hb5)
          have V5 := Lib.hid (V2.out.kept B5.out)
          clear p0 p1 p2 p3
          obtain ⟨p0, p1, p2, p3⟩ := (P4.out.kept hb5).facts
          clear hb5
          go_wp2_with (refine wpl_store rfl _ _ rfl _ _ rfl rfl _ V5.out sz0 (mcs_one _ _) ?_)
          refine bodyPost_ret (results_mx3 Try.results97 _ rfl rfl rfl (V5.out.put (mcs 0 []) sz0)) rfl ⟨Below.setRow (below_on E2.out B5.out) (by omega) _, Or.inl ⟨HF.out, rfl⟩⟩
        case neg =>
          have HK2 := Lib.hid (show vldC (gp ps t) = true by rw [← HQ.out]; simp [vldC, v]; omega)
          have D : decide (x < (0 : Int)) = false := by simp; omega
          clear v
          go_wp2_with fail
          refine (valid_as _ i1 i2 V.out).mono ?_
          rintro e w5 ⟨rfl, hb5⟩
          have B5 := Lib.hid (below_on B4.out hb5)
          clear p0 p1 p2 p3
          obtain ⟨p0, p1, p2, p3⟩ := (P4.out.kept hb5).facts
          clear hb5
          go_wp2_with fail
          go_roundw
          case rel =>
            refine ⟨t + 1, by omega, by go_num, Lib.hid (fun k hk => ?_), B5⟩
            by_cases e : k = t
            · rw [e]; exact HK2.out
            · exact HK.out k (by omega)
          case measure => simp [intOf]; omega
    case neg =>
      obtain rfl : t = n' := by omega
      have D9 : decide ((t : Int) < (t : Int)) = false := by simp
      have HALL := Lib.hid (show ps.all vldC = true from rd_of (fun k hk => HK.out k (by rw [HPL.out] at hk; exact hk)))
      have B3 := Lib.hid HB.out
      have M3 := Lib.hid ((M2.out.kept HB.out).kept ((Below.refl wr.heap.size wr).drew))
      clear HK HB
      go_wp2_with fail
      refine wp_region_held_drew (S := (fun w' => Var w' w1.heap.size (mcs t l))) (by kernel_rfl) M3.out (fun h0 => ?_)
      refine wpAnyH_take (i := 0) (v := (.agg (mcs t l))) rfl (by kernel_rfl) (by kernel_rfl) (by kernel_rfl) (fun _ _ _ h => h) (Or.inl ⟨by rfl, fun w' hS => yld_load _ rfl _ rfl _ hS⟩) h0 ?_
      simp only [Act.put, List.getElem_toArray, List.getElem_cons_zero, List.setIfInBounds_toArray, List.set_cons_zero, List.set_cons_succ]
      refine wpAnyH_take (i := 3) (v := ?v2) rfl (by kernel_rfl) (by kernel_rfl) (by kernel_rfl) (fun _ _ _ h => h) (Or.inl ⟨by rfl, ?hy2⟩) h0 ?rest2
      case hy2 => (intro w' hS; (try dsimp only at hS); go_simp; try (with_reducible rfl))
      simp only [Act.put, List.getElem_toArray, List.getElem_cons_zero, List.getElem_cons_succ, List.setIfInBounds_toArray, List.set_cons_zero, List.set_cons_succ]
      refine wpAnyH_ready (rs := [1]) (by kernel_rfl) (by simp) (AllReadyH.cons rfl (fun K hK => ?_) AllReadyH.nil)
      rw [if_pos (by rfl)]
      go_simp
      refine (qzero_any _).mono ?_
      rintro e w4 ⟨rfl, hb4⟩
      have B4 := Lib.hid (below_on B3.out.drew hb4)
      have M4 := Lib.hid (M3.out.kept hb4)
      clear hb4
      go_simp
      refine hK.out _ _ M4.out (fun h0_1 => ?_)
      clear hK K h0
      refine wpAnyH_ready (rs := [2]) (by kernel_rfl) (by simp) (AllReadyH.cons rfl (fun K hK => ?_) AllReadyH.nil)
      rw [if_pos (by rfl)]
      go_simp
      have B5 := Lib.hid (B4.out.alloc B4.out.size (.cells #[.int .i64 0, .int .i64 1] 52))
      go_simp
      refine hK.out _ _ (M4.out.kept (one_more _)) (fun h0_2 => ?_)
      clear hK K h0_1
      refine wpAnyH_ready (rs := [4]) (by kernel_rfl) (by simp) (AllReadyH.cons rfl (fun K hK => ?_) AllReadyH.nil)
      rw [if_pos (by rfl)]
      go_simp
      obtain ⟨w6, hw6⟩ : ∃ w6, w6 = (w4.alloc (.cells #[.int .i64 0, .int .i64 1] 52)).alloc (.cells #[.slice (some ⟨w4.heap.size, 0, none⟩) 1 1, .slice (some d) t pc] 48) := ⟨_, rfl⟩
      have B6 := Lib.hid (show Below w2.heap.size w2 w6 by rw [hw6]; exact B5.out.alloc B5.out.size _)
      have M6 := Lib.hid (show Var w6 w1.heap.size (mcs t l) by rw [hw6]; exact (M4.out.kept (one_more _)).kept (one_more _))
      have C6 := Lib.hid (CC.out (w4.heap.size + 1) w4.heap.size w6 (by rw [hw6]; go_simp) (by rw [hw6]; go_simp) (by rw [hw6]; exact rd2_one ((Pair.made w4 0 1 _).alloc _)) (below_on E2.out B6.out))
      rw [← hw6]
      clear hw6
      go_simp
      refine hK.out _ _ M6.out (fun h0_3 => ?_)
      clear hK K h0_2
      refine wpAnyH_ready (rs := [5]) (by kernel_rfl) (by simp) (AllReadyH.cons rfl (fun K hK => ?_) AllReadyH.nil)
      rw [if_pos (by rfl)]
      go_simp
      refine C6.out.mono ?_
      rintro e w7 ⟨hb7, v, rfl, hv⟩
      have B7 := Lib.hid (below_on B6.out hb7)
      have M7 := Lib.hid (M6.out.kept hb7)
      have O7 := Lib.hid hv
      have V7 := Lib.hid (V2.out.kept B7.out)
      have z6 := B6.out.size
      clear hb7 hv
      go_simp
      refine hK.out _ _ M7.out (fun h0_4 => ?_)
      clear hK K h0_3
      refine wpAnyH_ready (rs := [6]) (by kernel_rfl) (by simp) (AllReadyH.cons rfl (fun K hK => ?_) AllReadyH.nil)
      rw [if_pos (by rfl)]
      refine wp_store_row _ _ _ rfl (w.heap.size + 1) (mcs t l) rfl rfl _ _ V7.out.1 (by rw [sz]; exact mx_size) (by rw [V7.out.2, sz]) (mcs_one _ _) ?_
      refine hK.out _ _ (M7.out.far (by omega) _) (fun h0_5 => ?_)
      clear hK K h0_4
      refine wpAnyH_take (i := 7) (v := ?v3) rfl (by kernel_rfl) (by kernel_rfl) (by kernel_rfl) (fun _ _ _ h => h) (Or.inl ⟨by rfl, ?hy3⟩) h0_5 ?rest3
      case hy3 => (intro w' hS; (try dsimp only at hS); go_simp; try (with_reducible rfl))
      simp only [Act.put, List.getElem_toArray, List.getElem_cons_zero, List.getElem_cons_succ, List.setIfInBounds_toArray, List.set_cons_zero, List.set_cons_succ]
      refine wpAnyH_take (i := 8) (v := ?v4) rfl (by kernel_rfl) (by kernel_rfl) (by kernel_rfl) (fun _ _ _ h => h) (Or.inl ⟨by rfl, ?hy4⟩) h0_5 ?rest4
      case hy4 => (intro w' hS; (try dsimp only at hS); go_simp; try (with_reducible rfl))
      simp only [Act.put, List.getElem_toArray, List.getElem_cons_zero, List.getElem_cons_succ, List.setIfInBounds_toArray, List.set_cons_zero, List.set_cons_succ]
      refine wpAnyH_done (by kernel_rfl) ?_ _
      go_wp2_with fail
      refine bodyPost_ret (results_mx3 Try.results97 _ rfl rfl rfl (V7.out.put (mcs t l) sz)) rfl ⟨Below.setRow (below_on E2.out B7.out) (by omega) _, Or.inr ⟨HALL.out, v, rfl, ?_⟩⟩
      exact OwnQ.row O7.out (by have := V2.out.lt; omega) (by have := E2.out.size; omega) _

set_option maxRecDepth 100000 in
set_option maxHeartbeats 4000000 in
theorem openat_nil (n : Nat) (l : List Int) (ao : Option Addr) (cap : Nat) (w : World) (hA : Arg w ao l) (hc : chkE n l = 0) (hn0 : n = 0) :
    Calls Try.prog 97 #[.agg #[.int .i64 n, .slice ao l.length cap], .slice none 0 0] w (OPRes w n l []) := by
  have hz := mx_zero
  have h0 := mx_build0
  obtain ⟨n', en, hn, hl, _⟩ := chk_ok hc
  obtain rfl : n' = n := by omega
  clear en
  have CC := Lib.hid (show ∀ (h b : Nat) (W : World), W.cell? ⟨h, 0, none⟩ = some (.slice (some ⟨b, 0, none⟩) 1 1) → W.cell? ⟨h, 1, none⟩ = some (.slice none 0 0) → Rd2 W ⟨b, 0, none⟩ [((0 : Int), (1 : Int))] → Below w.heap.size w W →
      Calls Try.prog 122 #[.slice (some ⟨h, 0, none⟩) 2 2] W (fun e w' => Below W.heap.size W w' ∧ ∃ v, e = .returned v ∧ OwnQ w' W.heap.size v ((0, 1) :: [])) from fun h b W h0 h1 hq hb => concat_nil h b (0, 1) W h0 h1 hq)
  have CR := Lib.hid (show ∀ W, Below w.heap.size w W → Calls Try.prog 67 #[.agg #[.int .i64 n', .slice ao l.length cap]] W (fun e w' => e = .returned (.tuple #[.agg (mcs n' l), .bool true]) ∧ Below W.heap.size W w') from fun W h => by
    have := open_gen n' l ao cap W (hA.on h)
    rwa [rdW_ok hc, show okB n' l = true by unfold okB; rw [hc]; rfl] at this)
  have sz : (mcs n' l).size = 122 := mcs_size (by rw [hl]; exact dsq_le hn)
  have s1 := mcs_one n' l
  have sz0 := mcs_size (n := 0) (l := []) (by simp)
  have HN0 := Lib.hid hn0
  generalize l.length = len at CR ⊢
  obtain ⟨w0, hw0⟩ : ∃ w0, w0 = (w.alloc (.cells #[.int .i64 n', .slice ao len cap] 25)).alloc (.cells (mcs 0 []) 80) := ⟨_, rfl⟩
  have bx : Two w0 w.heap.size (.int .i64 n') (.slice ao len cap) := by rw [hw0]; exact (Two.made _ _ _ _).alloc _
  have BX := Lib.hid bx
  obtain ⟨b0, b1, b2, b3⟩ := bx.facts
  have V0 : Var w0 (w.heap.size + 1) (mcs 0 []) := by
    rw [hw0]
    have := Var.made (w.alloc (.cells #[.int .i64 n', .slice ao len cap] 25))
    simpa using this
  have E0 := Lib.hid (show Below w.heap.size w w0 by rw [hw0]; exact past_two (Below.refl _ _))
  have z0 : w0.heap.size = w.heap.size + 2 := by rw [hw0]; simp
  have HV := Lib.hid V0
  clear V0 hA bx hc hl hn0
  go_enter Try.func97, Try.ntmps97
  go_upto_region 1 with (fail)
  rw [← hw0]
  clear hw0
  go_wp2_with fail
  refine (CR.out _ E0.out).mono ?_
  rintro e w1 ⟨rfl, hb⟩
  have V1 := HV.out.kept hb
  have E1 := below_on E0.out hb
  have hle := E1.size
  have z1 := hb.size
  obtain ⟨w2, hw2⟩ : ∃ w2, w2 = (w1.alloc (.cells (mcs 0 []) 80)).setRow w1.heap.size (mcs n' l) := ⟨_, rfl⟩
  have V2 := Lib.hid (show Var w2 (w.heap.size + 1) (mcs 0 []) by rw [hw2]; exact (V1.kept (one_more _)).far (b' := w1.heap.size) (by have := V1.lt; omega) (mcs n' l))
  have M2 := Lib.hid (show Var w2 w1.heap.size (mcs n' l) by rw [hw2]; exact (Var.made w1).put (mcs n' l) sz)
  have B2 := Lib.hid (show Below w0.heap.size w0 w2 by rw [hw2]; exact Below.setRow (hb.alloc hb.size _) hb.size _)
  have E2 := Lib.hid (below_on E0.out B2.out)
  clear V1 E1 hb b0 b1 b2 b3
  obtain ⟨b0, b1, b2, b3⟩ := (BX.out.kept B2.out).facts
  have hne : w.heap.size + 1 ≠ w1.heap.size := by omega
  go_upto_region 2 with (refine wpl_store rfl _ _ rfl _ _ rfl rfl _ (Var.made _) sz s1 ?_)
  rw [← hw2]
  clear hw2
  have D0 : ((0 : Int) != (n' : Int)) = false := by have := HN0.out; simp; omega
  go_wp2_with fail
  clear b0 b1 b2 b3
  go_loopw [28] (fun s wr => ∃ t : Nat, t ≤ n' ∧ s = .int .i64 t ∧ Hid (∀ k, k < t → vldC (gp [] k) = true) ∧ Hid (Below w2.heap.size w2 wr)) (fun s _ => n' - (intOf s).toNat)
  case atStart => exact ⟨0, by omega, rfl, Lib.hid (fun k hk => by omega), Lib.hid (Below.refl _ _)⟩
  case round =>
    obtain ⟨t, ht, rfl, HK, HB⟩ := hrel
    have hn00 := HN0.out
    obtain rfl : t = 0 := by omega
    clear hn00
    have D9 : decide ((0 : Int) < (0 : Int)) = false := by simp
    have HALL := Lib.hid (show ([] : List Pq).all vldC = true from rfl)
    have B3 := Lib.hid HB.out
    have M3 := Lib.hid ((M2.out.kept HB.out).kept ((Below.refl wr.heap.size wr).drew))
    clear HK HB
    go_wp2_with fail
    refine wp_region_held_drew (S := (fun w' => Var w' w1.heap.size (mcs n' l))) (by kernel_rfl) M3.out (fun h0 => ?_)
    refine wpAnyH_take (i := 0) (v := (.agg (mcs n' l))) rfl (by kernel_rfl) (by kernel_rfl) (by kernel_rfl) (fun _ _ _ h => h) (Or.inl ⟨by rfl, fun w' hS => yld_load _ rfl _ rfl _ hS⟩) h0 ?_
    simp only [Act.put, List.getElem_toArray, List.getElem_cons_zero, List.setIfInBounds_toArray, List.set_cons_zero, List.set_cons_succ]
    refine wpAnyH_take (i := 3) (v := ?v6) rfl (by kernel_rfl) (by kernel_rfl) (by kernel_rfl) (fun _ _ _ h => h) (Or.inl ⟨by rfl, ?hy6⟩) h0 ?rest6
    case hy6 => (intro w' hS; (try dsimp only at hS); go_simp; try (with_reducible rfl))
    simp only [Act.put, List.getElem_toArray, List.getElem_cons_zero, List.getElem_cons_succ, List.setIfInBounds_toArray, List.set_cons_zero, List.set_cons_succ]
    refine wpAnyH_ready (rs := [1]) (by kernel_rfl) (by simp) (AllReadyH.cons rfl (fun K hK => ?_) AllReadyH.nil)
    rw [if_pos (by rfl)]
    go_simp
    refine (qzero_any _).mono ?_
    rintro e w4 ⟨rfl, hb4⟩
    have B4 := Lib.hid (below_on B3.out.drew hb4)
    have M4 := Lib.hid (M3.out.kept hb4)
    clear hb4
    go_simp
    refine hK.out _ _ M4.out (fun h0_1 => ?_)
    clear hK K h0
    refine wpAnyH_ready (rs := [2]) (by kernel_rfl) (by simp) (AllReadyH.cons rfl (fun K hK => ?_) AllReadyH.nil)
    rw [if_pos (by rfl)]
    go_simp
    have B5 := Lib.hid (B4.out.alloc B4.out.size (.cells #[.int .i64 0, .int .i64 1] 52))
    go_simp
    refine hK.out _ _ (M4.out.kept (one_more _)) (fun h0_2 => ?_)
    clear hK K h0_1
    refine wpAnyH_ready (rs := [4]) (by kernel_rfl) (by simp) (AllReadyH.cons rfl (fun K hK => ?_) AllReadyH.nil)
    rw [if_pos (by rfl)]
    go_simp
    obtain ⟨w6, hw6⟩ : ∃ w6, w6 = (w4.alloc (.cells #[.int .i64 0, .int .i64 1] 52)).alloc (.cells #[.slice (some ⟨w4.heap.size, 0, none⟩) 1 1, .slice none 0 0] 48) := ⟨_, rfl⟩
    have B6 := Lib.hid (show Below w2.heap.size w2 w6 by rw [hw6]; exact B5.out.alloc B5.out.size _)
    have M6 := Lib.hid (show Var w6 w1.heap.size (mcs n' l) by rw [hw6]; exact (M4.out.kept (one_more _)).kept (one_more _))
    have C6 := Lib.hid (CC.out (w4.heap.size + 1) w4.heap.size w6 (by rw [hw6]; go_simp) (by rw [hw6]; go_simp) (by rw [hw6]; exact rd2_one ((Pair.made w4 0 1 _).alloc _)) (below_on E2.out B6.out))
    rw [← hw6]
    clear hw6
    go_simp
    refine hK.out _ _ M6.out (fun h0_3 => ?_)
    clear hK K h0_2
    refine wpAnyH_ready (rs := [5]) (by kernel_rfl) (by simp) (AllReadyH.cons rfl (fun K hK => ?_) AllReadyH.nil)
    rw [if_pos (by rfl)]
    go_simp
    refine C6.out.mono ?_
    rintro e w7 ⟨hb7, v, rfl, hv⟩
    have B7 := Lib.hid (below_on B6.out hb7)
    have M7 := Lib.hid (M6.out.kept hb7)
    have O7 := Lib.hid hv
    have V7 := Lib.hid (V2.out.kept B7.out)
    have z6 := B6.out.size
    clear hb7 hv
    go_simp
    refine hK.out _ _ M7.out (fun h0_4 => ?_)
    clear hK K h0_3
    refine wpAnyH_ready (rs := [6]) (by kernel_rfl) (by simp) (AllReadyH.cons rfl (fun K hK => ?_) AllReadyH.nil)
    rw [if_pos (by rfl)]
    refine wp_store_row _ _ _ rfl (w.heap.size + 1) (mcs n' l) rfl rfl _ _ V7.out.1 (by rw [sz]; exact mx_size) (by rw [V7.out.2, sz]) (mcs_one _ _) ?_
    refine hK.out _ _ (M7.out.far (by omega) _) (fun h0_5 => ?_)
    clear hK K h0_4
    refine wpAnyH_take (i := 7) (v := ?v7) rfl (by kernel_rfl) (by kernel_rfl) (by kernel_rfl) (fun _ _ _ h => h) (Or.inl ⟨by rfl, ?hy7⟩) h0_5 ?rest7
    case hy7 => (intro w' hS; (try dsimp only at hS); go_simp; try (with_reducible rfl))
    simp only [Act.put, List.getElem_toArray, List.getElem_cons_zero, List.getElem_cons_succ, List.setIfInBounds_toArray, List.set_cons_zero, List.set_cons_succ]
    refine wpAnyH_take (i := 8) (v := ?v8) rfl (by kernel_rfl) (by kernel_rfl) (by kernel_rfl) (fun _ _ _ h => h) (Or.inl ⟨by rfl, ?hy8⟩) h0_5 ?rest8
    case hy8 => (intro w' hS; (try dsimp only at hS); go_simp; try (with_reducible rfl))
    simp only [Act.put, List.getElem_toArray, List.getElem_cons_zero, List.getElem_cons_succ, List.setIfInBounds_toArray, List.set_cons_zero, List.set_cons_succ]
    refine wpAnyH_done (by kernel_rfl) ?_ _
    go_wp2_with fail
    refine bodyPost_ret (results_mx3 Try.results97 _ rfl rfl rfl (V7.out.put (mcs n' l) sz)) rfl ⟨Below.setRow (below_on E2.out B7.out) (by omega) _, Or.inr ⟨HALL.out, v, rfl, ?_⟩⟩
    exact OwnQ.row O7.out (by have := V2.out.lt; omega) (by have := E2.out.size; omega) _

theorem rdE_bad {N : Int} {l : List Int} {ps : List Pq} (h : okB N l = false ∨ (ps.length : Int) ≠ N) : rdE N l ps = 2 := by
  unfold rdE
  rw [if_neg]
  rintro ⟨h1, h2, _⟩
  rcases h with h | h
  · unfold okB at h; simp [h1] at h
  · exact h h2

theorem rdE_all {N : Int} {l : List Int} {ps : List Pq} (h : ps.all vldC = false) : rdE N l ps = 2 := by
  unfold rdE
  rw [if_neg]
  rintro ⟨_, _, h3⟩
  rw [h] at h3; cases h3

theorem rdE_yes {N : Int} {l : List Int} {ps : List Pq} (h1 : chkE N l = 0) (h2 : (ps.length : Int) = N) (h3 : ps.all vldC = true) : rdE N l ps ≠ 2 := by
  unfold rdE
  rw [if_pos ⟨h1, h2, h3⟩]
  split <;> omega

/-- What openAt leaves. -/
def OARes (w : World) (N : Int) (l : List Int) (ps : List Pq) (e : Ending) (w' : World) : Prop :=
  Below w.heap.size w w' ∧ ((rdE N l ps = 2 ∧ e = .returned (.tuple #[.agg (mcs 0 []), .slice none 0 0, .int .i64 2])) ∨
    (rdE N l ps ≠ 2 ∧ ∃ v, e = .returned (.tuple #[.agg (mcs N.toNat l), v, .int .i64 0]) ∧ OwnQ w' w.heap.size v ((0, 1) :: ps)))

theorem openat_gen (N : Int) (l : List Int) (ao : Option Addr) (cap : Nat) (ps : List Pq) (po : Option Addr) (pc : Nat) (w : World) (hA : Arg w ao l) (hP : Arg2 w po ps) (hI : Fits ps) (hN : po = none → pc = 0) :
    Calls Try.prog 97 #[.agg #[.int .i64 N, .slice ao l.length cap], .slice po ps.length pc] w (OARes w N l ps) := by
  by_cases hb : okB N l = false ∨ (ps.length : Int) ≠ N
  · refine (openat_bad N l ao cap po ps.length pc w hA hb).mono ?_
    rintro e w' ⟨rfl, hb'⟩
    exact ⟨hb', Or.inl ⟨rdE_bad hb, rfl⟩⟩
  · have hc : chkE N l = 0 := by
      by_cases e : chkE N l = 0
      · exact e
      · exact absurd (Or.inl (by unfold okB; simp [e])) hb
    have hl : (ps.length : Int) = N := by
      by_cases e : (ps.length : Int) = N
      · exact e
      · exact absurd (Or.inr e) hb
    clear hb
    obtain ⟨n, rfl, hn, _⟩ := chk_ok hc
    have key : Calls Try.prog 97 #[.agg #[.int .i64 n, .slice ao l.length cap], .slice po ps.length pc] w (OPRes w n l ps) := by
      cases po with
      | none =>
        obtain rfl : pc = 0 := hN rfl
        have e : ps = [] := by
          by_cases c : ps = []
          · exact c
          · obtain ⟨_, q, _⟩ := hP c; cases q
        subst e
        simp at hl
        exact openat_nil n l ao cap w hA hc (by omega)
      | some d =>
        have hl' : ps.length = n := by omega
        have hR : Rd2 w d ps := by
          by_cases c : ps = []
          · subst c; intro j hj; simp at hj
          · obtain ⟨a, q, h⟩ := hP c
            injection q with q; subst q; exact h
        have := openat_core n l ao cap ps d pc w hA hc hl' hR hI
        rw [hl']; exact this
    refine key.mono ?_
    rintro e w' ⟨hb', h⟩
    refine ⟨hb', ?_⟩
    rcases h with ⟨h1, h2⟩ | ⟨h1, v, h2, h3⟩
    · exact Or.inl ⟨rdE_all h1, h2⟩
    · exact Or.inr ⟨rdE_yes hc hl h1, v, by rw [h2]; simp, h3⟩
end Go.Proofs.Ytbnebinpemejlaa
