/- Contracts of Close, Zero and All of layer 3's reference.; The contract of layer 3's Close.; Contracts of Zero and All of layer 3's reference.; Contracts of slices.Repeat at one limit, and layer 3's Zero and All.; Contracts of layer 3's uniform, Zero and All. -/
import Derived.Test.YtbnebinpemejlaaG4
import Derived.Test.YtbnebinpemejlaaG9
import Derived.Shelf.Bits.Mul64
import Derived.Test.YtbnebinpemejlaaG10

namespace Go.Proofs.Ytbnebinpemejlaa
open Go.RowKit

def closeB (N : Int) (l : List Int) : Bool := dimB N && decide (l.length = (N.toNat + 1) * (N.toNat + 1)) && l.all lvB

def closeE (N : Int) (l : List Int) : Int := if closeB N l then cloE N.toNat l else 2

theorem closeE_bad1 {N : Int} {l : List Int} (h : dimB N = false) : closeE N l = 2 := by simp [closeE, closeB, h]

theorem closeE_bad2 {N : Int} {l : List Int} (h : l.length ≠ (N.toNat + 1) * (N.toNat + 1)) : closeE N l = 2 := by simp [closeE, closeB, h]

theorem closeE_bad3 {N : Int} {l : List Int} {k : Nat} (hk : k < l.length) (h : lvB (Zo.gt l k) = false) : closeE N l = 2 := by
  have : l.all lvB = false := by
    rw [List.all_eq_false]
    exact ⟨l[k], List.getElem_mem hk, by rw [show l[k] = Zo.gt l k by simp [Zo.gt, hk], h]; simp⟩
  simp [closeE, closeB, this]

theorem closeE_ok {n : Nat} {l : List Int} (hn : n ≤ 10) (hl : l.length = (n + 1) * (n + 1)) (h : ∀ k, k < l.length → lvB (Zo.gt l k) = true) : closeE (n : Int) l = cloE n l := by
  have h1 : l.all lvB = true := by
    rw [List.all_eq_true]
    intro x hx
    obtain ⟨k, hk, rfl⟩ := List.getElem_of_mem hx
    have := h k hk
    simpa [Zo.gt, hk] using this
  have d : dimB (n : Int) = true := by unfold dimB; simp; omega
  simp [closeE, closeB, d, hl, h1]

theorem two_res (w : World) : Two (w.alloc (.cells #[.int .i64 0, .slice none 0 0] 25)) w.heap.size (.int .i64 0) (.slice none 0 0) := Two.made _ _ _ _

set_option maxHeartbeats 400000 in
theorem close_bad1 (N : Int) (l : List Int) (ao : Option Addr) (cap : Nat) (w : World) (h : dimB N = false) :
    Calls Try.prog 15 #[.int .i64 N, .slice ao l.length cap] w (ZRes w 0 [] 2) := by
  have p := fun W => dimension_any N W
  rw [h] at p
  have PD := Lib.hid p
  obtain ⟨b0, b1, b2, b3⟩ := (two_res w).facts
  clear p h
  go_enter Try.func15, Try.ntmps15
  go_wp2_with fail
  refine (PD.out _).mono ?_
  rintro e w1 ⟨rfl, rfl⟩
  go_wp2_with fail
  refine bodyPost_ret (v := .tuple #[.agg #[.int .i64 0, .slice none 0 0], .int .i64 2]) (by simp [results, Try.results15, go_sem]) rfl (zres_bad ?_)
  exact one_more _

set_option maxHeartbeats 400000 in
theorem close_bad2 (n : Nat) (l : List Int) (ao : Option Addr) (cap : Nat) (w : World) (hn : n ≤ 10) (h : l.length ≠ (n + 1) * (n + 1)) :
    Calls Try.prog 15 #[.int .i64 n, .slice ao l.length cap] w (ZRes w 0 [] 2) := by
  have p := fun W => dimension_any n W
  rw [show dimB n = true by unfold dimB; simp; omega] at p
  have PD := Lib.hid p
  have t3 : ((n : Int) + 1) * ((n : Int) + 1) ≤ 121 ∧ 0 ≤ ((n : Int) + 1) * ((n : Int) + 1) := by
    have : (n + 1) * (n + 1) ≤ 11 * 11 := Nat.mul_le_mul (by omega) (by omega)
    constructor
    · exact_mod_cast this
    · exact_mod_cast Nat.zero_le _
  have h2 : ((l.length : Int) != ((n : Int) + 1) * ((n : Int) + 1)) = true := by
    simp; intro e; apply h; exact_mod_cast e
  generalize l.length = len at *
  obtain ⟨b0, b1, b2, b3⟩ := (two_res w).facts
  clear p h
  go_enter Try.func15, Try.ntmps15
  go_wp2_with fail
  refine (PD.out _).mono ?_
  rintro e w1 ⟨rfl, rfl⟩
  go_wp2_with fail
  refine bodyPost_ret (v := .tuple #[.agg #[.int .i64 0, .slice none 0 0], .int .i64 2]) (by simp [results, Try.results15, go_sem]) rfl (zres_bad ?_)
  exact one_more _

set_option maxHeartbeats 1600000 in
theorem close_any (n : Nat) (l : List Int) (a : Addr) (cap : Nat) (w : World) (hn : n ≤ 10) (hl : l.length = (n + 1) * (n + 1)) (hR : Rd w a l) :
    Calls Try.prog 15 #[.int .i64 n, .slice (some a) l.length cap] w (ZRes w n (Zo.clo n l) (closeE n l)) := by
  obtain ⟨len, hlen⟩ : ∃ len, len = l.length := ⟨_, rfl⟩
  obtain ⟨w0, hw0⟩ : ∃ w0, w0 = w.alloc (.cells #[.int .i64 0, .slice none 0 0] 25) := ⟨_, rfl⟩
  have rs : Two w0 w.heap.size (.int .i64 0) (.slice none 0 0) := by rw [hw0]; exact two_res w
  have e0 : Below w.heap.size w w0 := by rw [hw0]; exact one_more _
  have z0 : w0.heap.size = w.heap.size + 1 := by rw [hw0]; simp
  have HR := Lib.hid (hR.on e0)
  have CP : Hid (∀ W, Rd W a l → Calls Try.prog 66 #[.agg #[.int .i64 n, .slice (some a) len cap]] W (fun e w' => ∃ g c, e = .returned (.agg #[.int .i64 n, .slice (some ⟨g, 0, none⟩) len c]) ∧ W.heap.size ≤ g ∧ Own w' g c l ∧ Below W.heap.size W w')) := Lib.hid fun W h => by have := copied_any n l a cap W (by rw [hl]; exact dsq_pos n) (by rw [hl]; have := dsq_le hn; omega) h; rw [← hlen] at this; exact this
  have p := fun W => dimension_any n W
  rw [show dimB n = true by unfold dimB; simp; omega] at p
  have PD := Lib.hid p
  have t3 : ((n : Int) + 1) * ((n : Int) + 1) ≤ 121 ∧ 0 ≤ ((n : Int) + 1) * ((n : Int) + 1) := by
    have : (n + 1) * (n + 1) ≤ 11 * 11 := Nat.mul_le_mul (by omega) (by omega)
    constructor
    · exact_mod_cast this
    · exact_mod_cast Nat.zero_le _
  have h2 : ((len : Int) != ((n : Int) + 1) * ((n : Int) + 1)) = false := by
    rw [hlen, hl]; simp
  have lb : len ≤ 121 := by rw [hlen, hl]; exact dsq_le hn
  have lx : l.length = (n + 1) * (n + 1) := hl
  have HL := Lib.hid hl
  have HLn := Lib.hid hlen
  have E0 := Lib.hid e0
  rw [← hlen]
  clear p hl hlen hR e0 lx
  go_enter Try.func15, Try.ntmps15
  go_wp2_with fail
  rw [← hw0]
  clear hw0
  refine (PD.out _).mono ?_
  rintro e w1 ⟨rfl, rfl⟩
  go_wp2_with fail
  clear t3 h2
  go_loopw [6] (fun s wr => ∃ t : Nat, t ≤ len ∧ s = .int .i64 t ∧ Hid (∀ k, k < t → lvB (Zo.gt l k) = true) ∧ Hid (wr = w1)) (fun s _ => len - (intOf s).toNat)
  case atStart => exact ⟨0, by omega, rfl, Lib.hid (fun k hk => by omega), Lib.hid rfl⟩
  case round =>
    obtain ⟨t, ht, rfl, HK, HW⟩ := hrel
    have hwr := HW.out
    subst hwr
    clear HW
    by_cases htn : t < len
    · have d1 := HR.out t (by rw [← HLn.out]; exact htn)
      obtain ⟨x, hx⟩ : ∃ x, x = Zo.gt l t := ⟨_, rfl⟩
      rw [← hx] at d1
      have HXE := Lib.hid hx
      have v9 := fun W => refLimValid_free x W
      clear hx
      cases lv : lvB x
      · have HE := Lib.hid (closeE_bad3 (N := n) (l := l) (k := t) (by rw [← HLn.out]; exact htn) (by rw [← HXE.out]; exact lv))
        rw [lv] at v9
        have V9 := Lib.hid v9
        clear v9 lv
        obtain ⟨b0, b1, b2, b3⟩ := rs.facts
        go_wp2_with fail
        refine (V9.out _).mono ?_
        rintro e w2 ⟨rfl, rfl⟩
        go_wp2_with fail
        refine bodyPost_ret (v := .tuple #[.agg #[.int .i64 0, .slice none 0 0], .int .i64 2]) (by simp [results, Try.results15, go_sem, b0, b1]) rfl (ZRes.bad (zres_bad (N := 0) (l := []) ?_) HE.out)
        exact (E0.out.setCell (by show w.heap.size ≤ w.heap.size; omega) _).setCell (by show w.heap.size ≤ w.heap.size; omega) _
      · have HK2 := Lib.hid (show lvB (Zo.gt l t) = true by rw [← HXE.out]; exact lv)
        rw [lv] at v9
        have V9 := Lib.hid v9
        clear v9 lv
        go_wp2_with fail
        refine (V9.out _).mono ?_
        rintro e w2 ⟨rfl, rfl⟩
        go_wp2_with fail
        go_roundw
        case rel =>
          refine ⟨t + 1, by omega, by go_num, Lib.hid (fun k hk => ?_), by first | exact Lib.hid rfl | exact Lib.hid trivial⟩
          by_cases e : k = t
          · rw [e]; exact HK2.out
          · exact HK.out k (by omega)
        case measure => simp [intOf]; omega
    · have HAE := Lib.hid (closeE_ok hn HL.out (fun k hk => HK.out k (by rw [← HLn.out] at hk; omega)))
      go_wp2_with fail
      refine (CP.out _ HR.out).mono ?_
      rintro e w2 ⟨g, c, rfl, hg, ho, hb2⟩
      have rs2 := rs.kept hb2
      have E2 := Lib.hid (below_on E0.out hb2)
      have HO := Lib.hid ho
      have z2 := hb2.size
      clear hb2 ho
      go_wp2_with fail
      by_cases hE : cloE n l = 0
      · have CL : Hid (∀ W, Own W g c l → Calls Try.prog 65 #[.agg #[.int .i64 n, .slice (some ⟨g, 0, none⟩) len c]] W (fun e w' => e = .returned (.tuple #[.agg #[.int .i64 n, .slice (some ⟨g, 0, none⟩) len c], .int .i64 0]) ∧ Own w' g c (Zo.clo n l) ∧ W.grownBy w' (some g))) := Lib.hid fun W h => by have := closed_ok W hn HL.out h hE; rw [← HLn.out] at this; exact this
        have HEE := Lib.hid hE
        clear hE
        refine (CL.out _ HO.out).mono ?_
        rintro e w5 ⟨rfl, ho5, hg5⟩
        have rs5 := rs2.grown hg5 (by omega)
        obtain ⟨q0, q1, q2, q3⟩ := rs5.facts
        have E5 := Lib.hid (grown_over E2.out hg5 (by omega))
        have HO5 := Lib.hid ho5
        clear ho5 hg5
        go_wp2_with fail
        refine bodyPost_ret (v := .tuple #[.agg #[.int .i64 n, .slice (some ⟨g, 0, none⟩) len c], .int .i64 0]) (by simp [results, Try.results15, go_sem, q0, q1]) rfl ⟨(E5.out.setCell (by show w.heap.size ≤ w.heap.size; omega) _).setCell (by show w.heap.size ≤ w.heap.size; omega) _, Or.inl ⟨by rw [HAE.out]; exact HEE.out, g, c, ?_, by omega, ?_⟩⟩
        · rw [Zo.clo_length, ← HLn.out]
        · exact put_far HO5.out (by omega) _ _
      · have CL : Hid (∀ W, Own W g c l → Calls Try.prog 65 #[.agg #[.int .i64 n, .slice (some ⟨g, 0, none⟩) len c]] W (fun e w' => e = .returned (.tuple #[.agg #[.int .i64 0, .slice none 0 0], .int .i64 (cloE n l)]) ∧ Own w' g c (Zo.clo n l) ∧ W.grownBy w' (some g))) := Lib.hid fun W h => by have := closed_no W hn HL.out h hE; rw [← HLn.out] at this; exact this
        have HEE := Lib.hid hE
        clear hE
        refine (CL.out _ HO.out).mono ?_
        rintro e w5 ⟨rfl, ho5, hg5⟩
        have rs5 := rs2.grown hg5 (by omega)
        obtain ⟨q0, q1, q2, q3⟩ := rs5.facts
        have E5 := Lib.hid (grown_over E2.out hg5 (by omega))
        have HO5 := Lib.hid ho5
        clear ho5 hg5
        go_wp2_with fail
        refine bodyPost_ret (v := .tuple #[.agg #[.int .i64 0, .slice none 0 0], .int .i64 (cloE n l)]) (by simp [results, Try.results15, go_sem, q0, q1]) rfl ⟨(E5.out.setCell (by show w.heap.size ≤ w.heap.size; omega) _).setCell (by show w.heap.size ≤ w.heap.size; omega) _, Or.inr ⟨by rw [HAE.out]; exact HEE.out, ?_⟩⟩
        rw [HAE.out]

theorem close_gen (N : Int) (l : List Int) (ao : Option Addr) (cap : Nat) (w : World) (hA : Arg w ao l) :
    Calls Try.prog 15 #[.int .i64 N, .slice ao l.length cap] w (ZRes w N (Zo.clo N.toNat l) (closeE N l)) := by
  cases hd : dimB N
  · exact (close_bad1 N l ao cap w hd).mono fun e w' h => h.bad (closeE_bad1 hd)
  · obtain ⟨n, rfl, hn⟩ := dim_nat hd
    by_cases hl : l.length = (n + 1) * (n + 1)
    · obtain ⟨a, rfl, hR⟩ := hA (fun e => by have := dsq_pos n; rw [e] at hl; simp at hl)
      exact close_any n l a cap w hn hl hR
    · exact (close_bad2 n l ao cap w hn hl).mono fun e w' h => h.bad (closeE_bad2 (by simpa using hl))
end Go.Proofs.Ytbnebinpemejlaa

namespace Go.Proofs.Ytbnebinpemejlaa
open Go.RowKit

theorem rd_close (N : Int) (l : List Int) : closeE N l = if rdB N l then cloE N.toNat l else 2 := rfl

set_option maxRecDepth 100000 in
set_option maxHeartbeats 4000000 in
theorem zclose_gen (N : Int) (l : List Int) (ao : Option Addr) (cap : Nat) (w : World) (hA : Arg w ao l) :
    Calls Try.prog 14 #[.int .i64 N, .slice ao l.length cap] w (ZRes w N (Zo.clo N.toNat l) (closeE N l)) := by
  have hz := mx_zero
  have sz := rdW_size N l
  have s1 := rdW_one N l
  have CR := Lib.hid (show ∀ W, Below w.heap.size w W → _ from fun W h => read_gen N l ao cap W (hA.on h))
  have HM := Lib.hid (show rdB N l = true → ∃ n : Nat, N = n ∧ ∀ (b : Nat) (W : World), Var W b (rdW N l) → Calls Try.prog 62 #[.pointer (some ⟨b, 0, none⟩)] W (GRes b W N (Zo.clo N.toNat l) (closeE N l)) from fun hr => by
    obtain ⟨n, rfl, hn, hl, hv⟩ := rdB_ok hr
    refine ⟨n, rfl, fun b W hV => ?_⟩
    have := mzone_any b n l W hn ⟨by have := hV.1; unfold rdW at this; rw [hr] at this; exact this, hl⟩ (a64_of hv)
    rw [rd_close, hr]
    exact this)
  have HE := Lib.hid (show rdB N l = false → closeE N l = 2 from fun h => by rw [rd_close, h]; rfl)
  generalize rdW N l = A at *
  generalize Zo.clo N.toNat l = r at *
  generalize closeE N l = er at *
  generalize rdB N l = ok at *
  generalize l.length = len at *
  obtain ⟨w0, hw0⟩ : ∃ w0, w0 = w.alloc (.cells #[.int .i64 0, .slice none 0 0] 25) := ⟨_, rfl⟩
  have rs : Two w0 w.heap.size (.int .i64 0) (.slice none 0 0) := by rw [hw0]; exact Two.made _ _ _ _
  have E0 := Lib.hid (show Below w.heap.size w w0 by rw [hw0]; exact one_more _)
  clear hA
  go_enter Try.func14, Try.ntmps14
  go_wp2_with fail
  rw [← hw0]
  clear hw0
  refine (CR.out _ E0.out).mono ?_
  rintro e w1 ⟨rfl, hb⟩
  have rs1 := rs.kept hb
  have HB := Lib.hid (below_on E0.out hb)
  have hlt := rs1.lt
  have hsz := HB.out.size
  obtain ⟨w2, hw2⟩ : ∃ w2, w2 = (w1.alloc (.cells (mcs 0 []) 80)).setRow w1.heap.size A := ⟨_, rfl⟩
  have rs3 : Two w2 w.heap.size (.int .i64 0) (.slice none 0 0) := by rw [hw2]; exact (rs1.alloc _).kept_row (by omega) _
  have V2 : Var w2 w1.heap.size A := by rw [hw2]; exact (Var.made w1).put A sz
  have h2s : w2.heap.size = w1.heap.size + 1 := by rw [hw2]; simp
  have HRS := Lib.hid rs3
  have HV := Lib.hid V2
  have HBE := Lib.hid (show Below w.heap.size w w2 by rw [hw2]; exact Below.setRow (HB.out.alloc hsz _) hsz _)
  clear rs rs1 rs3 V2 hb
  cases ok
  · obtain rfl := HE.out rfl
    obtain ⟨q0, q1, q2, q3⟩ := HRS.out.facts
    rw [hw2] at q0 q1 q2 q3
    rw [hw2] at HBE
    go_wp2_with (refine wpl_store rfl _ _ rfl _ _ rfl rfl _ (Var.made _) sz s1 ?_)
    refine bodyPost_ret (v := .tuple #[.agg #[.int .i64 0, .slice none 0 0], .int .i64 2]) (by simp [results, Try.results14, go_sem, q0, q1]) rfl ⟨(HBE.out.setCell (by show w.heap.size ≤ w.heap.size; omega) _).setCell (by show w.heap.size ≤ w.heap.size; omega) _, Or.inr ⟨by decide, rfl⟩⟩
  · obtain ⟨n, rfl, hmz⟩ := HM.out rfl
    have HMZ := Lib.hid hmz
    clear hmz
    go_wp2_with (refine wpl_store rfl _ _ rfl _ _ rfl rfl _ (Var.made _) sz s1 ?_)
    rw [← hw2]
    clear hw2
    refine (HMZ.out _ _ HV.out).mono ?_
    intro e w4 hG
    obtain ⟨hg4, hres⟩ := hG
    have E4 := Lib.hid (grown_over HBE.out hg4 hsz)
    obtain ⟨q0, q1, q2, q3⟩ := (HRS.out.grown hg4 (by omega)).facts
    rcases hres with ⟨he, g, c, rfl, hgl, hO⟩ | ⟨he, rfl⟩
    · have HO := Lib.hid hO
      subst he
      clear hO hg4
      go_wp2_with fail
      refine bodyPost_ret (v := .tuple #[.agg #[.int .i64 n, .slice (some ⟨g, 0, none⟩) r.length c], .int .i64 0]) (by simp [results, Try.results14, go_sem, q0, q1]) rfl ⟨?_, Or.inl ⟨rfl, g, c, rfl, by omega, put_far HO.out (by omega) _ _⟩⟩
      exact (E4.out.setCell (by show w.heap.size ≤ w.heap.size; omega) _).setCell (by show w.heap.size ≤ w.heap.size; omega) _
    · have HEE := Lib.hid he
      clear hg4 he
      go_wp2_with fail
      refine bodyPost_ret (v := .tuple #[.agg #[.int .i64 0, .slice none 0 0], .int .i64 er]) (by simp [results, Try.results14, go_sem, q0, q1]) rfl ⟨?_, Or.inr ⟨HEE.out, rfl⟩⟩
      exact (E4.out.setCell (by show w.heap.size ≤ w.heap.size; omega) _).setCell (by show w.heap.size ≤ w.heap.size; omega) _
end Go.Proofs.Ytbnebinpemejlaa

namespace Go.Proofs.Ytbnebinpemejlaa
open Go.RowKit

/-- 'make([]api.Limit, k)'. -/
theorem make_limits (w : World) (len : Nat) (hl : len ≤ 1000) (x : Int) (hx : x = len) : ∃ cur : Array Value, cur = (List.replicate len (Value.int .i64 0)).toArray ∧
    (Instr.makeSlice 22 (.int .i64 x) (.int .i64 x)).run Try.prog w = .ok (.slice (some ⟨w.heap.size, 0, none⟩) len len) (w.alloc (.cells cur 43)) := by
  subst hx
  obtain ⟨i0, hi, hz0, hz1, hz2⟩ := info_parts Try.info43
  have hr := run_make (P := Try.prog) w 22 43 i0 _ Try.underlying22 hi hz0 .i64 .i64 (len : Int) (len : Int) (by omega) (by omega) (by rw [hz2]; omega) (by omega)
  refine ⟨_, ?_, hr⟩
  rw [hz1]
  apply Array.toList_inj.1
  simp only [Int.toNat_natCast, Nat.mul_one]
  rw [show (Value.int IntKind.i64 0).cells = #[Value.int .i64 0] from rfl, toList_madeCells_one]

theorem own_new (w : World) (l : List Int) (hl : l.length ≤ 1000) : Own (w.alloc (.cells (l.map (Value.int .i64)).toArray 43)) w.heap.size l.length l := by
  have := World.ownsRow_lit (base := 0) (e := 43) (size := 1) w (l.map (Value.int .i64)).toArray l.length (Nat.zero_le _) (by unfold maxLen; omega) (by simp)
  simpa [Own] using this

def flE (N : Int) (v : Int) : Int := if dimB N then cloE N.toNat (List.replicate ((N.toNat + 1) * (N.toNat + 1)) v) else 2

set_option maxHeartbeats 400000 in
theorem filled_bad (N v : Int) (w : World) (h : dimB N = false) : Calls Try.prog 71 #[.int .i64 N, .int .i64 v] w (ZRes w 0 [] 2) := by
  have p := fun W => dimension_any N W
  rw [h] at p
  have PD := Lib.hid p
  obtain ⟨b0, b1, b2, b3⟩ := (two_res w).facts
  clear p h
  go_enter Try.func71, Try.ntmps71
  go_wp2_with fail
  refine (PD.out _).mono ?_
  rintro e w1 ⟨rfl, rfl⟩
  go_wp2_with fail
  refine bodyPost_ret (v := .tuple #[.agg #[.int .i64 0, .slice none 0 0], .int .i64 2]) (by simp [results, Try.results71, go_sem]) rfl (zres_bad ?_)
  exact one_more _

set_option maxHeartbeats 1600000 in
theorem filled_any (n : Nat) (v : Int) (w : World) (hn : n ≤ 10) : Calls Try.prog 71 #[.int .i64 n, .int .i64 v] w (ZRes w n (Zo.clo n (List.replicate ((n + 1) * (n + 1)) v)) (cloE n (List.replicate ((n + 1) * (n + 1)) v))) := by
  obtain ⟨len, hlen⟩ : ∃ len, len = (n + 1) * (n + 1) := ⟨_, rfl⟩
  have lb : len ≤ 121 := by rw [hlen]; exact dsq_le hn
  obtain ⟨w0, hw0⟩ : ∃ w0, w0 = w.alloc (.cells #[.int .i64 0, .slice none 0 0] 25) := ⟨_, rfl⟩
  have rs : Two w0 w.heap.size (.int .i64 0) (.slice none 0 0) := by rw [hw0]; exact two_res w
  have e0 : Below w.heap.size w w0 := by rw [hw0]; exact one_more _
  have z0 : w0.heap.size = w.heap.size + 1 := by rw [hw0]; simp
  have p := fun W => dimension_any n W
  rw [show dimB n = true by unfold dimB; simp; omega] at p
  have PD := Lib.hid p
  have t3 : ((n : Int) + 1) * ((n : Int) + 1) ≤ 121 ∧ 0 ≤ ((n : Int) + 1) * ((n : Int) + 1) := by
    have : (n + 1) * (n + 1) ≤ 11 * 11 := Nat.mul_le_mul (by omega) (by omega)
    constructor
    · exact_mod_cast this
    · exact_mod_cast Nat.zero_le _
  obtain ⟨cur, hcur, hmk⟩ := make_limits w0 len (by omega) (((n : Int) + 1) * ((n : Int) + 1)) (by rw [hlen]; push_cast; rfl)
  obtain ⟨w3, hw3⟩ : ∃ w3, w3 = (w0.alloc (.cells cur 43)).alloc (.cells #[.int .i64 n, .slice (some ⟨w.heap.size + 1, 0, none⟩) len len] 25) := ⟨_, rfl⟩
  have O3 : Own w3 (w.heap.size + 1) len (List.replicate len 0) := by
    rw [hw3, hcur, ← z0]
    have := own_new w0 (List.replicate len 0) (by simp; omega)
    simp only [List.map_replicate, List.length_replicate] at this
    exact this.alloc _
  have bx3 : Two w3 (w.heap.size + 1 + 1) (.int .i64 n) (.slice (some ⟨w.heap.size + 1, 0, none⟩) len len) := by
    rw [hw3]
    have := Two.made (w0.alloc (.cells cur 43)) (.int .i64 n) (.slice (some ⟨w.heap.size + 1, 0, none⟩) len len) 25
    rw [show (w0.alloc (.cells cur 43)).heap.size = w.heap.size + 1 + 1 by simp; omega] at this
    exact this
  have rs3 : Two w3 w.heap.size (.int .i64 0) (.slice none 0 0) := by rw [hw3]; exact (rs.alloc _).alloc _
  have E3 : Below w.heap.size w w3 := by rw [hw3]; exact (e0.alloc e0.size _).alloc (by simp; omega) _
  have S3 := Lib.hid (show St w3 (w.heap.size + 1) len (List.replicate len 0) w3 from ⟨O3, World.grownBy.refl _ _⟩)
  have HE3 := Lib.hid E3
  have HL := Lib.hid hlen
  rw [← hlen]
  have HW0 := Lib.hid hw0
  have HW3 := Lib.hid hw3
  clear p hlen e0 rs O3 E3 hcur hw0 hw3
  go_enter Try.func71, Try.ntmps71
  go_wp2_with fail
  rw [← HW0.out]
  refine (PD.out _).mono ?_
  rintro e w1 ⟨rfl, rfl⟩
  go_wp2_with fail
  rw [← HW3.out]
  clear hmk HW0 HW3 t3 z0 PD
  clear cur
  go_loopw [7] (fun s wr => ∃ (t : Nat) (x : List Int), t ≤ len ∧ s = .int .i64 t ∧ x.length = len ∧ Hid (∀ k, k < t → Zo.gt x k = v) ∧ Hid (St w3 (w.heap.size + 1) len x wr)) (fun s _ => len - (intOf s).toNat)
  case atStart => exact ⟨0, List.replicate len 0, by omega, rfl, by simp, Lib.hid (fun k hk => by omega), S3⟩
  case round =>
    obtain ⟨t, x, ht, rfl, hx, HX, HT⟩ := hrel
    obtain ⟨b0, b1, b2, b3⟩ := (bx3.grown HT.out.2 (by omega)).facts
    by_cases htn : t < len
    · have d1 : wr.cell? ⟨w.heap.size + 1, t, none⟩ = some (.int .i64 (Zo.gt x t)) := by
        have := HT.out.1.rd t (by omega)
        rwa [addr_add] at this
      have d2 : wr.frozen? ⟨w.heap.size + 1, t, none⟩ = false := World.ownsRow.frozenAt HT.out.1 t
      have S4 := Lib.hid (show St w3 (w.heap.size + 1) len (x.set t v) (wr.setCell ⟨w.heap.size + 1, t, none⟩ (.int .i64 v)) from ⟨(HT.out.1.put t v).1, grown_trans HT.out.2 (HT.out.1.put t v).2⟩)
      go_wp2_with fail
      go_roundw
      case rel =>
        refine ⟨t + 1, x.set t v, by omega, by go_num, by simpa using hx, Lib.hid (fun k hk => ?_), S4⟩
        rw [Zo.gt_set v (by omega)]
        split
        · rfl
        · exact HX.out k (by omega)
      case measure => simp [intOf]; omega
    · have HX2 := Lib.hid (show x = List.replicate len v from List.ext_getElem (by simp [hx]) fun k h1 h2 => by
        have := HX.out k (by omega)
        simpa [Zo.gt, h1] using this)
      have lx : x.length = (n + 1) * (n + 1) := by rw [hx, HL.out]
      by_cases hE : cloE n x = 0
      · have CL : Hid (∀ W, Own W (w.heap.size + 1) len x → Calls Try.prog 65 #[.agg #[.int .i64 n, .slice (some ⟨w.heap.size + 1, 0, none⟩) len len]] W (fun e w' => e = .returned (.tuple #[.agg #[.int .i64 n, .slice (some ⟨w.heap.size + 1, 0, none⟩) len len], .int .i64 0]) ∧ Own w' (w.heap.size + 1) len (Zo.clo n x) ∧ W.grownBy w' (some (w.heap.size + 1)))) := Lib.hid fun W h => by have := closed_ok W hn lx h hE; rw [hx] at this; exact this
        have HEE := Lib.hid hE
        clear hE
        go_wp2_with fail
        refine (CL.out _ HT.out.1).mono ?_
        rintro e w5 ⟨rfl, ho5, hg5⟩
        have rs5 := (rs3.grown HT.out.2 (by omega)).grown hg5 (by omega)
        obtain ⟨q0, q1, q2, q3⟩ := rs5.facts
        have E5 := Lib.hid (grown_over (grown_over HE3.out HT.out.2 (by omega)) hg5 (by omega))
        have HO5 := Lib.hid ho5
        clear ho5 hg5
        go_wp2_with fail
        refine bodyPost_ret (v := .tuple #[.agg #[.int .i64 n, .slice (some ⟨w.heap.size + 1, 0, none⟩) len len], .int .i64 0]) (by simp [results, Try.results71, go_sem, q0, q1]) rfl ⟨(E5.out.setCell (by show w.heap.size ≤ w.heap.size; omega) _).setCell (by show w.heap.size ≤ w.heap.size; omega) _, Or.inl ⟨by rw [← HX2.out]; exact HEE.out, w.heap.size + 1, len, ?_, by omega, ?_⟩⟩
        · rw [Zo.clo_length, List.length_replicate]
        · rw [← HX2.out]; exact put_far HO5.out (by omega) _ _
      · have CL : Hid (∀ W, Own W (w.heap.size + 1) len x → Calls Try.prog 65 #[.agg #[.int .i64 n, .slice (some ⟨w.heap.size + 1, 0, none⟩) len len]] W (fun e w' => e = .returned (.tuple #[.agg #[.int .i64 0, .slice none 0 0], .int .i64 (cloE n x)]) ∧ Own w' (w.heap.size + 1) len (Zo.clo n x) ∧ W.grownBy w' (some (w.heap.size + 1)))) := Lib.hid fun W h => by have := closed_no W hn lx h hE; rw [hx] at this; exact this
        have HEE := Lib.hid hE
        clear hE
        go_wp2_with fail
        refine (CL.out _ HT.out.1).mono ?_
        rintro e w5 ⟨rfl, ho5, hg5⟩
        have rs5 := (rs3.grown HT.out.2 (by omega)).grown hg5 (by omega)
        obtain ⟨q0, q1, q2, q3⟩ := rs5.facts
        have E5 := Lib.hid (grown_over (grown_over HE3.out HT.out.2 (by omega)) hg5 (by omega))
        have HO5 := Lib.hid ho5
        clear ho5 hg5
        go_wp2_with fail
        refine bodyPost_ret (v := .tuple #[.agg #[.int .i64 0, .slice none 0 0], .int .i64 (cloE n x)]) (by simp [results, Try.results71, go_sem, q0, q1]) rfl ⟨(E5.out.setCell (by show w.heap.size ≤ w.heap.size; omega) _).setCell (by show w.heap.size ≤ w.heap.size; omega) _, Or.inr ⟨by rw [← HX2.out]; exact HEE.out, ?_⟩⟩
        rw [HX2.out]

theorem filled_gen (N v : Int) (w : World) : Calls Try.prog 71 #[.int .i64 N, .int .i64 v] w (ZRes w N (Zo.clo N.toNat (List.replicate ((N.toNat + 1) * (N.toNat + 1)) v)) (flE N v)) := by
  cases hd : dimB N
  · exact (filled_bad N v w hd).mono fun e w' h => h.bad (by simp [flE, hd])
  · obtain ⟨n, rfl, hn⟩ := dim_nat hd
    rw [show flE (n : Int) v = cloE n (List.replicate ((n + 1) * (n + 1)) v) by simp [flE, hd]]
    exact filled_any n v w hn

set_option maxHeartbeats 400000 in
theorem zero_gen (N : Int) (w : World) : Calls Try.prog 21 #[.int .i64 N] w (ZRes w N (Zo.clo N.toNat (List.replicate ((N.toNat + 1) * (N.toNat + 1)) 1)) (flE N 1)) := by
  obtain ⟨b0, b1, b2, b3⟩ := (two_res w).facts
  have P := Lib.hid fun W => filled_gen N 1 W
  go_enter Try.func21, Try.ntmps21
  go_wp2_with fail
  refine (P.out _).mono ?_
  intro e w1 hz
  obtain ⟨hb, hz⟩ := hz
  have rs := (two_res w).kept hb
  obtain ⟨q0, q1, q2, q3⟩ := rs.facts
  have hB := past_one hb
  have z1 := hb.size
  rcases hz with ⟨he, g, c, rfl, hg, ho⟩ | ⟨he, rfl⟩
  · have HE := Lib.hid he
    have HO := Lib.hid ho
    have HB := Lib.hid hB
    clear he ho hB hb b0 b1 b2 b3
    simp at hg z1
    go_wp2_with fail
    refine bodyPost_ret (v := .tuple #[.agg #[.int .i64 N, .slice (some ⟨g, 0, none⟩) (Zo.clo N.toNat (List.replicate ((N.toNat + 1) * (N.toNat + 1)) 1)).length c], .int .i64 0]) (by simp [results, Try.results21, go_sem, q0, q1]) rfl ⟨(HB.out.setCell (by show w.heap.size ≤ w.heap.size; omega) _).setCell (by show w.heap.size ≤ w.heap.size; omega) _, Or.inl ⟨HE.out, g, c, rfl, by omega, put_far HO.out (by omega) _ _⟩⟩
  · have HE := Lib.hid he
    have HB := Lib.hid hB
    clear he hB hb b0 b1 b2 b3
    go_wp2_with fail
    refine bodyPost_ret (v := .tuple #[.agg #[.int .i64 0, .slice none 0 0], .int .i64 (flE N 1)]) (by simp [results, Try.results21, go_sem, q0, q1]) rfl ⟨(HB.out.setCell (by show w.heap.size ≤ w.heap.size; omega) _).setCell (by show w.heap.size ≤ w.heap.size; omega) _, Or.inr ⟨HE.out, rfl⟩⟩

set_option maxHeartbeats 400000 in
theorem all_gen (N : Int) (w : World) : Calls Try.prog 23 #[.int .i64 N] w (ZRes w N (Zo.clo N.toNat (List.replicate ((N.toNat + 1) * (N.toNat + 1)) 1099511627776)) (flE N 1099511627776)) := by
  obtain ⟨b0, b1, b2, b3⟩ := (two_res w).facts
  have P := Lib.hid fun W => filled_gen N 1099511627776 W
  go_enter Try.func23, Try.ntmps23
  go_wp2_with fail
  refine (P.out _).mono ?_
  intro e w1 hz
  obtain ⟨hb, hz⟩ := hz
  have rs := (two_res w).kept hb
  obtain ⟨q0, q1, q2, q3⟩ := rs.facts
  have hB := past_one hb
  have z1 := hb.size
  rcases hz with ⟨he, g, c, rfl, hg, ho⟩ | ⟨he, rfl⟩
  · have HE := Lib.hid he
    have HO := Lib.hid ho
    have HB := Lib.hid hB
    clear he ho hB hb b0 b1 b2 b3
    simp at hg z1
    go_wp2_with fail
    refine bodyPost_ret (v := .tuple #[.agg #[.int .i64 N, .slice (some ⟨g, 0, none⟩) (Zo.clo N.toNat (List.replicate ((N.toNat + 1) * (N.toNat + 1)) 1099511627776)).length c], .int .i64 0]) (by simp [results, Try.results23, go_sem, q0, q1]) rfl ⟨(HB.out.setCell (by show w.heap.size ≤ w.heap.size; omega) _).setCell (by show w.heap.size ≤ w.heap.size; omega) _, Or.inl ⟨HE.out, g, c, rfl, by omega, put_far HO.out (by omega) _ _⟩⟩
  · have HE := Lib.hid he
    have HB := Lib.hid hB
    clear he hB hb b0 b1 b2 b3
    go_wp2_with fail
    refine bodyPost_ret (v := .tuple #[.agg #[.int .i64 0, .slice none 0 0], .int .i64 (flE N 1099511627776)]) (by simp [results, Try.results23, go_sem, q0, q1]) rfl ⟨(HB.out.setCell (by show w.heap.size ≤ w.heap.size; omega) _).setCell (by show w.heap.size ≤ w.heap.size; omega) _, Or.inr ⟨HE.out, rfl⟩⟩
end Go.Proofs.Ytbnebinpemejlaa

namespace Go.Proofs.Ytbnebinpemejlaa
open Go.RowKit

set_option maxHeartbeats 1000000 in
theorem mul64_one (c : Nat) (hc : c ≤ 121) (w : World) : Calls Try.prog 155 #[.int .u64 1, .int .u64 c] w (Still (.tuple #[.int .u64 0, .int .u64 c]) w) := by
  have m1 : bits .and .u64 1 4294967295 = 1 := by decide
  have m0 : bits .and .u64 0 4294967295 = 0 := by decide
  have m2 : bits .and .u64 (c : Int) 4294967295 = c := by rw [Mul64.maskN c (by omega), show c % 4294967296 = c by omega]
  have d2 : (c : Int) / 4294967296 = 0 := by omega
  have w2 : IntKind.u64.wrap (c : Int) = c := Mul64.wrapN c (by omega)
  have w0 : IntKind.u64.wrap 0 = 0 := by decide
  have z0 : (0 : Int) / 4294967296 = 0 := by decide
  go_enter Try.func155, Try.ntmps155
  go_wp2_with fail
  go_ret2
  exact ⟨rfl, rfl⟩

set_option maxHeartbeats 1000000 in
theorem mul_one_any (c : Nat) (hc : c ≤ 121) (w : World) : Calls Try.prog 139 #[.int .u64 1, .int .u64 c] w (Still (.tuple #[.int .u64 0, .int .u64 c]) w) := by
  have M := Lib.hid (fun W => mul64_one c hc W)
  go_enter Try.func139, Try.ntmps139
  go_wp2_with fail
  refine (M.out _).mono ?_
  rintro e w1 ⟨rfl, hw⟩
  rw [hw]; clear hw w1
  go_wp2_with fail
  go_ret2
  exact ⟨rfl, rfl⟩

/-- A row that is filled up to k. -/
def Fl (w : World) (g c k : Nat) (v : Int) : Prop := w.heap[g]? = some (.cells ((List.replicate k v ++ List.replicate (c - k) 0).map (Value.int .i64)).toArray 43 (0, 0))

theorem fill_vals {b : Nat} {t : TypeId} (v : Value) : ∀ (m k : Nat) (A : List Value) (w : World), w.heap[b]? = some (.cells A.toArray t (0, 0)) → k + m ≤ A.length →
    (w.setCells b k (List.replicate m v)).heap[b]? = some (.cells (A.take k ++ List.replicate m v ++ A.drop (k + m)).toArray t (0, 0)) := by
  intro m
  induction m with
  | zero => intro k A w h hk; simpa [World.setCells] using h
  | succ m ih =>
    intro k A w h hk
    have h1 : (w.setCell ⟨b, k, none⟩ v).heap[b]? = some (.cells (A.set k v).toArray t (0, 0)) := by
      rw [heap_setCell_same w b _ _ _ _ h]; simp
    have := ih (k + 1) (A.set k v) _ h1 (by simp; omega)
    rw [List.replicate_succ]
    show ((w.setCell ⟨b, k, none⟩ v).setCells b (k + 1) (List.replicate m v)).heap[b]? = _
    rw [this]
    congr 3
    have hk' : k < A.length := by omega
    have e1 : (A.set k v).take (k + 1) = A.take k ++ [v] := by
      rw [List.take_add_one, List.take_set, List.set_eq_of_length_le (by simp; omega), List.getElem?_set_self hk']
      rfl
    rw [e1, List.drop_set_of_lt (by omega), show k + 1 + m = k + (m + 1) by omega]
    simp

theorem Fl.step {w : World} {g c k m : Nat} {v : Int} (h : Fl w g c k v) (hk : k + m ≤ c) : Fl (w.setCells g k (List.replicate m (Value.int .i64 v))) g c (k + m) v := by
  unfold Fl at *
  rw [fill_vals (Value.int .i64 v) m k _ w h (by simp; omega)]
  congr 3
  simp only [List.map_append, List.map_replicate]
  rw [List.take_append_of_le_length (by simp), List.take_of_length_le (by simp), List.drop_append, List.drop_of_length_le (by simp)]
  simp
  omega

theorem Fl.at {w : World} {g c k : Nat} {v : Int} (h : Fl w g c k v) {j : Nat} (hj : j < k) : w.cell? ⟨g, j, none⟩ = some (.int .i64 v) := by
  rw [cell_of_row w g j _ _ _ h]; simp [List.getElem?_append, hj]

theorem Fl.some {w : World} {g c k : Nat} {v : Int} (h : Fl w g c k v) (hk : k ≤ c) {j : Nat} (hj : j < c) : (w.cell? ⟨g, j, none⟩).isSome = true := by
  rw [cell_of_row w g j _ _ _ h]
  have : j < (((List.replicate k v ++ List.replicate (c - k) 0).map (Value.int .i64)).toArray).size := by simp; omega
  rw [Array.getElem?_eq_getElem this]; rfl

theorem Fl.free {w : World} {g c k : Nat} {v : Int} (h : Fl w g c k v) (j : Nat) : w.frozen? ⟨g, j, none⟩ = false := frozen_of_row w g j _ _ h

theorem Fl.own {w : World} {g c : Nat} {v : Int} (h : Fl w g c c v) (hc : 0 < c) (hm : c ≤ 1000) : Own w g c (List.replicate c v) := by
  unfold Own
  unfold Fl at h
  refine ⟨by simp, Or.inr ⟨g, c, _, by simp, Nat.zero_le _, h, by simp, by unfold maxLen; omega, by simp, by simp⟩⟩

theorem run_cut_lo (w : World) (a : Addr) (c k : Nat) (hk : k < c) : (Instr.sliceAt 22 (.slice (some a) c c) (some (.int .i64 k)) none none).run Try.prog w = .ok (.slice (some (a.add k)) (c - k) (c - k)) w := by
  have he : Try.prog.elem 22 = 43 := by simp [Program.elem]
  rw [run_sliceAt_slice w _ _ _ _ _ (by rw [he]; exact Try.underlying22), run_slice_l w _ _ _ _ (by rw [he]; exact Try.underlying22) .i64 k (by omega) (by omega), he, limit_size]
  simp only [Result.andThen_ok, sliced, Int.toNat_natCast]
  rw [if_neg (by omega)]
  simp

theorem run_cut_hi (w : World) (a : Addr) (c k : Nat) (hk : k < c) : (Instr.sliceAt 22 (.slice (some a) c c) none (some (.int .i64 k)) none).run Try.prog w = .ok (.slice (some a) k c) w := by
  have he : Try.prog.elem 22 = 43 := by simp [Program.elem]
  rw [run_sliceAt_slice w _ _ _ _ _ (by rw [he]; exact Try.underlying22), run_slice_h w _ _ _ _ (by rw [he]; exact Try.underlying22) .i64 k (by omega) (by omega), he, limit_size]
  simp only [Result.andThen_ok, sliced, Int.toNat_natCast]
  rw [if_neg (by omega)]
  simp [Addr.add]

set_option maxRecDepth 100000 in
set_option maxHeartbeats 4000000 in
theorem repeat_any (v : Int) (c xb : Nat) (w : World) (hc0 : 0 < c) (hc : c ≤ 121) (hx : w.cell? ⟨xb, 0, none⟩ = some (.int .i64 v)) :
    Calls Try.prog 118 #[.slice (some ⟨xb, 0, none⟩) 1 1, .int .i64 c] w
      (fun e w' => e = .returned (.slice (some ⟨w.heap.size, 0, none⟩) c c) ∧ Own w' w.heap.size c (List.replicate c v) ∧ Below w.heap.size w w') := by
  have MU := Lib.hid (fun W => mul_one_any c hc W)
  obtain ⟨cur, hcur, hmk⟩ := make_limits w c (by omega) c rfl
  have F0 : Fl (w.alloc (.cells cur 43)) w.heap.size c 0 v := by
    unfold Fl; rw [heap_alloc_last]; rw [hcur]; simp
  obtain ⟨w1, hw1⟩ : ∃ w1, w1 = w.alloc (.cells cur 43) := ⟨_, rfl⟩
  rw [← hw1] at hmk F0
  have E1 : Below w.heap.size w w1 := by rw [hw1]; exact one_more _
  have hx1 : w1.cell? ⟨xb, 0, none⟩ = some (.int .i64 v) := by rw [hw1]; exact kept (one_more _) hx
  have hcp1 := fun ty => run_copy_cells (P := Try.prog) w1 22 22 ty 43 w.heap.size 0 c c ⟨xb, 0, none⟩ 1 1 (List.replicate 1 (Value.int .i64 v)) Try.underlying22
    (by rfl) (by rw [List.length_replicate]; exact (Nat.min_eq_left hc0).symm)
    (fun j u hj => by
      have : j = 0 := by
        have := List.getElem?_eq_some_iff.1 hj
        obtain ⟨h, _⟩ := this
        simp at h; exact h
      subst this
      simp at hj
      subst hj
      exact hx1)
    (fun j hj => F0.some (by omega) (by simp at hj; omega)) (fun j hj => F0.free _) (by simp [Value.oneCell'])
  have F1 := F0.step (m := 1) (by omega)
  have HF1 := Lib.hid F1
  have HE1 := Lib.hid (Below.setCells (B := w.heap.size) (b := w.heap.size) (Nat.le_refl _) (List.replicate 1 (Value.int .i64 v)) 0 w1 E1)
  have HW1 := Lib.hid hw1
  simp only [List.length_replicate] at hcp1
  clear hx hx1 F0 F1 E1 hcur hw1
  go_enter Try.func118, Try.ntmps118
  go_wp2_with fail
  refine (MU.out _).mono ?_
  rintro e w2 ⟨rfl, hw⟩
  rw [hw]; clear hw w2
  go_wp2_with fail
  clear hcp1 hmk
  go_loopw [8] (fun s wr => ∃ k : Nat, 0 < k ∧ k ≤ c ∧ s = .int .i64 k ∧ Hid (Fl wr w.heap.size c k v) ∧ Hid (Below w.heap.size w wr)) (fun s _ => c - (intOf s).toNat)
  case atStart => exact ⟨1, by omega, by omega, rfl, HF1, HE1⟩
  case round =>
    clear HF1 HE1
    obtain ⟨k, hk0, hkc, rfl, HF, HB⟩ := hrel
    by_cases hlt : k < c
    · obtain ⟨m, hm⟩ : ∃ m, m = Nat.min k (c - k) := ⟨_, rfl⟩
      have hm0 : 0 < m := by rw [hm]; exact Nat.lt_min.2 ⟨hk0, by omega⟩
      have hm1 : k + m ≤ c := by have : m ≤ c - k := by rw [hm]; exact Nat.min_le_right _ _
                                 omega
      have FD : Fl wr.drew w.heap.size c k v := HF.out
      have s1 := fun W => run_cut_lo W ⟨w.heap.size, 0, none⟩ c k hlt
      have s2 := fun W => run_cut_hi W ⟨w.heap.size, 0, none⟩ c k hlt
      rw [show (⟨w.heap.size, 0, none⟩ : Addr).add k = ⟨w.heap.size, k, none⟩ from addr_add _ _] at s1
      have hcp := fun ty => run_copy_cells (P := Try.prog) wr.drew 22 22 ty 43 w.heap.size k (c - k) (c - k) ⟨w.heap.size, 0, none⟩ k c (List.replicate m (Value.int .i64 v)) Try.underlying22
        (by rfl) (by rw [List.length_replicate]; exact hm)
        (fun j u hj => by
          have h2 := List.getElem?_eq_some_iff.1 hj
          obtain ⟨h, h3⟩ := h2
          simp at h h3
          subst h3
          rw [addr_add]
          exact FD.at (by have : m ≤ k := by rw [hm]; exact Nat.min_le_left _ _
                          omega))
        (fun j hj => FD.some hkc (by simp at hj; omega)) (fun j hj => FD.free _) (by simp [Value.oneCell'])
      simp only [List.length_replicate] at hcp
      have F2 := Lib.hid (FD.step hm1)
      have B2 := Lib.hid (Below.setCells (B := w.heap.size) (b := w.heap.size) (Nat.le_refl _) (List.replicate m (Value.int .i64 v)) k wr.drew HB.out.drew)
      clear hm FD
      go_wp2_with fail
      go_region
      clear hcp s1 s2
      go_wp2_with fail
      go_roundw
      case rel => exact ⟨k + m, by omega, hm1, by go_num, F2, B2⟩
      case measure => simp [intOf]; omega
    · have HO := Lib.hid (show Fl wr w.heap.size c c v by have := HF.out; rwa [show k = c by omega] at this)
      go_wp2_with fail
      go_ret
      exact ⟨rfl, HO.out.own hc0 (by omega), HB.out⟩
end Go.Proofs.Ytbnebinpemejlaa

namespace Go.Proofs.Ytbnebinpemejlaa
open Go.RowKit

theorem flE_close {n : Nat} {v : Int} (hn : n ≤ 10) (hv : lvB v = true) : closeE n (List.replicate ((n + 1) * (n + 1)) v) = flE n v := by
  have d : dimB (n : Int) = true := by unfold dimB; simp; omega
  rw [rd_close]
  unfold flE rdB
  rw [d]
  have : (List.replicate ((n + 1) * (n + 1)) v).all lvB = true := by
    rw [List.all_eq_true]; intro x hx; rw [(List.mem_replicate.1 hx).2]; exact hv
  simp only [Int.toNat_natCast, List.length_replicate, decide_true, Bool.true_and, this]

set_option maxRecDepth 100000 in
set_option maxHeartbeats 4000000 in
theorem zunif_bad (N v : Int) (w : World) (hd : dimB N = false) : Calls Try.prog 70 #[.int .i64 N, .int .i64 v] w (ZRes w 0 [] 2) := by
  have PD := fun W => isDimension_any N W
  rw [hd] at PD
  have HD := Lib.hid PD
  obtain ⟨b0, b1, b2, b3⟩ := (two_res w).facts
  have E0 := Lib.hid (one_more (w1 := w) (.cells #[.int .i64 0, .slice none 0 0] 25))
  have rs := two_res w
  clear hd PD
  go_enter Try.func70, Try.ntmps70
  go_wp2_with fail
  refine (HD.out _).mono ?_
  rintro e w1 ⟨rfl, hw⟩
  rw [hw]; clear hw w1
  go_wp2_with fail
  refine bodyPost_ret (v := .tuple #[.agg #[.int .i64 0, .slice none 0 0], .int .i64 2]) (by simp [results, Try.results70, go_sem, b0, b1]) rfl (zres_bad ?_)
  exact E0.out

set_option maxRecDepth 100000 in
set_option maxHeartbeats 4000000 in
theorem zunif_ok (n : Nat) (v : Int) (w : World) (hn : n ≤ 10) (hv : lvB v = true) : Calls Try.prog 70 #[.int .i64 n, .int .i64 v] w (ZRes w n (Zo.clo n (List.replicate ((n + 1) * (n + 1)) v)) (flE n v)) := by
  have PD := fun W => isDimension_any n W
  rw [show dimB (n : Int) = true by unfold dimB; simp; omega] at PD
  have HD := Lib.hid PD
  have HP := Lib.hid (fun W => places_any n W hn)
  have hle := dsq_le hn
  have hpos := dsq_pos n
  have CC := Lib.hid (show ∀ (W : World) (g c : Nat), Own W g c (List.replicate ((n + 1) * (n + 1)) v) → _ from fun W g c hO => zclose_gen n (List.replicate ((n + 1) * (n + 1)) v) (some ⟨g, 0, none⟩) c W hO.arg)
  rw [flE_close hn hv] at CC
  simp only [List.length_replicate, Int.toNat_natCast] at CC
  generalize Zo.clo n (List.replicate ((n + 1) * (n + 1)) v) = r at *
  generalize flE n v = er at *
  generalize (n + 1) * (n + 1) = sz at *
  have RP := Lib.hid (fun (xb : Nat) (W : World) (h : W.cell? ⟨xb, 0, none⟩ = some (.int .i64 v)) => repeat_any v sz xb W hpos hle h)
  obtain ⟨w0, hw0⟩ : ∃ w0, w0 = w.alloc (.cells #[.int .i64 0, .slice none 0 0] 25) := ⟨_, rfl⟩
  have rs : Two w0 w.heap.size (.int .i64 0) (.slice none 0 0) := by rw [hw0]; exact Two.made _ _ _ _
  have E0 := Lib.hid (show Below w.heap.size w w0 by rw [hw0]; exact one_more _)
  have z0 : w0.heap.size = w.heap.size + 1 := by rw [hw0]; simp
  clear hv PD
  go_enter Try.func70, Try.ntmps70
  go_wp2_with fail
  rw [← hw0]
  clear hw0
  refine (HD.out _).mono ?_
  rintro e w1 ⟨rfl, hw⟩
  rw [hw]; clear hw w1
  go_wp2_with fail
  refine (HP.out _).mono ?_
  rintro e w1 ⟨rfl, hw⟩
  rw [hw]; clear hw w1
  have hcx : (w0.alloc (.cells #[.int .i64 v] 43)).cell? ⟨w.heap.size + 1, 0, none⟩ = some (.int .i64 v) := by rw [← z0]; go_simp
  go_wp2_with fail
  refine (RP.out _ _ hcx).mono ?_
  rintro e w2 ⟨rfl, hO, hb⟩
  rw [show (w0.alloc (.cells #[.int .i64 v] 43)).heap.size = w.heap.size + 1 + 1 by simp [z0]] at hO
  have HO := Lib.hid hO
  have B2 := Lib.hid (show Below w0.heap.size w0 w2 from past_one hb)
  clear hcx hO hb
  go_wp2_with fail
  refine (CC.out _ _ _ HO.out).mono ?_
  intro e w4 hG
  obtain ⟨hb4, hres⟩ := hG
  have HB4 := Lib.hid (below_on B2.out hb4)
  obtain ⟨q0, q1, q2, q3⟩ := (rs.kept HB4.out).facts
  have h2s := B2.out.size
  rcases hres with ⟨he, g, c, rfl, hgl, hO⟩ | ⟨he, rfl⟩
  · have HOO := Lib.hid hO
    subst he
    clear hO hb4
    go_wp2_with fail
    refine bodyPost_ret (v := .tuple #[.agg #[.int .i64 n, .slice (some ⟨g, 0, none⟩) r.length c], .int .i64 0]) (by simp [results, Try.results70, go_sem, q0, q1]) rfl (zres_over E0.out HB4.out HOO.out (by omega) (by omega) (by omega) _ _)
  · have HEE := Lib.hid he
    clear he hb4
    go_wp2_with fail
    refine bodyPost_ret (v := .tuple #[.agg #[.int .i64 0, .slice none 0 0], .int .i64 er]) (by simp [results, Try.results70, go_sem, q0, q1]) rfl (zres_over0 E0.out HB4.out HEE.out (by omega) _ _)

theorem zunif_gen (N v : Int) (w : World) (hv : lvB v = true) : Calls Try.prog 70 #[.int .i64 N, .int .i64 v] w (ZRes w N (Zo.clo N.toNat (List.replicate ((N.toNat + 1) * (N.toNat + 1)) v)) (flE N v)) := by
  cases hd : dimB N
  · exact (zunif_bad N v w hd).mono fun e w' h => h.bad (by simp [flE, hd])
  · obtain ⟨n, rfl, hn⟩ := dim_nat hd
    exact zunif_ok n v w hn hv

set_option maxRecDepth 100000 in
set_option maxHeartbeats 1000000 in
theorem zzero_gen (N : Int) (w : World) : Calls Try.prog 20 #[.int .i64 N] w (ZRes w N (Zo.clo N.toNat (List.replicate ((N.toNat + 1) * (N.toNat + 1)) 1)) (flE N 1)) := by
  have P := Lib.hid (fun W => zunif_gen N 1 W (by decide))
  generalize Zo.clo N.toNat (List.replicate ((N.toNat + 1) * (N.toNat + 1)) 1) = r at *
  generalize flE N 1 = er at *
  obtain ⟨w0, hw0⟩ : ∃ w0, w0 = w.alloc (.cells #[.int .i64 0, .slice none 0 0] 25) := ⟨_, rfl⟩
  have rs : Two w0 w.heap.size (.int .i64 0) (.slice none 0 0) := by rw [hw0]; exact Two.made _ _ _ _
  have E0 := Lib.hid (show Below w.heap.size w w0 by rw [hw0]; exact one_more _)
  have z0 : w0.heap.size = w.heap.size + 1 := by rw [hw0]; simp
  go_enter Try.func20, Try.ntmps20
  go_wp2_with fail
  rw [← hw0]
  clear hw0
  refine (P.out _).mono ?_
  intro e w4 hG
  obtain ⟨hb4, hres⟩ := hG
  have HB4 := Lib.hid hb4
  obtain ⟨q0, q1, q2, q3⟩ := (rs.kept hb4).facts
  rcases hres with ⟨he, g, c, rfl, hgl, hO⟩ | ⟨he, rfl⟩
  · have HOO := Lib.hid hO
    subst he
    clear hO hb4
    go_wp2_with fail
    refine bodyPost_ret (v := .tuple #[.agg #[.int .i64 N, .slice (some ⟨g, 0, none⟩) r.length c], .int .i64 0]) (by simp [results, Try.results20, go_sem, q0, q1]) rfl (zres_over E0.out HB4.out HOO.out hgl (by omega) (by omega) _ _)
  · have HEE := Lib.hid he
    clear he hb4
    go_wp2_with fail
    refine bodyPost_ret (v := .tuple #[.agg #[.int .i64 0, .slice none 0 0], .int .i64 er]) (by simp [results, Try.results20, go_sem, q0, q1]) rfl (zres_over0 E0.out HB4.out HEE.out (by omega) _ _)

set_option maxRecDepth 100000 in
set_option maxHeartbeats 1000000 in
theorem zall_gen (N : Int) (w : World) : Calls Try.prog 22 #[.int .i64 N] w (ZRes w N (Zo.clo N.toNat (List.replicate ((N.toNat + 1) * (N.toNat + 1)) 1099511627776)) (flE N 1099511627776)) := by
  have P := Lib.hid (fun W => zunif_gen N 1099511627776 W (by decide))
  generalize Zo.clo N.toNat (List.replicate ((N.toNat + 1) * (N.toNat + 1)) 1099511627776) = r at *
  generalize flE N 1099511627776 = er at *
  obtain ⟨w0, hw0⟩ : ∃ w0, w0 = w.alloc (.cells #[.int .i64 0, .slice none 0 0] 25) := ⟨_, rfl⟩
  have rs : Two w0 w.heap.size (.int .i64 0) (.slice none 0 0) := by rw [hw0]; exact Two.made _ _ _ _
  have E0 := Lib.hid (show Below w.heap.size w w0 by rw [hw0]; exact one_more _)
  have z0 : w0.heap.size = w.heap.size + 1 := by rw [hw0]; simp
  go_enter Try.func22, Try.ntmps22
  go_wp2_with fail
  rw [← hw0]
  clear hw0
  refine (P.out _).mono ?_
  intro e w4 hG
  obtain ⟨hb4, hres⟩ := hG
  have HB4 := Lib.hid hb4
  obtain ⟨q0, q1, q2, q3⟩ := (rs.kept hb4).facts
  rcases hres with ⟨he, g, c, rfl, hgl, hO⟩ | ⟨he, rfl⟩
  · have HOO := Lib.hid hO
    subst he
    clear hO hb4
    go_wp2_with fail
    refine bodyPost_ret (v := .tuple #[.agg #[.int .i64 N, .slice (some ⟨g, 0, none⟩) r.length c], .int .i64 0]) (by simp [results, Try.results22, go_sem, q0, q1]) rfl (zres_over E0.out HB4.out HOO.out hgl (by omega) (by omega) _ _)
  · have HEE := Lib.hid he
    clear he hb4
    go_wp2_with fail
    refine bodyPost_ret (v := .tuple #[.agg #[.int .i64 0, .slice none 0 0], .int .i64 er]) (by simp [results, Try.results22, go_sem, q0, q1]) rfl (zres_over0 E0.out HB4.out HEE.out (by omega) _ _)
end Go.Proofs.Ytbnebinpemejlaa
