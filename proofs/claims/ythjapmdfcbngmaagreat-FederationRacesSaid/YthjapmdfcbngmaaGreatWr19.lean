/- A part. -/
import Derived.Test.YthjapmdfcbngmaaGreatWr8
import Derived.Test.YthjapmdfcbngmaaGreatWr9
import Derived.Test.YthjapmdfcbngmaaGreatWr1
import Derived.Test.YthjapmdfcbngmaaGreatWr17
namespace Go.Proofs.YthjapmdfcbngmaaGreat
set_option maxHeartbeats 1600000
open Go.RowKit
abbrev Pq := Int × Int
def gp (ps : List Pq) (k : Nat) : Pq := ps.getD k (0, 0)
def clk (ps : List Pq) (i : Nat) : Pq := if i = 0 then (0, 1) else gp ps (i - 1)
def Rd2 (w : World) (a : Addr) (ps : List Pq) : Prop := ∀ j, j < ps.length → w.cell? (a.add (j * 2)) = some (.int .i64 (gp ps j).1) ∧ w.cell? ⟨(a.add (j * 2)).block, (a.add (j * 2)).off + 1, none⟩ = some (.int .i64 (gp ps j).2)
theorem Rd2.on {w w' : World} {a : Addr} {l : List Pq} (h : Rd2 w a l) (hb : Below w.heap.size w w') : Rd2 w' a l := fun j hj => ⟨kept hb (h j hj).1, kept hb (h j hj).2⟩
def Arg2 (w : World) (po : Option Addr) (ps : List Pq) : Prop := ps ≠ [] → ∃ a, po = some a ∧ Rd2 w a ps
theorem Arg2.on {w w' : World} {ao : Option Addr} {l : List Pq} (h : Arg2 w ao l) (hb : Below w.heap.size w w') : Arg2 w' ao l := fun hl => by
 obtain ⟨a, h1, h2⟩ := h hl
 exact ⟨a, h1, h2.on hb⟩
theorem clock_any (ps : List Pq) (po : Option Addr) (pc i : Nat) (w : World) (hA : Arg2 w po ps) (hi : i ≤ ps.length) (hl : ps.length ≤ 1000) :
  Calls Tryz.prog 120 #[.slice po ps.length pc, .int .i64 i] w (Made (.agg #[.int .i64 (clk ps i).1, .int .i64 (clk ps i).2]) w) := by
 by_cases h0 : i = 0
 · have H := Lib.hid (show clk ps i = (0, 1) by unfold clk; rw [if_pos h0])
   have I0 : ((i : Int) == 0) = true := by simp; omega
   clear h0
   generalize ps.length = len at *
   go_enter Tryz.func120, Tryz.ntmps120
   go_wp2_with fail
   refine bodyPost_ret (v := .agg #[.int .i64 0, .int .i64 1]) (by simp [results, Tryz.results120, go_sem]) rfl ⟨by rw [H.out], ?_⟩
   exact one_more _
 · have H := Lib.hid (show clk ps i = gp ps (i - 1) by unfold clk; rw [if_neg h0])
   obtain ⟨a, rfl, hR⟩ := hA (fun e => by rw [e] at hi; simp at hi; omega)
   obtain ⟨k, rfl⟩ : ∃ k, i = k + 1 := ⟨i - 1, by omega⟩
   have c0 := fun o => (hR.on (one_more (w1 := w) o)) k (by omega)
   rw [show k + 1 - 1 = k by omega] at H
   generalize gp ps k = q at *
   obtain ⟨x, y⟩ := q
   have d0 : ∀ o, (w.alloc o).cell? (a.add (k * 2)) = some (.int .i64 x) := fun o => (c0 o).1
   have d1 : ∀ o, (w.alloc o).cell? ⟨(a.add (k * 2)).block, (a.add (k * 2)).off + 1, none⟩ = some (.int .i64 y) := fun o => (c0 o).2
   have I0 : (((k + 1 : Nat) : Int) == 0) = false := by simp; omega
   have kl : (k : Int) < (ps.length : Int) := by omega
   clear c0 hR hA
   generalize ps.length = len at *
   go_enter Tryz.func120, Tryz.ntmps120
   go_wp2_with fail
   refine bodyPost_ret (v := .agg #[.int .i64 x, .int .i64 y]) (by simp [results, Tryz.results120, go_sem]) rfl ⟨by rw [H.out], ?_⟩
   exact one_more _
def vldC (c : Pq) : Bool := vldB c.1 c.2 && decide (0 ≤ c.1)
def sbE (ps : List Pq) (i j : Nat) : Int := mkErr ((clk ps i).1 * (clk ps j).2 - (clk ps j).1 * (clk ps i).2) ((clk ps i).2 * (clk ps j).2)
def sbN (ps : List Pq) (i j : Nat) : Int := mkNum ((clk ps i).1 * (clk ps j).2 - (clk ps j).1 * (clk ps i).2) ((clk ps i).2 * (clk ps j).2)
def sbD (ps : List Pq) (i j : Nat) : Int := mkDen ((clk ps i).1 * (clk ps j).2 - (clk ps j).1 * (clk ps i).2) ((clk ps i).2 * (clk ps j).2)
def rdR (n : Nat) (ps : List Pq) : Bool := (List.range (n + 1)).all fun i => (List.range (n + 1)).all fun j => decide (sbE ps i j = 0)
def rdE (N : Int) (l : List Int) (ps : List Pq) : Int := if chkE N l = 0 ∧ (ps.length : Int) = N ∧ ps.all vldC = true then (if rdR N.toNat ps then 0 else 7) else 2
theorem rd_all {ps : List Pq} (h : ps.all vldC = true) (k : Nat) (hk : k < ps.length) : vldC (gp ps k) = true := by
 rw [List.all_eq_true] at h
 have := h ps[k] (List.getElem_mem hk)
 simpa [gp, hk] using this
theorem rd_of {ps : List Pq} (h : ∀ k, k < ps.length → vldC (gp ps k) = true) : ps.all vldC = true := by
 rw [List.all_eq_true]
 intro x hx
 obtain ⟨k, hk, rfl⟩ := List.getElem_of_mem hx
 have := h k hk
 simpa [gp, hk] using this
theorem rdR_at {n : Nat} {ps : List Pq} (h : rdR n ps = true) {i j : Nat} (hi : i < n + 1) (hj : j < n + 1) : sbE ps i j = 0 := by
 simp [rdR] at h; exact h i hi j hj
theorem rdR_of {n : Nat} {ps : List Pq} (h : ∀ i, i < n + 1 → ∀ j, j < n + 1 → sbE ps i j = 0) : rdR n ps = true := by
 simp [rdR]; exact h
theorem clk_ok {ps : List Pq} (h : ∀ k, k < ps.length → vldC (gp ps k) = true) {i : Nat} (hi : i ≤ ps.length) : vldB (clk ps i).1 (clk ps i).2 = true := by
 unfold clk
 split
 · decide +kernel
 · have := h (i - 1) (by omega)
   unfold vldC at this
   simp at this
   exact this.1
theorem sub_clk {ps : List Pq} (w : World) (h : ∀ k, k < ps.length → vldC (gp ps k) = true) {i j : Nat} (hi : i ≤ ps.length) (hj : j ≤ ps.length) :
  Calls Tryz.prog 119 #[.agg #[.int .i64 (clk ps i).1, .int .i64 (clk ps i).2], .agg #[.int .i64 (clk ps j).1, .int .i64 (clk ps j).2]] w (Made (.tuple #[.agg #[.int .i64 (sbN ps i j), .int .i64 (sbD ps i j)], .int .i64 (sbE ps i j)]) w) := by
 have v1 := clk_ok h hi
 have v2 := clk_ok h hj
 obtain ⟨a1, a2, a3, a4⟩ := vld_bd v1
 obtain ⟨b1, b2, b3, b4⟩ := vld_bd v2
 have := refSub_any (clk ps i).1 (clk ps i).2 (clk ps j).1 (clk ps j).2 w (by unfold I64; omega) (by unfold I64; omega) (by unfold I64; omega) (by unfold I64; omega)
 rw [v1, v2] at this
 exact this
theorem ready_bad1 (N : Int) (l : List Int) (ao : Option Addr) (cap : Nat) (ps : List Pq) (po : Option Addr) (pc : Nat) (w : World) (hA : Arg w ao l) (hc : chkE N l ≠ 0) :
  Calls Tryz.prog 118 #[.agg #[.int .i64 N, .slice ao l.length cap], .slice po ps.length pc] w (Made (.int .i64 (rdE N l ps)) w) := by
 have H := Lib.hid (show rdE N l ps = 2 by unfold rdE; rw [if_neg (fun h => hc h.1)])
 have CK := Lib.hid fun W (h : Below w.heap.size w W) => check_as (cap := cap) W (hA.on h) (chk_two hc)
 have e0 := Lib.hid (one_more (w1 := w))
 clear hA hc
 generalize l.length = len at *
 generalize ps.length = plen at *
 go_enter Tryz.func118, Tryz.ntmps118
 go_wp2_with fail
 refine (CK.out _ (e0.out _)).mono ?_
 rintro e w1 ⟨rfl, hb⟩
 go_wp2_with fail
 go_ret
 exact ⟨ret_int H.out.symm, past_one hb⟩
theorem ready_bad2 (N : Int) (l : List Int) (ao : Option Addr) (cap : Nat) (ps : List Pq) (po : Option Addr) (pc : Nat) (w : World) (hA : Arg w ao l) (hc : chkE N l = 0) (hp : (ps.length : Int) ≠ N) :
  Calls Tryz.prog 118 #[.agg #[.int .i64 N, .slice ao l.length cap], .slice po ps.length pc] w (Made (.int .i64 (rdE N l ps)) w) := by
 have H := Lib.hid (show rdE N l ps = 2 by unfold rdE; rw [if_neg (fun h => hp h.2.1)])
 have CK := Lib.hid fun W (h : Below w.heap.size w W) => check_as (cap := cap) W (hA.on h) hc
 have e0 := Lib.hid (one_more (w1 := w))
 have D : ((ps.length : Int) != N) = true := by simpa using hp
 clear hA hc hp
 generalize l.length = len at *
 generalize ps.length = plen at *
 go_enter Tryz.func118, Tryz.ntmps118
 go_wp2_with fail
 refine (CK.out _ (e0.out _)).mono ?_
 rintro e w1 ⟨rfl, hb⟩
 obtain ⟨b0, b1, b2, b3⟩ := ((Two.made w (.int .i64 N) (.slice ao len cap) 36).kept hb).facts
 go_wp2_with fail
 go_ret
 exact ⟨ret_int H.out.symm, past_one hb⟩
theorem ready_any (n : Nat) (l : List Int) (a : Addr) (cap : Nat) (ps : List Pq) (po : Option Addr) (pc : Nat) (w : World) (hn : n ≤ 10) (hl : l.length = (n + 1) * (n + 1)) (hR : Rd w a l) (hc : chkE n l = 0) (hp : ps.length = n) (hP : Arg2 w po ps) (hI : ∀ k, k < ps.length → I64 (gp ps k).1 ∧ I64 (gp ps k).2) :
  Calls Tryz.prog 118 #[.agg #[.int .i64 n, .slice (some a) l.length cap], .slice po ps.length pc] w (Made (.int .i64 (rdE n l ps)) w) := by
 obtain ⟨len, hlen⟩ : ∃ len, len = l.length := ⟨_, rfl⟩
 obtain ⟨w0, hw0⟩ : ∃ w0, w0 = w.alloc (.cells #[.int .i64 n, .slice (some a) len cap] 36) := ⟨_, rfl⟩
 have bx : Two w0 w.heap.size (.int .i64 n) (.slice (some a) len cap) := by rw [hw0]; exact Two.made _ _ _ _
 have e0 : Below w.heap.size w w0 := by rw [hw0]; exact one_more _
 have CK : Hid (∀ W, Below w.heap.size w W → Calls Tryz.prog 39 #[.agg #[.int .i64 n, .slice (some a) len cap]] W (Made (.int .i64 0) W)) := Lib.hid fun W h => by have := check_any n l a cap W hn hl (hR.on h); rw [hc, ← hlen] at this; exact this
 have CL : Hid (∀ (i : Nat) (W : World), i ≤ n → Below w.heap.size w W → Calls Tryz.prog 120 #[.slice po n pc, .int .i64 i] W (Made (.agg #[.int .i64 (clk ps i).1, .int .i64 (clk ps i).2]) W)) := Lib.hid fun i W hi h => by have := clock_any ps po pc i W (hP.on h) (by omega) (by omega); rw [hp] at this; exact this
 have HP := Lib.hid hP
 have HI := Lib.hid hI
 have HPl := Lib.hid hp
 have HC := Lib.hid hc
 have E0 := Lib.hid e0
 have HW0 := Lib.hid hw0
 have D0 : ((n : Int) != (n : Int)) = false := by simp
 rw [hp, ← hlen]
 clear hR hc hp hP hI e0 hw0 hl hlen
 go_enter Tryz.func118, Tryz.ntmps118
 go_wp2_with fail
 rw [← HW0.out]
 obtain ⟨b0, b1, b2, b3⟩ := bx.facts
 go_wp2_with fail
 refine (CK.out _ E0.out).mono ?_
 rintro e w1 ⟨rfl, hb1⟩
 clear b0 b1 b2 b3
 replace bx := bx.kept hb1
 have E1 := Lib.hid (below_on E0.out hb1)
 clear hb1 E0
 obtain ⟨b0, b1, b2, b3⟩ := bx.facts
 go_wp2_with fail
 clear b0 b1 b2 b3
 go_loopw [5] (fun s wr => ∃ t : Nat, t ≤ n ∧ s = .int .i64 t ∧ Hid (∀ k, k < t → vldC (gp ps k) = true) ∧ Hid (Below w1.heap.size w1 wr)) (fun s _ => n - (intOf s).toNat)
 case atStart => exact ⟨0, by omega, rfl, Lib.hid (fun k hk => by omega), Lib.hid (Below.refl _ _)⟩
 case round =>
  obtain ⟨t, ht, rfl, HK, HB⟩ := hrel
  by_cases htn : t < n
  · obtain ⟨d, hd, hD⟩ := HP.out (fun e => by have := HPl.out; rw [e] at this; simp at this; omega)
    subst hd
    obtain ⟨i1, i2⟩ := HI.out t (by rw [HPl.out]; exact htn)
    obtain ⟨c1, c2⟩ := (hD.on (below_on E1.out HB.out)) t (by rw [HPl.out]; exact htn)
    obtain ⟨q, hq⟩ : ∃ q, q = gp ps t := ⟨_, rfl⟩
    rw [← hq] at c1 c2 i1 i2
    have HQ := Lib.hid hq
    clear hq hD
    obtain ⟨x, y⟩ := q
    simp only at c1 c2 i1 i2
    cases v : vldB x y
    · have HE := Lib.hid (show rdE n l ps = 2 by
       unfold rdE
       rw [if_neg]
       rintro ⟨_, _, h⟩
       have := rd_all h t (by rw [HPl.out]; exact htn)
       rw [← HQ.out] at this
       simp [vldC, v] at this)
      have V := Lib.hid v
      clear v
      go_wp2_with fail
      refine (refValid_as _ i1 i2 V.out).mono ?_
      rintro e w2 ⟨rfl, hb2⟩
      go_wp2_with fail
      go_ret
      exact ⟨ret_int HE.out.symm, below_on (below_on E1.out HB.out) hb2⟩
    · have V := Lib.hid v
      by_cases x0 : x < 0
      · have HE := Lib.hid (show rdE n l ps = 2 by
         unfold rdE
         rw [if_neg]
         rintro ⟨_, _, h⟩
         have := rd_all h t (by rw [HPl.out]; exact htn)
         rw [← HQ.out] at this
         simp [vldC, v] at this
         omega)
        have D : decide (x < (0 : Int)) = true := by simpa using x0
        clear v
        go_wp2_with fail
        refine (refValid_as _ i1 i2 V.out).mono ?_
        rintro e w2 ⟨rfl, hb2⟩
        replace c1 := kept hb2 c1
        replace c2 := kept hb2 c2
        go_wp2_with fail
        go_ret
        exact ⟨ret_int HE.out.symm, below_on (below_on E1.out HB.out) hb2⟩
      · have HK2 := Lib.hid (show vldC (gp ps t) = true by rw [← HQ.out]; simp [vldC, v]; omega)
        have D : decide (x < (0 : Int)) = false := by simp; omega
        clear v
        go_wp2_with fail
        refine (refValid_as _ i1 i2 V.out).mono ?_
        rintro e w2 ⟨rfl, hb2⟩
        replace c1 := kept hb2 c1
        replace c2 := kept hb2 c2
        have HB2 := Lib.hid (below_on HB.out hb2)
        clear hb2
        go_wp2_with fail
        go_roundw
        case rel =>
         refine ⟨t + 1, by omega, by go_num, Lib.hid (fun k hk => ?_), HB2⟩
         by_cases e : k = t
         · rw [e]; exact HK2.out
         · exact HK.out k (by omega)
        case measure => simp [intOf]; omega
  · have HV := Lib.hid (show ∀ k, k < ps.length → vldC (gp ps k) = true from fun k hk => HK.out k (by rw [HPl.out] at hk; omega))
    have HA := Lib.hid (rd_of HV.out)
    have SB := Lib.hid fun (i j : Nat) (W : World) (hi : i ≤ n) (hj : j ≤ n) => sub_clk (ps := ps) W HV.out (i := i) (j := j) (by rw [HPl.out]; exact hi) (by rw [HPl.out]; exact hj)
    clear HK
    go_wp2_with fail
    go_loopw [6] (fun s wx => ∃ t : Nat, t ≤ n + 1 ∧ s = .int .i64 t ∧ Hid (∀ i, i < t → ∀ j, j < n + 1 → sbE ps i j = 0) ∧ Hid (Below w1.heap.size w1 wx)) (fun s _ => n + 1 - (intOf s).toNat)
    case atStart => exact ⟨0, by omega, rfl, Lib.hid (fun k hk => by omega), HB⟩
    case round =>
     clear HB
     obtain ⟨i, hi, rfl, HS, HB⟩ := hrel
     obtain ⟨b0, b1, b2, b3⟩ := (bx.kept HB.out).facts
     by_cases hin : i ≤ n
     · go_wp2_with fail
       clear b0 b1 b2 b3
       go_loopw [7] (fun s wx => ∃ t : Nat, t ≤ n + 1 ∧ s = .int .i64 t ∧ Hid (∀ j, j < t → sbE ps i j = 0) ∧ Hid (Below w1.heap.size w1 wx)) (fun s _ => n + 1 - (intOf s).toNat)
       case atStart => exact ⟨0, by omega, rfl, Lib.hid (fun k hk => by omega), HB⟩
       case round =>
        obtain ⟨j, hj, rfl, HJ, HBj⟩ := hrel
        obtain ⟨b0, b1, b2, b3⟩ := (bx.kept HBj.out).facts
        by_cases hjn : j ≤ n
        · by_cases hs : sbE ps i j = 0
          · have SB2 := Lib.hid fun (W : World) => by have := SB.out i j W hin hjn; rw [hs] at this; exact this
            have HS2 := Lib.hid hs
            clear hs
            go_wp2_with fail
            refine (CL.out i _ hin (below_on E1.out HBj.out)).mono ?_
            rintro e w3 ⟨rfl, hb3⟩
            have q3 := below_on HBj.out hb3
            clear hb3 b0 b1 b2 b3
            go_wp2_with fail
            refine (CL.out j _ hjn (below_on E1.out q3)).mono ?_
            rintro e w4 ⟨rfl, hb4⟩
            have q4 := below_on q3 hb4
            clear hb4 q3
            go_wp2_with fail
            refine (SB2.out _).mono ?_
            rintro e w5 ⟨rfl, hb5⟩
            have Q5 := Lib.hid (below_on q4 hb5)
            clear hb5 q4
            go_wp2_with fail
            go_roundw
            case rel =>
             refine ⟨j + 1, by omega, by go_num, Lib.hid (fun k hk => ?_), Lib.hid (Q5.out.alloc Q5.out.size _)⟩
             by_cases e : k = j
             · rw [e]; exact HS2.out
             · exact HJ.out k (by omega)
            case measure => simp [intOf]; omega
          · have HE := Lib.hid (show rdE n l ps = 7 by
             unfold rdE
             rw [if_pos ⟨HC.out, by rw [HPl.out], HA.out⟩]
             have : rdR n ps = false := by
              cases e : rdR n ps
              · rfl
              · have := rdR_at e (i := i) (j := j) (by omega) (by omega)
                exact absurd this hs
             simp [this])
            have D : (sbE ps i j != 0) = true := by simpa using hs
            have SB2 := Lib.hid fun (W : World) => SB.out i j W hin hjn
            generalize sbE ps i j = er at *
            clear hs
            go_wp2_with fail
            refine (CL.out i _ hin (below_on E1.out HBj.out)).mono ?_
            rintro e w3 ⟨rfl, hb3⟩
            have q3 := below_on HBj.out hb3
            clear hb3 b0 b1 b2 b3
            go_wp2_with fail
            refine (CL.out j _ hjn (below_on E1.out q3)).mono ?_
            rintro e w4 ⟨rfl, hb4⟩
            have q4 := below_on q3 hb4
            clear hb4 q3
            go_wp2_with fail
            refine (SB2.out _).mono ?_
            rintro e w5 ⟨rfl, hb5⟩
            have Q5 := Lib.hid (below_on q4 hb5)
            clear hb5 q4
            go_wp2_with fail
            go_ret
            exact ⟨ret_int HE.out.symm, (below_on E1.out Q5.out).alloc (below_on E1.out Q5.out).size _⟩
        · have HS3 := Lib.hid (show ∀ x, x < i + 1 → ∀ j, j < n + 1 → sbE ps x j = 0 from fun x hx y hy => by
           by_cases e : x = i
           · rw [e]; exact HJ.out y (by omega)
           · exact HS.out x (by omega) y hy)
          go_wp2_with fail
          go_roundw
          case rel => exact ⟨i + 1, by omega, by go_num, HS3, HBj⟩
          case measure => simp [intOf]; omega
     · have HE := Lib.hid (show rdE n l ps = 0 by
        unfold rdE
        rw [if_pos ⟨HC.out, by rw [HPl.out], HA.out⟩]
        have : rdR n ps = true := rdR_of (fun i hi j hj => HS.out i (by omega) j hj)
        simp [this])
       go_wp2_with fail
       go_ret
       exact ⟨ret_int HE.out.symm, below_on E1.out HB.out⟩
end Go.Proofs.YthjapmdfcbngmaaGreat
namespace Go.Proofs.YthjapmdfcbngmaaGreat
theorem gcd_pos (a b : Int) (h : b ≠ 0) : 0 < Nat.gcd a.natAbs b.natAbs := Nat.gcd_pos_of_pos_right _ (by omega)
theorem top_mul (a b : Int) : top a b * Nat.gcd a.natAbs b.natAbs = a.natAbs := Nat.div_mul_cancel (Nat.gcd_dvd_left _ _)
theorem bot_mul (a b : Int) : bot a b * Nat.gcd a.natAbs b.natAbs = b.natAbs := Nat.div_mul_cancel (Nat.gcd_dvd_right _ _)
theorem tb_cop (a b : Int) (h : b ≠ 0) : Nat.gcd (top a b) (bot a b) = 1 := by
 unfold top bot
 exact Nat.Coprime.gcd_eq_one (Nat.coprime_div_gcd_div_gcd (gcd_pos a b h))
theorem bot_pos (a b : Int) (h : b ≠ 0) : 1 ≤ bot a b := by
 have h1 := bot_mul a b
 rcases Nat.eq_zero_or_pos (bot a b) with e | e
 · rw [e] at h1; omega
 · exact e
theorem cop_unique {t u t' u' : Nat} (h : Nat.gcd t u = 1) (h' : Nat.gcd t' u' = 1) (e : t * u' = t' * u) : t = t' ∧ u = u' := by
 have d1 : t ∣ t' := Nat.Coprime.dvd_of_dvd_mul_right (show Nat.Coprime t u from h) (e ▸ Nat.dvd_mul_right t u')
 have d2 : t' ∣ t := Nat.Coprime.dvd_of_dvd_mul_right (show Nat.Coprime t' u' from h') (e ▸ Nat.dvd_mul_right t' u)
 have d3 : u ∣ u' := Nat.Coprime.dvd_of_dvd_mul_left (show Nat.Coprime u t from by rw [Nat.coprime_comm]; exact h) (e ▸ Nat.dvd_mul_left u t')
 have d4 : u' ∣ u := Nat.Coprime.dvd_of_dvd_mul_left (show Nat.Coprime u' t' from by rw [Nat.coprime_comm]; exact h') (e ▸ Nat.dvd_mul_left u' t)
 exact ⟨Nat.dvd_antisymm d1 d2, Nat.dvd_antisymm d3 d4⟩
theorem tb_congr {a b a' b' : Int} (hb : b ≠ 0) (hb' : b' ≠ 0) (e : a * b' = a' * b) : top a b = top a' b' ∧ bot a b = bot a' b' := by
 apply cop_unique (tb_cop a b hb) (tb_cop a' b' hb')
 have e1 : a.natAbs * b'.natAbs = a'.natAbs * b.natAbs := by rw [← Int.natAbs_mul, ← Int.natAbs_mul, e]
 have t1 := top_mul a b
 have t2 := bot_mul a b
 have t3 := top_mul a' b'
 have t4 := bot_mul a' b'
 have p := gcd_pos a b hb
 have p' := gcd_pos a' b' hb'
 have e2 : (Nat.gcd a.natAbs b.natAbs * Nat.gcd a'.natAbs b'.natAbs) * (top a b * bot a' b') = (Nat.gcd a.natAbs b.natAbs * Nat.gcd a'.natAbs b'.natAbs) * (top a' b' * bot a b) := by
  calc _ = top a b * Nat.gcd a.natAbs b.natAbs * (bot a' b' * Nat.gcd a'.natAbs b'.natAbs) := by ac_rfl
   _ = a.natAbs * b'.natAbs := by rw [t1, t4]
   _ = a'.natAbs * b.natAbs := e1
   _ = top a' b' * Nat.gcd a'.natAbs b'.natAbs * (bot a b * Nat.gcd a.natAbs b.natAbs) := by rw [t2, t3]
   _ = _ := by ac_rfl
 exact Nat.eq_of_mul_eq_mul_left (Nat.mul_pos p p') e2
theorem neg_iff {a b : Int} (ha : a ≠ 0) (hb : b ≠ 0) : (decide (a < 0) != decide (b < 0)) = decide (a * b < 0) := by
 rcases Int.lt_or_lt_of_ne ha with x | x <;> rcases Int.lt_or_lt_of_ne hb with y | y
 · have u : 0 < a * b := Int.mul_pos_of_neg_of_neg x y
   rw [Bool.eq_iff_iff]; simp; omega
 · have u : a * b < 0 := Int.mul_neg_of_neg_of_pos x y
   rw [Bool.eq_iff_iff]; simp; omega
 · have u : a * b < 0 := Int.mul_neg_of_pos_of_neg x y
   rw [Bool.eq_iff_iff]; simp; omega
 · have u : 0 < a * b := Int.mul_pos x y
   rw [Bool.eq_iff_iff]; simp; omega
theorem neg_scale {x y p q : Int} (hp : 0 < p) (hq : 0 < q) (e : x * p = y * q) (h : x < 0) : y < 0 := by
 have u : x * p < 0 := Int.mul_neg_of_neg_of_pos h hp
 rcases Int.lt_or_le y 0 with k | k
 · exact k
 · have : 0 ≤ y * q := Int.mul_nonneg k (by omega)
   omega
theorem sq_pos {b : Int} (hb : b ≠ 0) : 0 < b * b := by
 rcases Int.lt_or_lt_of_ne hb with x | x
 · exact Int.mul_pos_of_neg_of_neg x x
 · exact Int.mul_pos x x
theorem neg_congr {a b a' b' : Int} (hb : b ≠ 0) (hb' : b' ≠ 0) (e : a * b' = a' * b) (h0 : a ≠ 0) : (decide (a < 0) != decide (b < 0)) = (decide (a' < 0) != decide (b' < 0)) := by
 have h1 : a' ≠ 0 := by
  intro h
  rw [h, Int.zero_mul] at e
  rcases Int.mul_eq_zero.1 e with h | h
  · exact h0 h
  · exact hb' h
 rw [neg_iff h0 hb, neg_iff h1 hb']
 have k : (a * b) * (b' * b') = (a' * b') * (b * b) := by
  calc (a * b) * (b' * b') = (a * b') * (b * b') := by ac_rfl
   _ = (a' * b) * (b * b') := by rw [e]
   _ = _ := by ac_rfl
 rw [decide_eq_decide]
 exact ⟨neg_scale (sq_pos hb') (sq_pos hb) k, neg_scale (sq_pos hb) (sq_pos hb') k.symm⟩
theorem mk_congr {a b a' b' : Int} (hb : b ≠ 0) (hb' : b' ≠ 0) (e : a * b' = a' * b) : mkNum a b = mkNum a' b' ∧ mkDen a b = mkDen a' b' ∧ mkErr a b = mkErr a' b' := by
 obtain ⟨e1, e2⟩ := tb_congr hb hb' e
 have ef : fits a b = fits a' b' := by unfold fits; rw [e1, e2]
 refine ⟨?_, ?_, ?_⟩
 · unfold mkNum
   rw [if_neg hb, if_neg hb', ef, e1]
   by_cases h0 : a = 0
   · have t0 : top a' b' = 0 := by rw [← e1, h0]; simp [top]
     rw [t0]; simp
   · rw [neg_congr hb hb' e h0]
 · unfold mkDen
   rw [if_neg hb, if_neg hb', ef, e2]
 · unfold mkErr
   rw [if_neg hb, if_neg hb', ef]
theorem mk_self {n d : Int} (h : vldB n d = true) : mkNum n d = n ∧ mkDen n d = d ∧ mkErr n d = 0 := by
 obtain ⟨h1, h2, h3, h4⟩ := vld_bd h
 have hg : Nat.gcd n.natAbs d.natAbs = 1 := by unfold vldB at h; simp at h; exact h.2.2.2.2
 have t1 : top n d = n.natAbs := by unfold top; rw [hg]; simp
 have t2 : bot n d = d.natAbs := by unfold bot; rw [hg]; simp
 have hf : fits n d = true := by unfold fits; rw [t1, t2]; simp; omega
 have hd : ¬ d = 0 := by omega
 refine ⟨?_, ?_, ?_⟩
 · unfold mkNum; rw [if_neg hd, hf, t1]
   have : decide (d < 0) = false := by simp; omega
   rw [this]
   by_cases hn : n < 0
   · simp [hn]; omega
   · simp [hn]; omega
 · unfold mkDen; rw [if_neg hd, hf, t2]; simp; omega
 · unfold mkErr; rw [if_neg hd, hf]; rfl
theorem mk_is {a b P Q : Int} (hv : vldB P Q = true) (hb : b ≠ 0) (e : P * b = a * Q) : mkNum a b = P ∧ mkDen a b = Q ∧ mkErr a b = 0 := by
 have hQ := (vld_bd hv).1
 obtain ⟨s1, s2, s3⟩ := mk_self hv
 obtain ⟨c1, c2, c3⟩ := mk_congr (a := a) (b := b) (a' := P) (b' := Q) hb (by omega) e.symm
 rw [s1] at c1; rw [s2] at c2; rw [s3] at c3
 exact ⟨c1, c2, c3⟩
theorem mk_ok {a b : Int} (h : mkErr a b = 0) : b ≠ 0 ∧ vldB (mkNum a b) (mkDen a b) = true ∧ mkNum a b * b = a * mkDen a b := by
 have hb : b ≠ 0 := by intro e; unfold mkErr at h; rw [if_pos e] at h; omega
 have hf : fits a b = true := by
  unfold mkErr at h; rw [if_neg hb] at h
  cases hc : fits a b
  · rw [hc] at h; simp at h
  · rfl
 have hn : mkNum a b = (if (decide (a < 0) != decide (b < 0)) then -(top a b : Int) else top a b) := by unfold mkNum; rw [if_neg hb, hf]; rfl
 have hd : mkDen a b = bot a b := by unfold mkDen; rw [if_neg hb, hf]; rfl
 have c := tb_cop a b hb
 have p := bot_pos a b hb
 have f2 : top a b ≤ 2147483647 ∧ bot a b ≤ 2147483647 := by unfold fits at hf; simpa using hf
 have ab : (mkNum a b).natAbs = top a b := by rw [hn]; split <;> simp
 refine ⟨hb, ?_, ?_⟩
 · unfold vldB
   rw [ab, hd]
   simp
   refine ⟨by omega, by omega, ?_, ?_, c⟩ <;> omega
 · have t := top_mul a b
   have u := bot_mul a b
   generalize hg : Nat.gcd a.natAbs b.natAbs = g at *
   have t' : ((top a b : Nat) : Int) * (g : Int) = (a.natAbs : Int) := by exact_mod_cast t
   have u' : ((bot a b : Nat) : Int) * (g : Int) = (b.natAbs : Int) := by exact_mod_cast u
   rw [hn, hd]
   generalize ((top a b : Nat) : Int) = T at *
   generalize ((bot a b : Nat) : Int) = U at *
   by_cases ha : a < 0 <;> by_cases hb2 : b < 0
   · have ea : a = -(T * g) := by omega
     have eb : b = -(U * g) := by omega
     simp only [ha, hb2, decide_true, bne_self_eq_false, Bool.false_eq_true, if_false]
     rw [eb, ea]; grind
   · have ea : a = -(T * g) := by omega
     have eb : b = U * g := by omega
     simp only [ha, hb2, decide_true, decide_false]
     simp
     rw [eb, ea]; grind
   · have ea : a = T * g := by omega
     have eb : b = -(U * g) := by omega
     simp only [ha, hb2, decide_true, decide_false]
     simp
     rw [eb, ea]; grind
   · have ea : a = T * g := by omega
     have eb : b = U * g := by omega
     simp only [ha, hb2, decide_false, bne_self_eq_false, Bool.false_eq_true, if_false]
     rw [eb, ea]; grind
theorem mk_zero {a b : Int} (hb : b ≠ 0) (h : mkErr a b ≠ 0) : mkNum a b = 0 ∧ mkDen a b = 0 ∧ mkErr a b = 7 := by
 unfold mkErr at h; rw [if_neg hb] at h
 have hf : fits a b = false := by
  cases hc : fits a b
  · rfl
  · rw [hc] at h; simp at h
 unfold mkNum mkDen mkErr
 rw [if_neg hb, if_neg hb, if_neg hb, hf]
 simp
open Go.RowKit
def Fits (ps : List Pq) : Prop := ∀ k, k < ps.length → I64 (gp ps k).1 ∧ I64 (gp ps k).2
theorem ready_gen (N : Int) (l : List Int) (ao : Option Addr) (cap : Nat) (ps : List Pq) (po : Option Addr) (pc : Nat) (w : World) (hA : Arg w ao l) (hP : Arg2 w po ps) (hI : Fits ps) :
  Calls Tryz.prog 118 #[.agg #[.int .i64 N, .slice ao l.length cap], .slice po ps.length pc] w (Made (.int .i64 (rdE N l ps)) w) := by
 by_cases hc : chkE N l = 0
 · by_cases hp : (ps.length : Int) = N
   · obtain ⟨n, rfl, hn, hl, hne⟩ := chk_ok hc
     obtain ⟨a, rfl, hR⟩ := hA hne
     exact ready_any n l a cap ps po pc w hn hl hR hc (by omega) hP hI
   · exact ready_bad2 N l ao cap ps po pc w hA hc hp
 · exact ready_bad1 N l ao cap ps po pc w hA hc
theorem chk_i64 {n : Nat} {l : List Int} (h : chkE (n : Int) l = 0) {i j : Nat} (hi : i ≤ n) (hj : j ≤ n) : I64 (Zo.At n l i j) := by
 unfold chkE at h
 split at h
 · rename_i c
   unfold chkB at c
   simp only [Bool.and_eq_true] at c
   have := chk1_iff.1 c.1.2 i (by simp; omega) j (by simp; omega)
   simp only [Int.toNat_natCast] at this
   unfold okI at this
   simp only [Bool.and_eq_true] at this
   have lv := this.1.1
   unfold lvB at lv
   simp at lv
   unfold I64; omega
 · omega
def hsM (n : Nat) (l : List Int) (ps : List Pq) (i j : Nat) : Bool := meB (sbN ps i j) (sbD ps i j) (Zo.At n l i j)
def hsB (n : Nat) (l : List Int) (ps : List Pq) : Bool := (List.range (n + 1)).all fun i => (List.range (n + 1)).all fun j => hsM n l ps i j
def hsR (N : Int) (l : List Int) (ps : List Pq) : Bool := decide (rdE N l ps = 0) && hsB N.toNat l ps
theorem hsB_iff {n : Nat} {l : List Int} {ps : List Pq} : hsB n l ps = true ↔ ∀ i, i < n + 1 → ∀ j, j < n + 1 → hsM n l ps i j = true := by simp [hsB]
theorem hsB_no {n : Nat} {l : List Int} {ps : List Pq} {i j : Nat} (hi : i < n + 1) (hj : j < n + 1) (h : hsM n l ps i j = false) : hsB n l ps = false := by
 cases e : hsB n l ps
 · rfl
 · have := hsB_iff.1 e i hi j hj
   rw [h] at this; simp at this
theorem rd_ok {N : Int} {l : List Int} {ps : List Pq} (h : rdE N l ps = 0) : chkE N l = 0 ∧ (ps.length : Int) = N ∧ (∀ k, k < ps.length → vldC (gp ps k) = true) ∧ rdR N.toNat ps = true := by
 unfold rdE at h
 split at h
 · rename_i c
   split at h
   · rename_i d; exact ⟨c.1, c.2.1, fun k hk => rd_all c.2.2 k hk, d⟩
   · omega
 · omega
theorem has_bad (N : Int) (l : List Int) (ao : Option Addr) (cap : Nat) (ps : List Pq) (po : Option Addr) (pc : Nat) (w : World) (hA : Arg w ao l) (hP : Arg2 w po ps) (hI : Fits ps) (hr : rdE N l ps ≠ 0) :
  Calls Tryz.prog 75 #[.agg #[.int .i64 N, .slice ao l.length cap], .slice po ps.length pc] w (Made (.tuple #[.bool (hsR N l ps), .int .i64 (rdE N l ps)]) w) := by
 have H := Lib.hid (show hsR N l ps = false by simp [hsR, hr])
 have RD := Lib.hid fun W (h : Below w.heap.size w W) => ready_gen N l ao cap ps po pc W (hA.on h) (hP.on h) hI
 have D : (rdE N l ps != 0) = true := by simpa using hr
 have e0 := Lib.hid (one_more (w1 := w))
 clear hA hP hI hr
 generalize l.length = len at *
 generalize ps.length = plen at *
 generalize rdE N l ps = er at *
 go_enter Tryz.func75, Tryz.ntmps75
 go_wp2_with fail
 refine (RD.out _ (e0.out _)).mono ?_
 rintro e w1 ⟨rfl, hb⟩
 go_wp2_with fail
 go_ret2
 exact ⟨by rw [H.out]; rfl, past_one hb⟩
theorem has_any (n : Nat) (l : List Int) (a : Addr) (cap : Nat) (ps : List Pq) (po : Option Addr) (pc : Nat) (w : World) (hn : n ≤ 10) (hl : l.length = (n + 1) * (n + 1)) (hR : Rd w a l) (hP : Arg2 w po ps) (hI : Fits ps) (hr : rdE n l ps = 0) (hL : ∀ i j, i ≤ n → j ≤ n → I64 (Zo.At n l i j)) :
  Calls Tryz.prog 75 #[.agg #[.int .i64 n, .slice (some a) l.length cap], .slice po ps.length pc] w (Made (.tuple #[.bool (hsR n l ps), .int .i64 (rdE n l ps)]) w) := by
 obtain ⟨hc, hp, hv, hR0⟩ := rd_ok hr
 replace hp : ps.length = n := by omega
 obtain ⟨len, hlen⟩ : ∃ len, len = l.length := ⟨_, rfl⟩
 obtain ⟨w0, hw0⟩ : ∃ w0, w0 = w.alloc (.cells #[.int .i64 n, .slice (some a) len cap] 36) := ⟨_, rfl⟩
 have bx : Two w0 w.heap.size (.int .i64 n) (.slice (some a) len cap) := by rw [hw0]; exact Two.made _ _ _ _
 have e0 : Below w.heap.size w w0 := by rw [hw0]; exact one_more _
 have RD : Hid (∀ W, Below w.heap.size w W → Calls Tryz.prog 118 #[.agg #[.int .i64 n, .slice (some a) len cap], .slice po n pc] W (Made (.int .i64 0) W)) := Lib.hid fun W h => by have := ready_gen n l (some a) cap ps po pc W (fun _ => ⟨_, rfl, hR.on h⟩) (hP.on h) hI; rw [hr, hp, ← hlen] at this; exact this
 have CL : Hid (∀ (i : Nat) (W : World), i ≤ n → Below w.heap.size w W → Calls Tryz.prog 120 #[.slice po n pc, .int .i64 i] W (Made (.agg #[.int .i64 (clk ps i).1, .int .i64 (clk ps i).2]) W)) := Lib.hid fun i W hi h => by have := clock_any ps po pc i W (hP.on h) (by omega) (by omega); rw [hp] at this; exact this
 have SB := Lib.hid fun (i j : Nat) (W : World) (hi : i ≤ n) (hj : j ≤ n) => by have := sub_clk (ps := ps) W hv (i := i) (j := j) (by rw [hp]; exact hi) (by rw [hp]; exact hj); rw [rdR_at hR0 (i := i) (j := j) (by simp; omega) (by simp; omega)] at this; exact this
 have AT : Hid (∀ (i j : Nat) (W : World), i ≤ n → j ≤ n → Below w.heap.size w W → Calls Tryz.prog 85 #[.agg #[.int .i64 n, .slice (some a) len cap], .int .i64 i, .int .i64 j] W (Made (.int .i64 (Zo.At n l i j)) W)) := Lib.hid fun i j W hi hj h => by have := at_any n i j l a cap W hn hi hj hl (hR.on h); rw [← hlen] at this; exact this
 have MT := Lib.hid fun (i j : Nat) (W : World) (hi : i ≤ n) (hj : j ≤ n) => refLimMeets_any (sbN ps i j) (sbD ps i j) (Zo.At n l i j) W (by have := mkNum_bd ((clk ps i).1 * (clk ps j).2 - (clk ps j).1 * (clk ps i).2) ((clk ps i).2 * (clk ps j).2); unfold sbN I64; omega) (by have := mkDen_bd ((clk ps i).1 * (clk ps j).2 - (clk ps j).1 * (clk ps i).2) ((clk ps i).2 * (clk ps j).2); unfold sbD I64; omega) (hL i j hi hj)
 have HRE := Lib.hid hr
 have HH := Lib.hid (show hsR n l ps = hsB n l ps by simp [hsR, hr])
 have E0 := Lib.hid e0
 have HW0 := Lib.hid hw0
 rw [hp, ← hlen]
 clear hR hc hp hP hI e0 hw0 hl hlen hv hR0 hr hL
 go_enter Tryz.func75, Tryz.ntmps75
 go_wp2_with fail
 rw [← HW0.out]
 obtain ⟨b0, b1, b2, b3⟩ := bx.facts
 go_wp2_with fail
 refine (RD.out _ E0.out).mono ?_
 rintro e w1 ⟨rfl, hb1⟩
 clear b0 b1 b2 b3
 replace bx := bx.kept hb1
 have E1 := Lib.hid (below_on E0.out hb1)
 clear hb1 E0
 go_wp2_with fail
 go_loopw [7] (fun s wx => ∃ t : Nat, t ≤ n + 1 ∧ s = .int .i64 t ∧ Hid (∀ i, i < t → ∀ j, j < n + 1 → hsM n l ps i j = true) ∧ Hid (Below w1.heap.size w1 wx)) (fun s _ => n + 1 - (intOf s).toNat)
 case atStart => exact ⟨0, by omega, rfl, Lib.hid (fun k hk => by omega), Lib.hid (Below.refl _ _)⟩
 case round =>
  obtain ⟨i, hi, rfl, HS, HB⟩ := hrel
  obtain ⟨b0, b1, b2, b3⟩ := (bx.kept HB.out).facts
  by_cases hin : i ≤ n
  · go_wp2_with fail
    clear b0 b1 b2 b3
    go_loopw [8] (fun s wx => ∃ t : Nat, t ≤ n + 1 ∧ s = .int .i64 t ∧ Hid (∀ j, j < t → hsM n l ps i j = true) ∧ Hid (Below w1.heap.size w1 wx)) (fun s _ => n + 1 - (intOf s).toNat)
    case atStart => exact ⟨0, by omega, rfl, Lib.hid (fun k hk => by omega), HB⟩
    case round =>
     obtain ⟨j, hj, rfl, HJ, HBj⟩ := hrel
     obtain ⟨b0, b1, b2, b3⟩ := (bx.kept HBj.out).facts
     by_cases hjn : j ≤ n
     · have mt := fun W => MT.out i j W hin hjn
       have sb := fun W => SB.out i j W hin hjn
       have a9 := fun W h => AT.out i j W hin hjn h
       have hM : hsM n l ps i j = meB (sbN ps i j) (sbD ps i j) (Zo.At n l i j) := rfl
       generalize meB (sbN ps i j) (sbD ps i j) (Zo.At n l i j) = mb at mt hM
       generalize meE (sbN ps i j) (sbD ps i j) (Zo.At n l i j) = me at mt
       generalize sbN ps i j = sn at *
       generalize sbD ps i j = sd at *
       generalize Zo.At n l i j = lv at *
       have MT2 := Lib.hid mt
       have SB2 := Lib.hid sb
       have AT2 := Lib.hid a9
       have HM := Lib.hid hM
       clear mt sb a9 hM
       cases mb
       · have HE := Lib.hid (hsB_no (n := n) (l := l) (ps := ps) (i := i) (j := j) (by omega) (by omega) HM.out)
         go_wp2_with fail
         refine (CL.out i _ hin (below_on E1.out HBj.out)).mono ?_
         rintro e w3 ⟨rfl, hb3⟩
         have q3 := below_on HBj.out hb3
         clear hb3 b0 b1 b2 b3
         go_wp2_with fail
         refine (CL.out j _ hjn (below_on E1.out q3)).mono ?_
         rintro e w4 ⟨rfl, hb4⟩
         have q4 := below_on q3 hb4
         clear hb4 q3
         go_wp2_with fail
         refine (SB2.out _).mono ?_
         rintro e w5 ⟨rfl, hb5⟩
         have q5 := below_on q4 hb5
         clear hb5 q4
         obtain ⟨w6, hw6⟩ : ∃ w6, w6 = w5.alloc (.cells #[.int .i64 sn, .int .i64 sd] 45) := ⟨_, rfl⟩
         have pD : Pair w6 w5.heap.size sn sd := by rw [hw6]; exact Pair.made _ _ _ _
         have q6 : Below w1.heap.size w1 w6 := by rw [hw6]; exact q5.alloc q5.size _
         have bx6 := bx.kept q6
         have HW6 := Lib.hid hw6
         have KS := Lib.hid (show ∀ W : World, Below w6.heap.size w6 W → (W.cell? ⟨w5.heap.size, 0, none⟩ = some (.int .i64 sn) ∧ W.cell? ⟨w5.heap.size, 1, none⟩ = some (.int .i64 sd)) ∧ (W.cell? ⟨w.heap.size, 0, none⟩ = some (.int .i64 n) ∧ W.cell? ⟨w.heap.size, 1, none⟩ = some (.slice (some a) len cap)) from
          fun W h => ⟨⟨(pD.kept h).facts.1, (pD.kept h).facts.2.1⟩, (bx6.kept h).facts.1, (bx6.kept h).facts.2.1⟩)
         have Q6 := Lib.hid q6
         clear hw6 q5 q6 pD bx6
         go_wp2_with fail
         rw [← HW6.out]
         have s1 : Below w6.heap.size w6 w6.drew := (Below.refl _ _).drew
         go_region_held3 (fun w' => (w'.cell? ⟨w5.heap.size, 0, none⟩ = some (.int .i64 sn) ∧ w'.cell? ⟨w5.heap.size, 1, none⟩ = some (.int .i64 sd)) ∧ (w'.cell? ⟨w.heap.size, 0, none⟩ = some (.int .i64 n) ∧ w'.cell? ⟨w.heap.size, 1, none⟩ = some (.slice (some a) len cap))) (first | exact KS.out _ s1 | exact KS.out _ s7 | exact KS.out _ s8)
          (first | (go_at_call 85; refine (AT2.out _ (below_on E1.out (below_on Q6.out s1))).mono ?_; rintro e w7 ⟨rfl, hb7⟩; have s7 := below_on s1 hb7) | (go_at_call 121; refine (MT2.out _).mono ?_; rintro e w8 ⟨rfl, hb8⟩; have s8 := below_on s7 hb8))
         have Q8 := Lib.hid (below_on Q6.out s8)
         clear s1 s7 s8 hb7 hb8
         go_wp2_with fail
         go_ret2
         exact ⟨by rw [HRE.out, HH.out, HE.out]; rfl, below_on E1.out Q8.out⟩
       · go_wp2_with fail
         refine (CL.out i _ hin (below_on E1.out HBj.out)).mono ?_
         rintro e w3 ⟨rfl, hb3⟩
         have q3 := below_on HBj.out hb3
         clear hb3 b0 b1 b2 b3
         go_wp2_with fail
         refine (CL.out j _ hjn (below_on E1.out q3)).mono ?_
         rintro e w4 ⟨rfl, hb4⟩
         have q4 := below_on q3 hb4
         clear hb4 q3
         go_wp2_with fail
         refine (SB2.out _).mono ?_
         rintro e w5 ⟨rfl, hb5⟩
         have q5 := below_on q4 hb5
         clear hb5 q4
         obtain ⟨w6, hw6⟩ : ∃ w6, w6 = w5.alloc (.cells #[.int .i64 sn, .int .i64 sd] 45) := ⟨_, rfl⟩
         have pD : Pair w6 w5.heap.size sn sd := by rw [hw6]; exact Pair.made _ _ _ _
         have q6 : Below w1.heap.size w1 w6 := by rw [hw6]; exact q5.alloc q5.size _
         have bx6 := bx.kept q6
         have HW6 := Lib.hid hw6
         have KS := Lib.hid (show ∀ W : World, Below w6.heap.size w6 W → (W.cell? ⟨w5.heap.size, 0, none⟩ = some (.int .i64 sn) ∧ W.cell? ⟨w5.heap.size, 1, none⟩ = some (.int .i64 sd)) ∧ (W.cell? ⟨w.heap.size, 0, none⟩ = some (.int .i64 n) ∧ W.cell? ⟨w.heap.size, 1, none⟩ = some (.slice (some a) len cap)) from
          fun W h => ⟨⟨(pD.kept h).facts.1, (pD.kept h).facts.2.1⟩, (bx6.kept h).facts.1, (bx6.kept h).facts.2.1⟩)
         have Q6 := Lib.hid q6
         clear hw6 q5 q6 pD bx6
         go_wp2_with fail
         rw [← HW6.out]
         have s1 : Below w6.heap.size w6 w6.drew := (Below.refl _ _).drew
         go_region_held3 (fun w' => (w'.cell? ⟨w5.heap.size, 0, none⟩ = some (.int .i64 sn) ∧ w'.cell? ⟨w5.heap.size, 1, none⟩ = some (.int .i64 sd)) ∧ (w'.cell? ⟨w.heap.size, 0, none⟩ = some (.int .i64 n) ∧ w'.cell? ⟨w.heap.size, 1, none⟩ = some (.slice (some a) len cap))) (first | exact KS.out _ s1 | exact KS.out _ s7 | exact KS.out _ s8)
          (first | (go_at_call 85; refine (AT2.out _ (below_on E1.out (below_on Q6.out s1))).mono ?_; rintro e w7 ⟨rfl, hb7⟩; have s7 := below_on s1 hb7) | (go_at_call 121; refine (MT2.out _).mono ?_; rintro e w8 ⟨rfl, hb8⟩; have s8 := below_on s7 hb8))
         have Q8 := Lib.hid (below_on Q6.out s8)
         clear s1 s7 s8 hb7 hb8
         go_wp2_with fail
         go_roundw
         case rel =>
          refine ⟨j + 1, by omega, by go_num, Lib.hid (fun k hk => ?_), Q8⟩
          by_cases e : k = j
          · rw [e]; exact HM.out
          · exact HJ.out k (by omega)
         case measure => simp [intOf]; omega
     · have HS3 := Lib.hid (show ∀ x, x < i + 1 → ∀ j, j < n + 1 → hsM n l ps x j = true from fun x hx y hy => by
        by_cases e : x = i
        · rw [e]; exact HJ.out y (by omega)
        · exact HS.out x (by omega) y hy)
       go_wp2_with fail
       go_roundw
       case rel => exact ⟨i + 1, by omega, by go_num, HS3, HBj⟩
       case measure => simp [intOf]; omega
  · have HE := Lib.hid (show hsB n l ps = true from hsB_iff.2 (fun i hi j hj => HS.out i (by omega) j hj))
    go_wp2_with fail
    go_ret2
    exact ⟨by rw [HRE.out, HH.out, HE.out]; rfl, below_on E1.out HB.out⟩
theorem has_gen (N : Int) (l : List Int) (ao : Option Addr) (cap : Nat) (ps : List Pq) (po : Option Addr) (pc : Nat) (w : World) (hA : Arg w ao l) (hP : Arg2 w po ps) (hI : Fits ps) :
  Calls Tryz.prog 75 #[.agg #[.int .i64 N, .slice ao l.length cap], .slice po ps.length pc] w (Made (.tuple #[.bool (hsR N l ps), .int .i64 (rdE N l ps)]) w) := by
 by_cases hr : rdE N l ps = 0
 · obtain ⟨n, rfl, hn, hl, hne⟩ := chk_ok (rd_ok hr).1
   obtain ⟨a, rfl, hR⟩ := hA hne
   exact has_any n l a cap ps po pc w hn hl hR hP hI hr (fun i j hi hj => chk_i64 (rd_ok hr).1 hi hj)
 · exact has_bad N l ao cap ps po pc w hA hP hI hr
end Go.Proofs.YthjapmdfcbngmaaGreat
