/- Contracts of clock and ready of layer 3's reference.; Contracts of Meets of package limit and of its reference.; Plain mathematics of ratios: what Make returns stands for the quotient.; The contract of Has of layer 3's reference.; Plain mathematics: the simplest number between two others, as the program finds it, lies between them and is the simplest. Nothing of the program is named here.; Contracts of simplest and Middle, of package ratio and of the reference.; Contracts of Middle, of package ratio and of the reference.; The reference's choices: most and least.; Contracts of layer 3's fromZero, isEmpty, choose.; The reference's choices: below, above, start, told. -/
import Derived.Test.YtbnebinpemejlaaGreatHp2
import Derived.Test.YtbnebinpemejlaaGreatHp1

namespace Go.Proofs.YtbnebinpemejlaaGreat
open Go.RowKit

/-- Points: the values of the clocks from 1 on. -/
abbrev Pq := Int × Int

def gp (ps : List Pq) (k : Nat) : Pq := ps.getD k (0, 0)

def clk (ps : List Pq) (i : Nat) : Pq := if i = 0 then (0, 1) else gp ps (i - 1)

def Rd2 (w : World) (a : Addr) (ps : List Pq) : Prop := ∀ j, j < ps.length → w.cell? (a.add (j * 2)) = some (.int .i64 (gp ps j).1) ∧ w.cell? ⟨(a.add (j * 2)).block, (a.add (j * 2)).off + 1, none⟩ = some (.int .i64 (gp ps j).2)

theorem Rd2.on {w w' : World} {a : Addr} {l : List Pq} (h : Rd2 w a l) (hb : Below w.heap.size w w') : Rd2 w' a l := fun j hj => ⟨kept hb (h j hj).1, kept hb (h j hj).2⟩

def Arg2 (w : World) (po : Option Addr) (ps : List Pq) : Prop := ps ≠ [] → ∃ a, po = some a ∧ Rd2 w a ps

theorem Arg2.on {w w' : World} {ao : Option Addr} {l : List Pq} (h : Arg2 w ao l) (hb : Below w.heap.size w w') : Arg2 w' ao l := fun hl => by
  obtain ⟨a, h1, h2⟩ := h hl
  exact ⟨a, h1, h2.on hb⟩

set_option maxHeartbeats 400000 in
theorem clock_any (ps : List Pq) (po : Option Addr) (pc i : Nat) (w : World) (hA : Arg2 w po ps) (hi : i ≤ ps.length) (hl : ps.length ≤ 1000) :
    Calls Tryz.prog 24 #[.slice po ps.length pc, .int .i64 i] w (Made (.agg #[.int .i64 (clk ps i).1, .int .i64 (clk ps i).2]) w) := by
  by_cases h0 : i = 0
  · have H := Lib.hid (show clk ps i = (0, 1) by unfold clk; rw [if_pos h0])
    have I0 : ((i : Int) == 0) = true := by simp; omega
    clear h0
    generalize ps.length = len at *
    go_enter Tryz.func24, Tryz.ntmps24
    go_wp2_with fail
    refine bodyPost_ret (v := .agg #[.int .i64 0, .int .i64 1]) (by simp [results, Tryz.results24, go_sem]) rfl ⟨by rw [H.out], ?_⟩
    exact one_more _
  · have H := Lib.hid (show clk ps i = gp ps (i - 1) by unfold clk; rw [if_neg h0])
    obtain ⟨a, rfl, hR⟩ := hA (fun e => by rw [e] at hi; simp at hi; omega)
    obtain ⟨k, rfl⟩ : ∃ k, i = k + 1 := ⟨i - 1, by omega⟩
    have c0 := fun o => (hR.on (one_more (w1 := w) o)) k (by omega)
    rw [show k + 1 - 1 = k by omega] at H
    generalize gp ps k = q at *
    obtain ⟨x, y⟩ := q
    have d0 : ∀ o, (w.alloc o).cell? (a.add (k * 2)) = some (.int .i64 x) := fun o => (c0 o).1
    have d1 : ∀ o, (w.alloc o).cell? ⟨(a.add (k * 2)).block, (a.add (k * 2)).off + 1, none⟩ = some (.int .i64 y) := fun o => (c0 o).2
    have I0 : (((k + 1 : Nat) : Int) == 0) = false := by simp; omega
    have kl : (k : Int) < (ps.length : Int) := by omega
    clear c0 hR hA
    generalize ps.length = len at *
    go_enter Tryz.func24, Tryz.ntmps24
    go_wp2_with fail
    refine bodyPost_ret (v := .agg #[.int .i64 x, .int .i64 y]) (by simp [results, Tryz.results24, go_sem]) rfl ⟨by rw [H.out], ?_⟩
    exact one_more _

/-- A value of a clock: a ratio from 0 on. -/
def vldC (c : Pq) : Bool := vldB c.1 c.2 && decide (0 ≤ c.1)

def sbE (ps : List Pq) (i j : Nat) : Int := mkErr ((clk ps i).1 * (clk ps j).2 - (clk ps j).1 * (clk ps i).2) ((clk ps i).2 * (clk ps j).2)

def sbN (ps : List Pq) (i j : Nat) : Int := mkNum ((clk ps i).1 * (clk ps j).2 - (clk ps j).1 * (clk ps i).2) ((clk ps i).2 * (clk ps j).2)

def sbD (ps : List Pq) (i j : Nat) : Int := mkDen ((clk ps i).1 * (clk ps j).2 - (clk ps j).1 * (clk ps i).2) ((clk ps i).2 * (clk ps j).2)

def rdR (n : Nat) (ps : List Pq) : Bool := (List.range (n + 1)).all fun i => (List.range (n + 1)).all fun j => decide (sbE ps i j = 0)

def rdE (N : Int) (l : List Int) (ps : List Pq) : Int := if chkE N l = 0 ∧ (ps.length : Int) = N ∧ ps.all vldC = true then (if rdR N.toNat ps then 0 else 7) else 2

theorem rd_all {ps : List Pq} (h : ps.all vldC = true) (k : Nat) (hk : k < ps.length) : vldC (gp ps k) = true := by
  rw [List.all_eq_true] at h
  have := h ps[k] (List.getElem_mem hk)
  simpa [gp, hk] using this

theorem rd_of {ps : List Pq} (h : ∀ k, k < ps.length → vldC (gp ps k) = true) : ps.all vldC = true := by
  rw [List.all_eq_true]
  intro x hx
  obtain ⟨k, hk, rfl⟩ := List.getElem_of_mem hx
  have := h k hk
  simpa [gp, hk] using this

theorem rdR_at {n : Nat} {ps : List Pq} (h : rdR n ps = true) {i j : Nat} (hi : i < n + 1) (hj : j < n + 1) : sbE ps i j = 0 := by
  simp [rdR] at h; exact h i hi j hj

theorem rdR_of {n : Nat} {ps : List Pq} (h : ∀ i, i < n + 1 → ∀ j, j < n + 1 → sbE ps i j = 0) : rdR n ps = true := by
  simp [rdR]; exact h

theorem clk_ok {ps : List Pq} (h : ∀ k, k < ps.length → vldC (gp ps k) = true) {i : Nat} (hi : i ≤ ps.length) : vldB (clk ps i).1 (clk ps i).2 = true := by
  unfold clk
  split
  · decide +kernel
  · have := h (i - 1) (by omega)
    unfold vldC at this
    simp at this
    exact this.1

/-- The difference of two clocks. -/
theorem sub_clk {ps : List Pq} (w : World) (h : ∀ k, k < ps.length → vldC (gp ps k) = true) {i j : Nat} (hi : i ≤ ps.length) (hj : j ≤ ps.length) :
    Calls Tryz.prog 23 #[.agg #[.int .i64 (clk ps i).1, .int .i64 (clk ps i).2], .agg #[.int .i64 (clk ps j).1, .int .i64 (clk ps j).2]] w (Made (.tuple #[.agg #[.int .i64 (sbN ps i j), .int .i64 (sbD ps i j)], .int .i64 (sbE ps i j)]) w) := by
  have v1 := clk_ok h hi
  have v2 := clk_ok h hj
  obtain ⟨a1, a2, a3, a4⟩ := vld_bd v1
  obtain ⟨b1, b2, b3, b4⟩ := vld_bd v2
  have := refSub_any (clk ps i).1 (clk ps i).2 (clk ps j).1 (clk ps j).2 w (by unfold I64; omega) (by unfold I64; omega) (by unfold I64; omega) (by unfold I64; omega)
  rw [v1, v2] at this
  exact this

set_option maxHeartbeats 400000 in
theorem ready_bad1 (N : Int) (l : List Int) (ao : Option Addr) (cap : Nat) (ps : List Pq) (po : Option Addr) (pc : Nat) (w : World) (hA : Arg w ao l) (hc : chkE N l ≠ 0) :
    Calls Tryz.prog 22 #[.agg #[.int .i64 N, .slice ao l.length cap], .slice po ps.length pc] w (Made (.int .i64 (rdE N l ps)) w) := by
  have H := Lib.hid (show rdE N l ps = 2 by unfold rdE; rw [if_neg (fun h => hc h.1)])
  have CK := Lib.hid fun W (h : Below w.heap.size w W) => check_as (cap := cap) W (hA.on h) (chk_two hc)
  have e0 := Lib.hid (one_more (w1 := w))
  clear hA hc
  generalize l.length = len at *
  generalize ps.length = plen at *
  go_enter Tryz.func22, Tryz.ntmps22
  go_wp2_with fail
  refine (CK.out _ (e0.out _)).mono ?_
  rintro e w1 ⟨rfl, hb⟩
  go_wp2_with fail
  go_ret
  exact ⟨ret_int H.out.symm, past_one hb⟩

set_option maxHeartbeats 400000 in
theorem ready_bad2 (N : Int) (l : List Int) (ao : Option Addr) (cap : Nat) (ps : List Pq) (po : Option Addr) (pc : Nat) (w : World) (hA : Arg w ao l) (hc : chkE N l = 0) (hp : (ps.length : Int) ≠ N) :
    Calls Tryz.prog 22 #[.agg #[.int .i64 N, .slice ao l.length cap], .slice po ps.length pc] w (Made (.int .i64 (rdE N l ps)) w) := by
  have H := Lib.hid (show rdE N l ps = 2 by unfold rdE; rw [if_neg (fun h => hp h.2.1)])
  have CK := Lib.hid fun W (h : Below w.heap.size w W) => check_as (cap := cap) W (hA.on h) hc
  have e0 := Lib.hid (one_more (w1 := w))
  have D : ((ps.length : Int) != N) = true := by simpa using hp
  clear hA hc hp
  generalize l.length = len at *
  generalize ps.length = plen at *
  go_enter Tryz.func22, Tryz.ntmps22
  go_wp2_with fail
  refine (CK.out _ (e0.out _)).mono ?_
  rintro e w1 ⟨rfl, hb⟩
  obtain ⟨b0, b1, b2, b3⟩ := ((Two.made w (.int .i64 N) (.slice ao len cap) 24).kept hb).facts
  go_wp2_with fail
  go_ret
  exact ⟨ret_int H.out.symm, past_one hb⟩

set_option maxHeartbeats 1600000 in
theorem ready_any (n : Nat) (l : List Int) (a : Addr) (cap : Nat) (ps : List Pq) (po : Option Addr) (pc : Nat) (w : World) (hn : n ≤ 10) (hl : l.length = (n + 1) * (n + 1)) (hR : Rd w a l) (hc : chkE n l = 0) (hp : ps.length = n) (hP : Arg2 w po ps) (hI : ∀ k, k < ps.length → I64 (gp ps k).1 ∧ I64 (gp ps k).2) :
    Calls Tryz.prog 22 #[.agg #[.int .i64 n, .slice (some a) l.length cap], .slice po ps.length pc] w (Made (.int .i64 (rdE n l ps)) w) := by
  obtain ⟨len, hlen⟩ : ∃ len, len = l.length := ⟨_, rfl⟩
  obtain ⟨w0, hw0⟩ : ∃ w0, w0 = w.alloc (.cells #[.int .i64 n, .slice (some a) len cap] 24) := ⟨_, rfl⟩
  have bx : Two w0 w.heap.size (.int .i64 n) (.slice (some a) len cap) := by rw [hw0]; exact Two.made _ _ _ _
  have e0 : Below w.heap.size w w0 := by rw [hw0]; exact one_more _
  have CK : Hid (∀ W, Below w.heap.size w W → Calls Tryz.prog 41 #[.agg #[.int .i64 n, .slice (some a) len cap]] W (Made (.int .i64 0) W)) := Lib.hid fun W h => by have := check_any n l a cap W hn hl (hR.on h); rw [hc, ← hlen] at this; exact this
  have CL : Hid (∀ (i : Nat) (W : World), i ≤ n → Below w.heap.size w W → Calls Tryz.prog 24 #[.slice po n pc, .int .i64 i] W (Made (.agg #[.int .i64 (clk ps i).1, .int .i64 (clk ps i).2]) W)) := Lib.hid fun i W hi h => by have := clock_any ps po pc i W (hP.on h) (by omega) (by omega); rw [hp] at this; exact this
  have HP := Lib.hid hP
  have HI := Lib.hid hI
  have HPl := Lib.hid hp
  have HC := Lib.hid hc
  have E0 := Lib.hid e0
  have HW0 := Lib.hid hw0
  have D0 : ((n : Int) != (n : Int)) = false := by simp
  rw [hp, ← hlen]
  clear hR hc hp hP hI e0 hw0 hl hlen
  go_enter Tryz.func22, Tryz.ntmps22
  go_wp2_with fail
  rw [← HW0.out]
  obtain ⟨b0, b1, b2, b3⟩ := bx.facts
  go_wp2_with fail
  refine (CK.out _ E0.out).mono ?_
  rintro e w1 ⟨rfl, hb1⟩
  clear b0 b1 b2 b3
  replace bx := bx.kept hb1
  have E1 := Lib.hid (below_on E0.out hb1)
  clear hb1 E0
  obtain ⟨b0, b1, b2, b3⟩ := bx.facts
  go_wp2_with fail
  clear b0 b1 b2 b3
  go_loopw [5] (fun s wr => ∃ t : Nat, t ≤ n ∧ s = .int .i64 t ∧ Hid (∀ k, k < t → vldC (gp ps k) = true) ∧ Hid (Below w1.heap.size w1 wr)) (fun s _ => n - (intOf s).toNat)
  case atStart => exact ⟨0, by omega, rfl, Lib.hid (fun k hk => by omega), Lib.hid (Below.refl _ _)⟩
  case round =>
    obtain ⟨t, ht, rfl, HK, HB⟩ := hrel
    by_cases htn : t < n
    · obtain ⟨d, hd, hD⟩ := HP.out (fun e => by have := HPl.out; rw [e] at this; simp at this; omega)
      subst hd
      obtain ⟨i1, i2⟩ := HI.out t (by rw [HPl.out]; exact htn)
      obtain ⟨c1, c2⟩ := (hD.on (below_on E1.out HB.out)) t (by rw [HPl.out]; exact htn)
      obtain ⟨q, hq⟩ : ∃ q, q = gp ps t := ⟨_, rfl⟩
      rw [← hq] at c1 c2 i1 i2
      have HQ := Lib.hid hq
      clear hq hD
      obtain ⟨x, y⟩ := q
      simp only at c1 c2 i1 i2
      cases v : vldB x y
      · have HE := Lib.hid (show rdE n l ps = 2 by
          unfold rdE
          rw [if_neg]
          rintro ⟨_, _, h⟩
          have := rd_all h t (by rw [HPl.out]; exact htn)
          rw [← HQ.out] at this
          simp [vldC, v] at this)
        have V := Lib.hid v
        clear v
        go_wp2_with fail
        refine (refValid_as _ i1 i2 V.out).mono ?_
        rintro e w2 ⟨rfl, hb2⟩
        go_wp2_with fail
        go_ret
        exact ⟨ret_int HE.out.symm, below_on (below_on E1.out HB.out) hb2⟩
      · have V := Lib.hid v
        by_cases x0 : x < 0
        · have HE := Lib.hid (show rdE n l ps = 2 by
            unfold rdE
            rw [if_neg]
            rintro ⟨_, _, h⟩
            have := rd_all h t (by rw [HPl.out]; exact htn)
            rw [← HQ.out] at this
            simp [vldC, v] at this
            omega)
          have D : decide (x < (0 : Int)) = true := by simpa using x0
          clear v
          go_wp2_with fail
          refine (refValid_as _ i1 i2 V.out).mono ?_
          rintro e w2 ⟨rfl, hb2⟩
          replace c1 := kept hb2 c1
          replace c2 := kept hb2 c2
          go_wp2_with fail
          go_ret
          exact ⟨ret_int HE.out.symm, below_on (below_on E1.out HB.out) hb2⟩
        · have HK2 := Lib.hid (show vldC (gp ps t) = true by rw [← HQ.out]; simp [vldC, v]; omega)
          have D : decide (x < (0 : Int)) = false := by simp; omega
          clear v
          go_wp2_with fail
          refine (refValid_as _ i1 i2 V.out).mono ?_
          rintro e w2 ⟨rfl, hb2⟩
          replace c1 := kept hb2 c1
          replace c2 := kept hb2 c2
          have HB2 := Lib.hid (below_on HB.out hb2)
          clear hb2
          go_wp2_with fail
          go_roundw
          case rel =>
            refine ⟨t + 1, by omega, by go_num, Lib.hid (fun k hk => ?_), HB2⟩
            by_cases e : k = t
            · rw [e]; exact HK2.out
            · exact HK.out k (by omega)
          case measure => simp [intOf]; omega
    · have HV := Lib.hid (show ∀ k, k < ps.length → vldC (gp ps k) = true from fun k hk => HK.out k (by rw [HPl.out] at hk; omega))
      have HA := Lib.hid (rd_of HV.out)
      have SB := Lib.hid fun (i j : Nat) (W : World) (hi : i ≤ n) (hj : j ≤ n) => sub_clk (ps := ps) W HV.out (i := i) (j := j) (by rw [HPl.out]; exact hi) (by rw [HPl.out]; exact hj)
      clear HK
      go_wp2_with fail
      go_loopw [6] (fun s wx => ∃ t : Nat, t ≤ n + 1 ∧ s = .int .i64 t ∧ Hid (∀ i, i < t → ∀ j, j < n + 1 → sbE ps i j = 0) ∧ Hid (Below w1.heap.size w1 wx)) (fun s _ => n + 1 - (intOf s).toNat)
      case atStart => exact ⟨0, by omega, rfl, Lib.hid (fun k hk => by omega), HB⟩
      case round =>
        clear HB
        obtain ⟨i, hi, rfl, HS, HB⟩ := hrel
        obtain ⟨b0, b1, b2, b3⟩ := (bx.kept HB.out).facts
        by_cases hin : i ≤ n
        · go_wp2_with fail
          clear b0 b1 b2 b3
          go_loopw [7] (fun s wx => ∃ t : Nat, t ≤ n + 1 ∧ s = .int .i64 t ∧ Hid (∀ j, j < t → sbE ps i j = 0) ∧ Hid (Below w1.heap.size w1 wx)) (fun s _ => n + 1 - (intOf s).toNat)
          case atStart => exact ⟨0, by omega, rfl, Lib.hid (fun k hk => by omega), HB⟩
          case round =>
            obtain ⟨j, hj, rfl, HJ, HBj⟩ := hrel
            obtain ⟨b0, b1, b2, b3⟩ := (bx.kept HBj.out).facts
            by_cases hjn : j ≤ n
            · by_cases hs : sbE ps i j = 0
              · have SB2 := Lib.hid fun (W : World) => by have := SB.out i j W hin hjn; rw [hs] at this; exact this
                have HS2 := Lib.hid hs
                clear hs
                go_wp2_with fail
                refine (CL.out i _ hin (below_on E1.out HBj.out)).mono ?_
                rintro e w3 ⟨rfl, hb3⟩
                have q3 := below_on HBj.out hb3
                clear hb3 b0 b1 b2 b3
                go_wp2_with fail
                refine (CL.out j _ hjn (below_on E1.out q3)).mono ?_
                rintro e w4 ⟨rfl, hb4⟩
                have q4 := below_on q3 hb4
                clear hb4 q3
                go_wp2_with fail
                refine (SB2.out _).mono ?_
                rintro e w5 ⟨rfl, hb5⟩
                have Q5 := Lib.hid (below_on q4 hb5)
                clear hb5 q4
                go_wp2_with fail
                go_roundw
                case rel =>
                  refine ⟨j + 1, by omega, by go_num, Lib.hid (fun k hk => ?_), Lib.hid (Q5.out.alloc Q5.out.size _)⟩
                  by_cases e : k = j
                  · rw [e]; exact HS2.out
                  · exact HJ.out k (by omega)
                case measure => simp [intOf]; omega
              · have HE := Lib.hid (show rdE n l ps = 7 by
                  unfold rdE
                  rw [if_pos ⟨HC.out, by rw [HPl.out], HA.out⟩]
                  have : rdR n ps = false := by
                    cases e : rdR n ps
                    · rfl
                    · have := rdR_at e (i := i) (j := j) (by omega) (by omega)
                      exact absurd this hs
                  simp [this])
                have D : (sbE ps i j != 0) = true := by simpa using hs
                have SB2 := Lib.hid fun (W : World) => SB.out i j W hin hjn
                generalize sbE ps i j = er at *
                clear hs
                go_wp2_with fail
                refine (CL.out i _ hin (below_on E1.out HBj.out)).mono ?_
                rintro e w3 ⟨rfl, hb3⟩
                have q3 := below_on HBj.out hb3
                clear hb3 b0 b1 b2 b3
                go_wp2_with fail
                refine (CL.out j _ hjn (below_on E1.out q3)).mono ?_
                rintro e w4 ⟨rfl, hb4⟩
                have q4 := below_on q3 hb4
                clear hb4 q3
                go_wp2_with fail
                refine (SB2.out _).mono ?_
                rintro e w5 ⟨rfl, hb5⟩
                have Q5 := Lib.hid (below_on q4 hb5)
                clear hb5 q4
                go_wp2_with fail
                go_ret
                exact ⟨ret_int HE.out.symm, (below_on E1.out Q5.out).alloc (below_on E1.out Q5.out).size _⟩
            · have HS3 := Lib.hid (show ∀ x, x < i + 1 → ∀ j, j < n + 1 → sbE ps x j = 0 from fun x hx y hy => by
                by_cases e : x = i
                · rw [e]; exact HJ.out y (by omega)
                · exact HS.out x (by omega) y hy)
              go_wp2_with fail
              go_roundw
              case rel => exact ⟨i + 1, by omega, by go_num, HS3, HBj⟩
              case measure => simp [intOf]; omega
        · have HE := Lib.hid (show rdE n l ps = 0 by
            unfold rdE
            rw [if_pos ⟨HC.out, by rw [HPl.out], HA.out⟩]
            have : rdR n ps = true := rdR_of (fun i hi j hj => HS.out i (by omega) j hj)
            simp [this])
          go_wp2_with fail
          go_ret
          exact ⟨ret_int HE.out.symm, below_on E1.out HB.out⟩
end Go.Proofs.YtbnebinpemejlaaGreat

namespace Go.Proofs.YtbnebinpemejlaaGreat
open Go.RowKit

/-- Whether the number n / d meets the limit l. -/
def mtB (n d l : Int) : Bool := noB l || (if evB l then decide (n < l / 2 * d) else decide (n ≤ l / 2 * d))

def meB (n d l : Int) : Bool := vldB n d && lvB l && mtB n d l

def meE (n d l : Int) : Int := if vldB n d && lvB l then 0 else 2

theorem ret_be {a b : Bool} {c d : Int} (h : a = b) (g : c = d) : Ending.returned (.tuple #[.bool a, .int .i64 c]) = .returned (.tuple #[.bool b, .int .i64 d]) := by rw [h, g]

theorem of_small {c : Int} (h1 : -2147483647 ≤ c) (h2 : c ≤ 2147483647) : mkNum c 1 = c ∧ mkDen c 1 = 1 ∧ mkErr c 1 = 0 := by
  have ht : top c 1 = c.natAbs := by unfold top; simp
  have hb : bot c 1 = 1 := by unfold bot; simp
  have hf : fits c 1 = true := by unfold fits; rw [ht, hb]; simp; omega
  unfold mkNum mkDen mkErr
  have h0 : ¬ ((1 : Int) = 0) := by decide
  simp only [if_neg h0, hf, if_true, ht, hb]
  refine ⟨?_, by simp⟩
  by_cases hc : c < 0
  · simp [hc]; omega
  · simp [hc]; omega

theorem vld_small {c : Int} (h1 : -2147483647 ≤ c) (h2 : c ≤ 2147483647) : vldB c 1 = true := by unfold vldB; simp; omega

theorem of_as {c : Int} (w : World) (h1 : -2147483647 ≤ c) (h2 : c ≤ 2147483647) : Calls Tryz.prog 90 #[.int .i64 c] w (Made (.tuple #[.agg #[.int .i64 c, .int .i64 1], .int .i64 0]) w) := by
  have h := of_any c w ⟨by omega, by omega⟩
  rwa [(of_small h1 h2).1, (of_small h1 h2).2.1, (of_small h1 h2).2.2] at h

theorem cmp_to {n d c o : Int} (w : World) (v : vldB n d = true) (h1 : -2147483647 ≤ c) (h2 : c ≤ 2147483647) (ho : sgn (n * 1) (c * d) = o) :
    Calls Tryz.prog 91 #[.agg #[.int .i64 n, .int .i64 d], .agg #[.int .i64 c, .int .i64 1]] w (Made (.tuple #[.int .i64 o, .int .i64 0]) w) := by
  obtain ⟨x1, x2, x3, x4⟩ := vld_bd v
  have h := cmp_any n d c 1 w ⟨by omega, by omega⟩ ⟨by omega, by omega⟩ ⟨by omega, by omega⟩ ⟨by omega, by omega⟩
  have g : (vldB n d && vldB c 1) = true := by rw [v, vld_small h1 h2]; rfl
  rw [if_pos g, if_pos g, ho] at h
  exact h

theorem sgn_three (x y : Int) : (sgn x y = -1 ∧ x < y) ∨ (sgn x y = 0 ∧ x = y) ∨ (sgn x y = 1 ∧ y < x) := by
  unfold sgn
  by_cases h : x < y
  · simp [h]
  · by_cases g : y < x
    · simp [h, g]
    · right; left; rw [if_neg h, if_neg g]; omega

set_option maxHeartbeats 400000 in
theorem limMeets_some (n d l : Int) (w : World) (v : vldB n d = true) (hl : I64 l) (vl : lvB l = true) (nl : noB l = false) (l1 : -2147483648 ≤ l) (l2 : l ≤ 2147483649) :
    Calls Tryz.prog 62 #[.agg #[.int .i64 n, .int .i64 d], .int .i64 l] w (Made (.tuple #[.bool (meB n d l), .int .i64 (meE n d l)]) w) := by
  obtain ⟨x1, x2, x3, x4⟩ := vld_bd v
  have L0 : (l == 1099511627776) = false := by simpa [noB] using nl
  have hS := fun W => limSplit_some W hl vl nl
  have HM := Lib.hid (show meB n d l = (if evB l then decide (n < l / 2 * d) else decide (n ≤ l / 2 * d)) ∧ meE n d l = 0 by simp [meB, mtB, meE, v, vl, nl])
  obtain ⟨c, hc⟩ : ∃ c, c = l / 2 := ⟨_, rfl⟩
  have c1 : -2147483647 ≤ c := by omega
  have c2 : c ≤ 2147483647 := by omega
  obtain ⟨s, hs⟩ : ∃ s, s = evB l := ⟨_, rfl⟩
  rw [← hc, ← hs] at hS HM
  clear hc hs
  have V := Lib.hid v
  have VL := Lib.hid vl
  have HS := Lib.hid hS
  clear v vl nl hS
  rcases sgn_three (n * 1) (c * d) with ⟨ho, hr⟩ | ⟨ho, hr⟩ | ⟨ho, hr⟩ <;> cases s
  all_goals
    have HO := Lib.hid ho
    have HR := Lib.hid hr
    clear ho hr
    go_enter Tryz.func62, Tryz.ntmps62
    go_wp2_with fail
    refine (valid_as _ ⟨by omega, by omega⟩ ⟨by omega, by omega⟩ V.out).mono ?_
    rintro e w1 ⟨rfl, hb⟩
    have hB := past_one hb
    have pA := (Pair.made w n d 32).kept hb
    clear hb
    obtain ⟨fA0, fA1, fA2, fA3⟩ := pA.facts
    have gA := pA.lt
    go_wp2_with fail
    refine (limValid_as _ hl VL.out).mono ?_
    rintro e w' ⟨rfl, rfl⟩
    go_wp2_with fail
    refine (HS.out _).mono ?_
    rintro e w' ⟨rfl, rfl⟩
    go_wp2_with fail
    refine (of_as _ c1 c2).mono ?_
    rintro e w2 ⟨rfl, hb⟩
    replace pA := pA.kept hb
    replace hB := below_on hB hb
    clear hb fA0 fA1 fA2 fA3 gA
    obtain ⟨fA0, fA1, fA2, fA3⟩ := pA.facts
    have gA := pA.lt
    go_wp2_with fail
    refine (cmp_to _ V.out c1 c2 HO.out).mono ?_
    rintro e w3 ⟨rfl, hb⟩
    replace hB := on_box hB hb
    clear hb fA0 fA1 fA2 fA3 gA
    go_wp2_with fail
    go_ret2
    refine ⟨ret_be ?_ HM.out.2.symm, hB⟩
    have h := HR.out
    rw [Int.mul_one] at h
    rw [HM.out.1]
    simp
  all_goals omega

set_option maxHeartbeats 400000 in
theorem limMeets_bad1 (n d l : Int) (w : World) (hn : I64 n) (hd : I64 d) (v : vldB n d = false) :
    Calls Tryz.prog 62 #[.agg #[.int .i64 n, .int .i64 d], .int .i64 l] w (Made (.tuple #[.bool (meB n d l), .int .i64 (meE n d l)]) w) := by
  have HM := Lib.hid (show meB n d l = false ∧ meE n d l = 2 by simp [meB, meE, v])
  have V := Lib.hid v
  clear v
  go_enter Tryz.func62, Tryz.ntmps62
  go_wp2_with fail
  refine (valid_as _ hn hd V.out).mono ?_
  rintro e w1 ⟨rfl, hb⟩
  go_wp2_with fail
  go_ret2
  exact ⟨ret_be HM.out.1.symm HM.out.2.symm, past_one hb⟩

set_option maxHeartbeats 400000 in
theorem limMeets_bad2 (n d l : Int) (w : World) (hn : I64 n) (hd : I64 d) (hl : I64 l) (v : vldB n d = true) (vl : lvB l = false) :
    Calls Tryz.prog 62 #[.agg #[.int .i64 n, .int .i64 d], .int .i64 l] w (Made (.tuple #[.bool (meB n d l), .int .i64 (meE n d l)]) w) := by
  have HM := Lib.hid (show meB n d l = false ∧ meE n d l = 2 by simp [meB, meE, vl])
  have V := Lib.hid v
  have VL := Lib.hid vl
  clear v vl
  go_enter Tryz.func62, Tryz.ntmps62
  go_wp2_with fail
  refine (valid_as _ hn hd V.out).mono ?_
  rintro e w1 ⟨rfl, hb⟩
  go_wp2_with fail
  refine (limValid_as _ hl VL.out).mono ?_
  rintro e w' ⟨rfl, rfl⟩
  go_wp2_with fail
  go_ret2
  exact ⟨ret_be HM.out.1.symm HM.out.2.symm, past_one hb⟩

set_option maxHeartbeats 400000 in
theorem limMeets_none (n d l : Int) (w : World) (hn : I64 n) (hd : I64 d) (hl : I64 l) (v : vldB n d = true) (vl : lvB l = true) (nl : noB l = true) :
    Calls Tryz.prog 62 #[.agg #[.int .i64 n, .int .i64 d], .int .i64 l] w (Made (.tuple #[.bool (meB n d l), .int .i64 (meE n d l)]) w) := by
  have HM := Lib.hid (show meB n d l = true ∧ meE n d l = 0 by simp [meB, mtB, meE, v, vl, nl])
  have L0 : (l == 1099511627776) = true := by simpa [noB] using nl
  have V := Lib.hid v
  have VL := Lib.hid vl
  have NL := Lib.hid nl
  clear v vl nl
  go_enter Tryz.func62, Tryz.ntmps62
  go_wp2_with fail
  refine (valid_as _ hn hd V.out).mono ?_
  rintro e w1 ⟨rfl, hb⟩
  go_wp2_with fail
  refine (limValid_as _ hl VL.out).mono ?_
  rintro e w' ⟨rfl, rfl⟩
  go_wp2_with fail
  go_ret2
  exact ⟨ret_be HM.out.1.symm HM.out.2.symm, past_one hb⟩

theorem limMeets_any (n d l : Int) (w : World) (hn : I64 n) (hd : I64 d) (hl : I64 l) :
    Calls Tryz.prog 62 #[.agg #[.int .i64 n, .int .i64 d], .int .i64 l] w (Made (.tuple #[.bool (meB n d l), .int .i64 (meE n d l)]) w) := by
  cases v : vldB n d
  · exact limMeets_bad1 n d l w hn hd v
  · rcases lvB_cases l with ⟨vl, nl, l0, lr⟩ | ⟨l0, vl, nl⟩ | ⟨vl, nl, l0, l1, l2⟩
    · exact limMeets_bad2 n d l w hn hd hl v vl
    · exact limMeets_none n d l w hn hd hl v vl nl
    · exact limMeets_some n d l w v hl vl nl l1 l2

set_option maxHeartbeats 400000 in
theorem refLimMeets_some (n d l : Int) (w : World) (v : vldB n d = true) (hl : I64 l) (vl : lvB l = true) (nl : noB l = false) (l1 : -2147483648 ≤ l) (l2 : l ≤ 2147483649) :
    Calls Tryz.prog 25 #[.agg #[.int .i64 n, .int .i64 d], .int .i64 l] w (Made (.tuple #[.bool (meB n d l), .int .i64 (meE n d l)]) w) := by
  obtain ⟨x1, x2, x3, x4⟩ := vld_bd v
  have L0 : (l == 1099511627776) = false := by simpa [noB] using nl
  have hS := fun W => refSplit_some W hl vl nl
  have HM := Lib.hid (show meB n d l = (if evB l then decide (n < l / 2 * d) else decide (n ≤ l / 2 * d)) ∧ meE n d l = 0 by simp [meB, mtB, meE, v, vl, nl])
  obtain ⟨c, hc⟩ : ∃ c, c = l / 2 := ⟨_, rfl⟩
  have c1 : -2147483647 ≤ c := by omega
  have c2 : c ≤ 2147483647 := by omega
  obtain ⟨p1a, p1b⟩ := mul_bd c1 c2 (show -2147483647 ≤ d by omega) x2
  have e1 := wrap_in (c * d) (by omega) (by omega)
  obtain ⟨s, hs⟩ : ∃ s, s = evB l := ⟨_, rfl⟩
  rw [← hc, ← hs] at hS HM
  clear hc hs
  have V := Lib.hid v
  have VL := Lib.hid vl
  have HS := Lib.hid hS
  clear v vl nl hS
  cases s
  all_goals
    go_enter Tryz.func25, Tryz.ntmps25
    go_wp2_with fail
    refine (refValid_as _ ⟨by omega, by omega⟩ ⟨by omega, by omega⟩ V.out).mono ?_
    rintro e w1 ⟨rfl, hb⟩
    have hB := past_one hb
    have pA := (Pair.made w n d 32).kept hb
    clear hb
    obtain ⟨fA0, fA1, fA2, fA3⟩ := pA.facts
    have gA := pA.lt
    go_wp2_with fail
    refine (refLimValid_as _ hl VL.out).mono ?_
    rintro e w' ⟨rfl, rfl⟩
    go_wp2_with fail
    refine (HS.out _).mono ?_
    rintro e w' ⟨rfl, rfl⟩
    go_wp2_with fail
    go_ret2
    exact ⟨ret_be (by rw [HM.out.1]; simp) HM.out.2.symm, hB⟩

set_option maxHeartbeats 400000 in
theorem refLimMeets_bad1 (n d l : Int) (w : World) (hn : I64 n) (hd : I64 d) (v : vldB n d = false) :
    Calls Tryz.prog 25 #[.agg #[.int .i64 n, .int .i64 d], .int .i64 l] w (Made (.tuple #[.bool (meB n d l), .int .i64 (meE n d l)]) w) := by
  have HM := Lib.hid (show meB n d l = false ∧ meE n d l = 2 by simp [meB, meE, v])
  have V := Lib.hid v
  clear v
  go_enter Tryz.func25, Tryz.ntmps25
  go_wp2_with fail
  refine (refValid_as _ hn hd V.out).mono ?_
  rintro e w1 ⟨rfl, hb⟩
  go_wp2_with fail
  go_ret2
  exact ⟨ret_be HM.out.1.symm HM.out.2.symm, past_one hb⟩

set_option maxHeartbeats 400000 in
theorem refLimMeets_bad2 (n d l : Int) (w : World) (hn : I64 n) (hd : I64 d) (hl : I64 l) (v : vldB n d = true) (vl : lvB l = false) :
    Calls Tryz.prog 25 #[.agg #[.int .i64 n, .int .i64 d], .int .i64 l] w (Made (.tuple #[.bool (meB n d l), .int .i64 (meE n d l)]) w) := by
  have HM := Lib.hid (show meB n d l = false ∧ meE n d l = 2 by simp [meB, meE, vl])
  have V := Lib.hid v
  have VL := Lib.hid vl
  clear v vl
  go_enter Tryz.func25, Tryz.ntmps25
  go_wp2_with fail
  refine (refValid_as _ hn hd V.out).mono ?_
  rintro e w1 ⟨rfl, hb⟩
  go_wp2_with fail
  refine (refLimValid_as _ hl VL.out).mono ?_
  rintro e w' ⟨rfl, rfl⟩
  go_wp2_with fail
  go_ret2
  exact ⟨ret_be HM.out.1.symm HM.out.2.symm, past_one hb⟩

set_option maxHeartbeats 400000 in
theorem refLimMeets_none (n d l : Int) (w : World) (hn : I64 n) (hd : I64 d) (hl : I64 l) (v : vldB n d = true) (vl : lvB l = true) (nl : noB l = true) :
    Calls Tryz.prog 25 #[.agg #[.int .i64 n, .int .i64 d], .int .i64 l] w (Made (.tuple #[.bool (meB n d l), .int .i64 (meE n d l)]) w) := by
  have HM := Lib.hid (show meB n d l = true ∧ meE n d l = 0 by simp [meB, mtB, meE, v, vl, nl])
  have L0 : (l == 1099511627776) = true := by simpa [noB] using nl
  have V := Lib.hid v
  have VL := Lib.hid vl
  have NL := Lib.hid nl
  clear v vl nl
  go_enter Tryz.func25, Tryz.ntmps25
  go_wp2_with fail
  refine (refValid_as _ hn hd V.out).mono ?_
  rintro e w1 ⟨rfl, hb⟩
  go_wp2_with fail
  refine (refLimValid_as _ hl VL.out).mono ?_
  rintro e w' ⟨rfl, rfl⟩
  go_wp2_with fail
  refine (refSplit_none _ hl VL.out NL.out).mono ?_
  rintro e w' ⟨rfl, rfl⟩
  go_wp2_with fail
  go_ret2
  exact ⟨ret_be HM.out.1.symm HM.out.2.symm, past_one hb⟩

theorem refLimMeets_any (n d l : Int) (w : World) (hn : I64 n) (hd : I64 d) (hl : I64 l) :
    Calls Tryz.prog 25 #[.agg #[.int .i64 n, .int .i64 d], .int .i64 l] w (Made (.tuple #[.bool (meB n d l), .int .i64 (meE n d l)]) w) := by
  cases v : vldB n d
  · exact refLimMeets_bad1 n d l w hn hd v
  · rcases lvB_cases l with ⟨vl, nl, l0, lr⟩ | ⟨l0, vl, nl⟩ | ⟨vl, nl, l0, l1, l2⟩
    · exact refLimMeets_bad2 n d l w hn hd hl v vl
    · exact refLimMeets_none n d l w hn hd hl v vl nl
    · exact refLimMeets_some n d l w v hl vl nl l1 l2
end Go.Proofs.YtbnebinpemejlaaGreat

namespace Go.Proofs.YtbnebinpemejlaaGreat

theorem gcd_pos (a b : Int) (h : b ≠ 0) : 0 < Nat.gcd a.natAbs b.natAbs := Nat.gcd_pos_of_pos_right _ (by omega)

theorem top_mul (a b : Int) : top a b * Nat.gcd a.natAbs b.natAbs = a.natAbs := Nat.div_mul_cancel (Nat.gcd_dvd_left _ _)

theorem bot_mul (a b : Int) : bot a b * Nat.gcd a.natAbs b.natAbs = b.natAbs := Nat.div_mul_cancel (Nat.gcd_dvd_right _ _)

theorem tb_cop (a b : Int) (h : b ≠ 0) : Nat.gcd (top a b) (bot a b) = 1 := by
  unfold top bot
  exact Nat.Coprime.gcd_eq_one (Nat.coprime_div_gcd_div_gcd (gcd_pos a b h))

theorem bot_pos (a b : Int) (h : b ≠ 0) : 1 ≤ bot a b := by
  have h1 := bot_mul a b
  rcases Nat.eq_zero_or_pos (bot a b) with e | e
  · rw [e] at h1; omega
  · exact e

/-- Parts without a common divisor are those of the number. -/
theorem cop_unique {t u t' u' : Nat} (h : Nat.gcd t u = 1) (h' : Nat.gcd t' u' = 1) (e : t * u' = t' * u) : t = t' ∧ u = u' := by
  have d1 : t ∣ t' := Nat.Coprime.dvd_of_dvd_mul_right (show Nat.Coprime t u from h) (e ▸ Nat.dvd_mul_right t u')
  have d2 : t' ∣ t := Nat.Coprime.dvd_of_dvd_mul_right (show Nat.Coprime t' u' from h') (e ▸ Nat.dvd_mul_right t' u)
  have d3 : u ∣ u' := Nat.Coprime.dvd_of_dvd_mul_left (show Nat.Coprime u t from by rw [Nat.coprime_comm]; exact h) (e ▸ Nat.dvd_mul_left u t')
  have d4 : u' ∣ u := Nat.Coprime.dvd_of_dvd_mul_left (show Nat.Coprime u' t' from by rw [Nat.coprime_comm]; exact h') (e ▸ Nat.dvd_mul_left u' t)
  exact ⟨Nat.dvd_antisymm d1 d2, Nat.dvd_antisymm d3 d4⟩

theorem tb_congr {a b a' b' : Int} (hb : b ≠ 0) (hb' : b' ≠ 0) (e : a * b' = a' * b) : top a b = top a' b' ∧ bot a b = bot a' b' := by
  apply cop_unique (tb_cop a b hb) (tb_cop a' b' hb')
  have e1 : a.natAbs * b'.natAbs = a'.natAbs * b.natAbs := by rw [← Int.natAbs_mul, ← Int.natAbs_mul, e]
  have t1 := top_mul a b
  have t2 := bot_mul a b
  have t3 := top_mul a' b'
  have t4 := bot_mul a' b'
  have p := gcd_pos a b hb
  have p' := gcd_pos a' b' hb'
  have e2 : (Nat.gcd a.natAbs b.natAbs * Nat.gcd a'.natAbs b'.natAbs) * (top a b * bot a' b') = (Nat.gcd a.natAbs b.natAbs * Nat.gcd a'.natAbs b'.natAbs) * (top a' b' * bot a b) := by
    calc _ = top a b * Nat.gcd a.natAbs b.natAbs * (bot a' b' * Nat.gcd a'.natAbs b'.natAbs) := by ac_rfl
      _ = a.natAbs * b'.natAbs := by rw [t1, t4]
      _ = a'.natAbs * b.natAbs := e1
      _ = top a' b' * Nat.gcd a'.natAbs b'.natAbs * (bot a b * Nat.gcd a.natAbs b.natAbs) := by rw [t2, t3]
      _ = _ := by ac_rfl
  exact Nat.eq_of_mul_eq_mul_left (Nat.mul_pos p p') e2

theorem neg_iff {a b : Int} (ha : a ≠ 0) (hb : b ≠ 0) : (decide (a < 0) != decide (b < 0)) = decide (a * b < 0) := by
  rcases Int.lt_or_lt_of_ne ha with x | x <;> rcases Int.lt_or_lt_of_ne hb with y | y
  · have u : 0 < a * b := Int.mul_pos_of_neg_of_neg x y
    rw [Bool.eq_iff_iff]; simp; omega
  · have u : a * b < 0 := Int.mul_neg_of_neg_of_pos x y
    rw [Bool.eq_iff_iff]; simp; omega
  · have u : a * b < 0 := Int.mul_neg_of_pos_of_neg x y
    rw [Bool.eq_iff_iff]; simp; omega
  · have u : 0 < a * b := Int.mul_pos x y
    rw [Bool.eq_iff_iff]; simp; omega

theorem neg_scale {x y p q : Int} (hp : 0 < p) (hq : 0 < q) (e : x * p = y * q) (h : x < 0) : y < 0 := by
  have u : x * p < 0 := Int.mul_neg_of_neg_of_pos h hp
  rcases Int.lt_or_le y 0 with k | k
  · exact k
  · have : 0 ≤ y * q := Int.mul_nonneg k (by omega)
    omega

theorem sq_pos {b : Int} (hb : b ≠ 0) : 0 < b * b := by
  rcases Int.lt_or_lt_of_ne hb with x | x
  · exact Int.mul_pos_of_neg_of_neg x x
  · exact Int.mul_pos x x

theorem neg_congr {a b a' b' : Int} (hb : b ≠ 0) (hb' : b' ≠ 0) (e : a * b' = a' * b) (h0 : a ≠ 0) : (decide (a < 0) != decide (b < 0)) = (decide (a' < 0) != decide (b' < 0)) := by
  have h1 : a' ≠ 0 := by
    intro h
    rw [h, Int.zero_mul] at e
    rcases Int.mul_eq_zero.1 e with h | h
    · exact h0 h
    · exact hb' h
  rw [neg_iff h0 hb, neg_iff h1 hb']
  have k : (a * b) * (b' * b') = (a' * b') * (b * b) := by
    calc (a * b) * (b' * b') = (a * b') * (b * b') := by ac_rfl
      _ = (a' * b) * (b * b') := by rw [e]
      _ = _ := by ac_rfl
  rw [decide_eq_decide]
  exact ⟨neg_scale (sq_pos hb') (sq_pos hb) k, neg_scale (sq_pos hb) (sq_pos hb') k.symm⟩

/-- Equal numbers are made the same. -/
theorem mk_congr {a b a' b' : Int} (hb : b ≠ 0) (hb' : b' ≠ 0) (e : a * b' = a' * b) : mkNum a b = mkNum a' b' ∧ mkDen a b = mkDen a' b' ∧ mkErr a b = mkErr a' b' := by
  obtain ⟨e1, e2⟩ := tb_congr hb hb' e
  have ef : fits a b = fits a' b' := by unfold fits; rw [e1, e2]
  refine ⟨?_, ?_, ?_⟩
  · unfold mkNum
    rw [if_neg hb, if_neg hb', ef, e1]
    by_cases h0 : a = 0
    · have t0 : top a' b' = 0 := by rw [← e1, h0]; simp [top]
      rw [t0]; simp
    · rw [neg_congr hb hb' e h0]
  · unfold mkDen
    rw [if_neg hb, if_neg hb', ef, e2]
  · unfold mkErr
    rw [if_neg hb, if_neg hb', ef]

/-- A valid ratio is made of itself. -/
theorem mk_self {n d : Int} (h : vldB n d = true) : mkNum n d = n ∧ mkDen n d = d ∧ mkErr n d = 0 := by
  obtain ⟨h1, h2, h3, h4⟩ := vld_bd h
  have hg : Nat.gcd n.natAbs d.natAbs = 1 := by unfold vldB at h; simp at h; exact h.2.2.2.2
  have t1 : top n d = n.natAbs := by unfold top; rw [hg]; simp
  have t2 : bot n d = d.natAbs := by unfold bot; rw [hg]; simp
  have hf : fits n d = true := by unfold fits; rw [t1, t2]; simp; omega
  have hd : ¬ d = 0 := by omega
  refine ⟨?_, ?_, ?_⟩
  · unfold mkNum; rw [if_neg hd, hf, t1]
    have : decide (d < 0) = false := by simp; omega
    rw [this]
    by_cases hn : n < 0
    · simp [hn]; omega
    · simp [hn]; omega
  · unfold mkDen; rw [if_neg hd, hf, t2]; simp; omega
  · unfold mkErr; rw [if_neg hd, hf]; rfl

/-- The ratio of a number: what stands for it is what is made. -/
theorem mk_is {a b P Q : Int} (hv : vldB P Q = true) (hb : b ≠ 0) (e : P * b = a * Q) : mkNum a b = P ∧ mkDen a b = Q ∧ mkErr a b = 0 := by
  have hQ := (vld_bd hv).1
  obtain ⟨s1, s2, s3⟩ := mk_self hv
  obtain ⟨c1, c2, c3⟩ := mk_congr (a := a) (b := b) (a' := P) (b' := Q) hb (by omega) e.symm
  rw [s1] at c1; rw [s2] at c2; rw [s3] at c3
  exact ⟨c1, c2, c3⟩

/-- What is made without an error is a ratio that stands for the number. -/
theorem mk_ok {a b : Int} (h : mkErr a b = 0) : b ≠ 0 ∧ vldB (mkNum a b) (mkDen a b) = true ∧ mkNum a b * b = a * mkDen a b := by
  have hb : b ≠ 0 := by intro e; unfold mkErr at h; rw [if_pos e] at h; omega
  have hf : fits a b = true := by
    unfold mkErr at h; rw [if_neg hb] at h
    cases hc : fits a b
    · rw [hc] at h; simp at h
    · rfl
  have hn : mkNum a b = (if (decide (a < 0) != decide (b < 0)) then -(top a b : Int) else top a b) := by unfold mkNum; rw [if_neg hb, hf]; rfl
  have hd : mkDen a b = bot a b := by unfold mkDen; rw [if_neg hb, hf]; rfl
  have c := tb_cop a b hb
  have p := bot_pos a b hb
  have f2 : top a b ≤ 2147483647 ∧ bot a b ≤ 2147483647 := by unfold fits at hf; simpa using hf
  have ab : (mkNum a b).natAbs = top a b := by rw [hn]; split <;> simp
  refine ⟨hb, ?_, ?_⟩
  · unfold vldB
    rw [ab, hd]
    simp
    refine ⟨by omega, by omega, ?_, ?_, c⟩ <;> omega
  · have t := top_mul a b
    have u := bot_mul a b
    generalize hg : Nat.gcd a.natAbs b.natAbs = g at *
    have t' : ((top a b : Nat) : Int) * (g : Int) = (a.natAbs : Int) := by exact_mod_cast t
    have u' : ((bot a b : Nat) : Int) * (g : Int) = (b.natAbs : Int) := by exact_mod_cast u
    rw [hn, hd]
    generalize ((top a b : Nat) : Int) = T at *
    generalize ((bot a b : Nat) : Int) = U at *
    by_cases ha : a < 0 <;> by_cases hb2 : b < 0
    · have ea : a = -(T * g) := by omega
      have eb : b = -(U * g) := by omega
      simp only [ha, hb2, decide_true, bne_self_eq_false, Bool.false_eq_true, if_false]
      rw [eb, ea]; grind
    · have ea : a = -(T * g) := by omega
      have eb : b = U * g := by omega
      simp only [ha, hb2, decide_true, decide_false]
      simp
      rw [eb, ea]; grind
    · have ea : a = T * g := by omega
      have eb : b = -(U * g) := by omega
      simp only [ha, hb2, decide_true, decide_false]
      simp
      rw [eb, ea]; grind
    · have ea : a = T * g := by omega
      have eb : b = U * g := by omega
      simp only [ha, hb2, decide_false, bne_self_eq_false, Bool.false_eq_true, if_false]
      rw [eb, ea]; grind

theorem mk_zero {a b : Int} (hb : b ≠ 0) (h : mkErr a b ≠ 0) : mkNum a b = 0 ∧ mkDen a b = 0 ∧ mkErr a b = 7 := by
  unfold mkErr at h; rw [if_neg hb] at h
  have hf : fits a b = false := by
    cases hc : fits a b
    · rfl
    · rw [hc] at h; simp at h
  unfold mkNum mkDen mkErr
  rw [if_neg hb, if_neg hb, if_neg hb, hf]
  simp
end Go.Proofs.YtbnebinpemejlaaGreat

namespace Go.Proofs.YtbnebinpemejlaaGreat
open Go.RowKit

def Fits (ps : List Pq) : Prop := ∀ k, k < ps.length → I64 (gp ps k).1 ∧ I64 (gp ps k).2

theorem ready_gen (N : Int) (l : List Int) (ao : Option Addr) (cap : Nat) (ps : List Pq) (po : Option Addr) (pc : Nat) (w : World) (hA : Arg w ao l) (hP : Arg2 w po ps) (hI : Fits ps) :
    Calls Tryz.prog 22 #[.agg #[.int .i64 N, .slice ao l.length cap], .slice po ps.length pc] w (Made (.int .i64 (rdE N l ps)) w) := by
  by_cases hc : chkE N l = 0
  · by_cases hp : (ps.length : Int) = N
    · obtain ⟨n, rfl, hn, hl, hne⟩ := chk_ok hc
      obtain ⟨a, rfl, hR⟩ := hA hne
      exact ready_any n l a cap ps po pc w hn hl hR hc (by omega) hP hI
    · exact ready_bad2 N l ao cap ps po pc w hA hc hp
  · exact ready_bad1 N l ao cap ps po pc w hA hc

/-- The elements of a zone that passes Check are limits. -/
theorem chk_i64 {n : Nat} {l : List Int} (h : chkE (n : Int) l = 0) {i j : Nat} (hi : i ≤ n) (hj : j ≤ n) : I64 (Zo.At n l i j) := by
  unfold chkE at h
  split at h
  · rename_i c
    unfold chkB at c
    simp only [Bool.and_eq_true] at c
    have := chk1_iff.1 c.1.2 i (by simp; omega) j (by simp; omega)
    simp only [Int.toNat_natCast] at this
    unfold okI at this
    simp only [Bool.and_eq_true] at this
    have lv := this.1.1
    unfold lvB at lv
    simp at lv
    unfold I64; omega
  · omega

def hsM (n : Nat) (l : List Int) (ps : List Pq) (i j : Nat) : Bool := meB (sbN ps i j) (sbD ps i j) (Zo.At n l i j)

def hsB (n : Nat) (l : List Int) (ps : List Pq) : Bool := (List.range (n + 1)).all fun i => (List.range (n + 1)).all fun j => hsM n l ps i j

def hsR (N : Int) (l : List Int) (ps : List Pq) : Bool := decide (rdE N l ps = 0) && hsB N.toNat l ps

theorem hsB_iff {n : Nat} {l : List Int} {ps : List Pq} : hsB n l ps = true ↔ ∀ i, i < n + 1 → ∀ j, j < n + 1 → hsM n l ps i j = true := by simp [hsB]

theorem hsB_no {n : Nat} {l : List Int} {ps : List Pq} {i j : Nat} (hi : i < n + 1) (hj : j < n + 1) (h : hsM n l ps i j = false) : hsB n l ps = false := by
  cases e : hsB n l ps
  · rfl
  · have := hsB_iff.1 e i hi j hj
    rw [h] at this; simp at this

/-- What it means to be ready. -/
theorem rd_ok {N : Int} {l : List Int} {ps : List Pq} (h : rdE N l ps = 0) : chkE N l = 0 ∧ (ps.length : Int) = N ∧ (∀ k, k < ps.length → vldC (gp ps k) = true) ∧ rdR N.toNat ps = true := by
  unfold rdE at h
  split at h
  · rename_i c
    split at h
    · rename_i d; exact ⟨c.1, c.2.1, fun k hk => rd_all c.2.2 k hk, d⟩
    · omega
  · omega

set_option maxHeartbeats 400000 in
theorem has_bad (N : Int) (l : List Int) (ao : Option Addr) (cap : Nat) (ps : List Pq) (po : Option Addr) (pc : Nat) (w : World) (hA : Arg w ao l) (hP : Arg2 w po ps) (hI : Fits ps) (hr : rdE N l ps ≠ 0) :
    Calls Tryz.prog 7 #[.agg #[.int .i64 N, .slice ao l.length cap], .slice po ps.length pc] w (Made (.tuple #[.bool (hsR N l ps), .int .i64 (rdE N l ps)]) w) := by
  have H := Lib.hid (show hsR N l ps = false by simp [hsR, hr])
  have RD := Lib.hid fun W (h : Below w.heap.size w W) => ready_gen N l ao cap ps po pc W (hA.on h) (hP.on h) hI
  have D : (rdE N l ps != 0) = true := by simpa using hr
  have e0 := Lib.hid (one_more (w1 := w))
  clear hA hP hI hr
  generalize l.length = len at *
  generalize ps.length = plen at *
  generalize rdE N l ps = er at *
  go_enter Tryz.func7, Tryz.ntmps7
  go_wp2_with fail
  refine (RD.out _ (e0.out _)).mono ?_
  rintro e w1 ⟨rfl, hb⟩
  go_wp2_with fail
  go_ret2
  exact ⟨by rw [H.out]; rfl, past_one hb⟩

set_option maxHeartbeats 1600000 in
theorem has_any (n : Nat) (l : List Int) (a : Addr) (cap : Nat) (ps : List Pq) (po : Option Addr) (pc : Nat) (w : World) (hn : n ≤ 10) (hl : l.length = (n + 1) * (n + 1)) (hR : Rd w a l) (hP : Arg2 w po ps) (hI : Fits ps) (hr : rdE n l ps = 0) (hL : ∀ i j, i ≤ n → j ≤ n → I64 (Zo.At n l i j)) :
    Calls Tryz.prog 7 #[.agg #[.int .i64 n, .slice (some a) l.length cap], .slice po ps.length pc] w (Made (.tuple #[.bool (hsR n l ps), .int .i64 (rdE n l ps)]) w) := by
  obtain ⟨hc, hp, hv, hR0⟩ := rd_ok hr
  replace hp : ps.length = n := by omega
  obtain ⟨len, hlen⟩ : ∃ len, len = l.length := ⟨_, rfl⟩
  obtain ⟨w0, hw0⟩ : ∃ w0, w0 = w.alloc (.cells #[.int .i64 n, .slice (some a) len cap] 24) := ⟨_, rfl⟩
  have bx : Two w0 w.heap.size (.int .i64 n) (.slice (some a) len cap) := by rw [hw0]; exact Two.made _ _ _ _
  have e0 : Below w.heap.size w w0 := by rw [hw0]; exact one_more _
  have RD : Hid (∀ W, Below w.heap.size w W → Calls Tryz.prog 22 #[.agg #[.int .i64 n, .slice (some a) len cap], .slice po n pc] W (Made (.int .i64 0) W)) := Lib.hid fun W h => by have := ready_gen n l (some a) cap ps po pc W (fun _ => ⟨_, rfl, hR.on h⟩) (hP.on h) hI; rw [hr, hp, ← hlen] at this; exact this
  have CL : Hid (∀ (i : Nat) (W : World), i ≤ n → Below w.heap.size w W → Calls Tryz.prog 24 #[.slice po n pc, .int .i64 i] W (Made (.agg #[.int .i64 (clk ps i).1, .int .i64 (clk ps i).2]) W)) := Lib.hid fun i W hi h => by have := clock_any ps po pc i W (hP.on h) (by omega) (by omega); rw [hp] at this; exact this
  have SB := Lib.hid fun (i j : Nat) (W : World) (hi : i ≤ n) (hj : j ≤ n) => by have := sub_clk (ps := ps) W hv (i := i) (j := j) (by rw [hp]; exact hi) (by rw [hp]; exact hj); rw [rdR_at hR0 (i := i) (j := j) (by simp; omega) (by simp; omega)] at this; exact this
  have AT : Hid (∀ (i j : Nat) (W : World), i ≤ n → j ≤ n → Below w.heap.size w W → Calls Tryz.prog 26 #[.agg #[.int .i64 n, .slice (some a) len cap], .int .i64 i, .int .i64 j] W (Made (.int .i64 (Zo.At n l i j)) W)) := Lib.hid fun i j W hi hj h => by have := at_any n i j l a cap W hn hi hj hl (hR.on h); rw [← hlen] at this; exact this
  have MT := Lib.hid fun (i j : Nat) (W : World) (hi : i ≤ n) (hj : j ≤ n) => refLimMeets_any (sbN ps i j) (sbD ps i j) (Zo.At n l i j) W (by have := mkNum_bd ((clk ps i).1 * (clk ps j).2 - (clk ps j).1 * (clk ps i).2) ((clk ps i).2 * (clk ps j).2); unfold sbN I64; omega) (by have := mkDen_bd ((clk ps i).1 * (clk ps j).2 - (clk ps j).1 * (clk ps i).2) ((clk ps i).2 * (clk ps j).2); unfold sbD I64; omega) (hL i j hi hj)
  have HRE := Lib.hid hr
  have HH := Lib.hid (show hsR n l ps = hsB n l ps by simp [hsR, hr])
  have E0 := Lib.hid e0
  have HW0 := Lib.hid hw0
  rw [hp, ← hlen]
  clear hR hc hp hP hI e0 hw0 hl hlen hv hR0 hr hL
  go_enter Tryz.func7, Tryz.ntmps7
  go_wp2_with fail
  rw [← HW0.out]
  obtain ⟨b0, b1, b2, b3⟩ := bx.facts
  go_wp2_with fail
  refine (RD.out _ E0.out).mono ?_
  rintro e w1 ⟨rfl, hb1⟩
  clear b0 b1 b2 b3
  replace bx := bx.kept hb1
  have E1 := Lib.hid (below_on E0.out hb1)
  clear hb1 E0
  go_wp2_with fail
  go_loopw [7] (fun s wx => ∃ t : Nat, t ≤ n + 1 ∧ s = .int .i64 t ∧ Hid (∀ i, i < t → ∀ j, j < n + 1 → hsM n l ps i j = true) ∧ Hid (Below w1.heap.size w1 wx)) (fun s _ => n + 1 - (intOf s).toNat)
  case atStart => exact ⟨0, by omega, rfl, Lib.hid (fun k hk => by omega), Lib.hid (Below.refl _ _)⟩
  case round =>
    obtain ⟨i, hi, rfl, HS, HB⟩ := hrel
    obtain ⟨b0, b1, b2, b3⟩ := (bx.kept HB.out).facts
    by_cases hin : i ≤ n
    · go_wp2_with fail
      clear b0 b1 b2 b3
      go_loopw [8] (fun s wx => ∃ t : Nat, t ≤ n + 1 ∧ s = .int .i64 t ∧ Hid (∀ j, j < t → hsM n l ps i j = true) ∧ Hid (Below w1.heap.size w1 wx)) (fun s _ => n + 1 - (intOf s).toNat)
      case atStart => exact ⟨0, by omega, rfl, Lib.hid (fun k hk => by omega), HB⟩
      case round =>
        obtain ⟨j, hj, rfl, HJ, HBj⟩ := hrel
        obtain ⟨b0, b1, b2, b3⟩ := (bx.kept HBj.out).facts
        by_cases hjn : j ≤ n
        · have mt := fun W => MT.out i j W hin hjn
          have sb := fun W => SB.out i j W hin hjn
          have a9 := fun W h => AT.out i j W hin hjn h
          have hM : hsM n l ps i j = meB (sbN ps i j) (sbD ps i j) (Zo.At n l i j) := rfl
          generalize meB (sbN ps i j) (sbD ps i j) (Zo.At n l i j) = mb at mt hM
          generalize meE (sbN ps i j) (sbD ps i j) (Zo.At n l i j) = me at mt
          generalize sbN ps i j = sn at *
          generalize sbD ps i j = sd at *
          generalize Zo.At n l i j = lv at *
          have MT2 := Lib.hid mt
          have SB2 := Lib.hid sb
          have AT2 := Lib.hid a9
          have HM := Lib.hid hM
          clear mt sb a9 hM
          cases mb
          · have HE := Lib.hid (hsB_no (n := n) (l := l) (ps := ps) (i := i) (j := j) (by omega) (by omega) HM.out)
            go_wp2_with fail
            refine (CL.out i _ hin (below_on E1.out HBj.out)).mono ?_
            rintro e w3 ⟨rfl, hb3⟩
            have q3 := below_on HBj.out hb3
            clear hb3 b0 b1 b2 b3
            go_wp2_with fail
            refine (CL.out j _ hjn (below_on E1.out q3)).mono ?_
            rintro e w4 ⟨rfl, hb4⟩
            have q4 := below_on q3 hb4
            clear hb4 q3
            go_wp2_with fail
            refine (SB2.out _).mono ?_
            rintro e w5 ⟨rfl, hb5⟩
            have q5 := below_on q4 hb5
            clear hb5 q4
            obtain ⟨w6, hw6⟩ : ∃ w6, w6 = w5.alloc (.cells #[.int .i64 sn, .int .i64 sd] 32) := ⟨_, rfl⟩
            have pD : Pair w6 w5.heap.size sn sd := by rw [hw6]; exact Pair.made _ _ _ _
            have q6 : Below w1.heap.size w1 w6 := by rw [hw6]; exact q5.alloc q5.size _
            have bx6 := bx.kept q6
            have HW6 := Lib.hid hw6
            have KS := Lib.hid (show ∀ W : World, Below w6.heap.size w6 W → (W.cell? ⟨w5.heap.size, 0, none⟩ = some (.int .i64 sn) ∧ W.cell? ⟨w5.heap.size, 1, none⟩ = some (.int .i64 sd)) ∧ (W.cell? ⟨w.heap.size, 0, none⟩ = some (.int .i64 n) ∧ W.cell? ⟨w.heap.size, 1, none⟩ = some (.slice (some a) len cap)) from
              fun W h => ⟨⟨(pD.kept h).facts.1, (pD.kept h).facts.2.1⟩, (bx6.kept h).facts.1, (bx6.kept h).facts.2.1⟩)
            have Q6 := Lib.hid q6
            clear hw6 q5 q6 pD bx6
            go_wp2_with fail
            rw [← HW6.out]
            have s1 : Below w6.heap.size w6 w6.drew := (Below.refl _ _).drew
            go_region_held3 (fun w' => (w'.cell? ⟨w5.heap.size, 0, none⟩ = some (.int .i64 sn) ∧ w'.cell? ⟨w5.heap.size, 1, none⟩ = some (.int .i64 sd)) ∧ (w'.cell? ⟨w.heap.size, 0, none⟩ = some (.int .i64 n) ∧ w'.cell? ⟨w.heap.size, 1, none⟩ = some (.slice (some a) len cap))) (first | exact KS.out _ s1 | exact KS.out _ s7 | exact KS.out _ s8)
              (first | (go_at_call 26; refine (AT2.out _ (below_on E1.out (below_on Q6.out s1))).mono ?_; rintro e w7 ⟨rfl, hb7⟩; have s7 := below_on s1 hb7) | (go_at_call 25; refine (MT2.out _).mono ?_; rintro e w8 ⟨rfl, hb8⟩; have s8 := below_on s7 hb8))
            have Q8 := Lib.hid (below_on Q6.out s8)
            clear s1 s7 s8 hb7 hb8
            go_wp2_with fail
            go_ret2
            exact ⟨by rw [HRE.out, HH.out, HE.out]; rfl, below_on E1.out Q8.out⟩
          · go_wp2_with fail
            refine (CL.out i _ hin (below_on E1.out HBj.out)).mono ?_
            rintro e w3 ⟨rfl, hb3⟩
            have q3 := below_on HBj.out hb3
            clear hb3 b0 b1 b2 b3
            go_wp2_with fail
            refine (CL.out j _ hjn (below_on E1.out q3)).mono ?_
            rintro e w4 ⟨rfl, hb4⟩
            have q4 := below_on q3 hb4
            clear hb4 q3
            go_wp2_with fail
            refine (SB2.out _).mono ?_
            rintro e w5 ⟨rfl, hb5⟩
            have q5 := below_on q4 hb5
            clear hb5 q4
            obtain ⟨w6, hw6⟩ : ∃ w6, w6 = w5.alloc (.cells #[.int .i64 sn, .int .i64 sd] 32) := ⟨_, rfl⟩
            have pD : Pair w6 w5.heap.size sn sd := by rw [hw6]; exact Pair.made _ _ _ _
            have q6 : Below w1.heap.size w1 w6 := by rw [hw6]; exact q5.alloc q5.size _
            have bx6 := bx.kept q6
            have HW6 := Lib.hid hw6
            have KS := Lib.hid (show ∀ W : World, Below w6.heap.size w6 W → (W.cell? ⟨w5.heap.size, 0, none⟩ = some (.int .i64 sn) ∧ W.cell? ⟨w5.heap.size, 1, none⟩ = some (.int .i64 sd)) ∧ (W.cell? ⟨w.heap.size, 0, none⟩ = some (.int .i64 n) ∧ W.cell? ⟨w.heap.size, 1, none⟩ = some (.slice (some a) len cap)) from
              fun W h => ⟨⟨(pD.kept h).facts.1, (pD.kept h).facts.2.1⟩, (bx6.kept h).facts.1, (bx6.kept h).facts.2.1⟩)
            have Q6 := Lib.hid q6
            clear hw6 q5 q6 pD bx6
            go_wp2_with fail
            rw [← HW6.out]
            have s1 : Below w6.heap.size w6 w6.drew := (Below.refl _ _).drew
            go_region_held3 (fun w' => (w'.cell? ⟨w5.heap.size, 0, none⟩ = some (.int .i64 sn) ∧ w'.cell? ⟨w5.heap.size, 1, none⟩ = some (.int .i64 sd)) ∧ (w'.cell? ⟨w.heap.size, 0, none⟩ = some (.int .i64 n) ∧ w'.cell? ⟨w.heap.size, 1, none⟩ = some (.slice (some a) len cap))) (first | exact KS.out _ s1 | exact KS.out _ s7 | exact KS.out _ s8)
              (first | (go_at_call 26; refine (AT2.out _ (below_on E1.out (below_on Q6.out s1))).mono ?_; rintro e w7 ⟨rfl, hb7⟩; have s7 := below_on s1 hb7) | (go_at_call 25; refine (MT2.out _).mono ?_; rintro e w8 ⟨rfl, hb8⟩; have s8 := below_on s7 hb8))
            have Q8 := Lib.hid (below_on Q6.out s8)
            clear s1 s7 s8 hb7 hb8
            go_wp2_with fail
            go_roundw
            case rel =>
              refine ⟨j + 1, by omega, by go_num, Lib.hid (fun k hk => ?_), Q8⟩
              by_cases e : k = j
              · rw [e]; exact HM.out
              · exact HJ.out k (by omega)
            case measure => simp [intOf]; omega
        · have HS3 := Lib.hid (show ∀ x, x < i + 1 → ∀ j, j < n + 1 → hsM n l ps x j = true from fun x hx y hy => by
            by_cases e : x = i
            · rw [e]; exact HJ.out y (by omega)
            · exact HS.out x (by omega) y hy)
          go_wp2_with fail
          go_roundw
          case rel => exact ⟨i + 1, by omega, by go_num, HS3, HBj⟩
          case measure => simp [intOf]; omega
    · have HE := Lib.hid (show hsB n l ps = true from hsB_iff.2 (fun i hi j hj => HS.out i (by omega) j hj))
      go_wp2_with fail
      go_ret2
      exact ⟨by rw [HRE.out, HH.out, HE.out]; rfl, below_on E1.out HB.out⟩

theorem has_gen (N : Int) (l : List Int) (ao : Option Addr) (cap : Nat) (ps : List Pq) (po : Option Addr) (pc : Nat) (w : World) (hA : Arg w ao l) (hP : Arg2 w po ps) (hI : Fits ps) :
    Calls Tryz.prog 7 #[.agg #[.int .i64 N, .slice ao l.length cap], .slice po ps.length pc] w (Made (.tuple #[.bool (hsR N l ps), .int .i64 (rdE N l ps)]) w) := by
  by_cases hr : rdE N l ps = 0
  · obtain ⟨n, rfl, hn, hl, hne⟩ := chk_ok (rd_ok hr).1
    obtain ⟨a, rfl, hR⟩ := hA hne
    exact has_any n l a cap ps po pc w hn hl hR hP hI hr (fun i j hi hj => chk_i64 (rd_ok hr).1 hi hj)
  · exact has_bad N l ao cap ps po pc w hA hP hI hr
end Go.Proofs.YtbnebinpemejlaaGreat

namespace Go.Proofs.YtbnebinpemejlaaGreat

def smp : Nat → Int → Int → Int → Int → Int × Int
  | 0, _, _, _, _ => (0, 1)
  | k + 1, p, q, r, s =>
    if (p / q + 1) * s < r then (p / q + 1, 1)
    else ((p / q) * (smp k s (r - (p / q) * s) q (p - (p / q) * q)).1 + (smp k s (r - (p / q) * s) q (p - (p / q) * q)).2,
      (smp k s (r - (p / q) * s) q (p - (p / q) * q)).1)

/-- What the arguments of a call have in common: p / q is less than r / s (where s = 0 is no upper end). -/
structure Ends (p q r s : Int) : Prop where
  q1 : 1 ≤ q
  s0 : 0 ≤ s
  lt : p * s < r * q

theorem fl (p q : Int) (h : 1 ≤ q) : (p / q) * q ≤ p ∧ p < (p / q) * q + q := by
  have h1 := Int.emod_nonneg p (show q ≠ 0 by omega)
  have h2 := Int.emod_lt_of_pos p (show 0 < q by omega)
  have h3 := Int.mul_ediv_add_emod p q
  have h4 := Int.mul_comm q (p / q)
  omega

/-- If no integer lies between them, the arguments of the call of itself are ends again, and lesser. -/
theorem Ends.next {p q r s : Int} (h : Ends p q r s) (hn : ¬ (p / q + 1) * s < r) :
    1 ≤ s ∧ 1 ≤ r - (p / q) * s ∧ r - (p / q) * s ≤ s ∧ 0 ≤ p - (p / q) * q ∧ p - (p / q) * q < q ∧ Ends s (r - (p / q) * s) q (p - (p / q) * q) := by
  obtain ⟨q1, s0, lt⟩ := h
  obtain ⟨f1, f2⟩ := fl p q q1
  generalize p / q = low at *
  have hs : 1 ≤ s := by
    rcases Int.lt_or_le 0 s with h | h
    · omega
    · exfalso
      have : s = 0 := by omega
      subst this
      have h0 : 0 < r * q := by simpa using lt
      have h1 : r ≤ 0 := by simpa using hn
      have h2 : r * q ≤ 0 * q := Int.mul_le_mul_of_nonneg_right h1 (by omega)
      omega
  have key : s * (p - low * q) < q * (r - low * s) := by grind
  have hr : 1 ≤ r - low * s := by
    rcases Int.lt_or_le 0 (r - low * s) with h | h
    · omega
    · exfalso
      have h1 : q * (r - low * s) ≤ q * 0 := Int.mul_le_mul_of_nonneg_left h (by omega)
      have h2 : 0 ≤ s * (p - low * q) := Int.mul_nonneg (by omega) (by omega)
      omega
  refine ⟨hs, hr, ?_, by omega, by omega, hr, by omega, key⟩
  grind

/-- The result lies between the ends, and nothing between them is simpler. -/
def Best (p q r s x y : Int) : Prop :=
  1 ≤ y ∧ p * y < x * q ∧ x * s < r * y ∧ ∀ u v : Int, 1 ≤ v → p * v < u * q → u * s < r * v → y ≤ v ∧ (y = v → x ≤ u) ∧ (0 ≤ p → x ≤ u)

theorem smp_best (k : Nat) : ∀ p q r s : Int, Ends p q r s → q + s ≤ k → Best p q r s (smp k p q r s).1 (smp k p q r s).2 := by
  induction k with
  | zero => intro p q r s h hk; have := h.q1; have := h.s0; omega
  | succ k ih =>
    intro p q r s h hk
    unfold smp
    by_cases hn : (p / q + 1) * s < r
    · rw [if_pos hn]
      obtain ⟨f1, f2⟩ := fl p q h.q1
      have q1 := h.q1
      generalize p / q = low at *
      refine ⟨by simp, by simp; grind, by simpa using hn, ?_⟩
      intro u v hv h1 h2
      have h3 : low * v < u := by
        rcases Int.lt_or_le (low * v) u with h | h
        · exact h
        · exfalso
          have a1 : u * q ≤ (low * v) * q := Int.mul_le_mul_of_nonneg_right h (by omega)
          have a2 : (low * q) * v ≤ p * v := Int.mul_le_mul_of_nonneg_right f1 (by omega)
          grind
      refine ⟨hv, ?_, ?_⟩
      · intro e
        have e : v = 1 := by simpa using e.symm
        subst e; simp at h3 ⊢; omega
      · intro hp
        have h0 : 0 ≤ low := by
          rcases Int.lt_or_le low 0 with h | h
          · exfalso
            have : low * q ≤ (-1) * q := Int.mul_le_mul_of_nonneg_right (by omega) (by omega)
            omega
          · exact h
        have : low * 1 ≤ low * v := Int.mul_le_mul_of_nonneg_left hv h0
        simp; omega
    · rw [if_neg hn]
      obtain ⟨s1, r1, r2, g0, g1, hE⟩ := h.next hn
      have q1 := h.q1
      have lt := h.lt
      obtain ⟨f1, f2⟩ := fl p q h.q1
      have IH := ih s (r - (p / q) * s) q (p - (p / q) * q) hE (by omega)
      generalize hden : (smp k s (r - (p / q) * s) q (p - (p / q) * q)).1 = den at *
      generalize hnum : (smp k s (r - (p / q) * s) q (p - (p / q) * q)).2 = num at *
      clear hden hnum ih
      generalize p / q = low at *
      obtain ⟨n1, b1, b2, mn⟩ := IH
      have d1 : 1 ≤ den := by
        rcases Int.lt_or_le 0 den with h | h
        · omega
        · exfalso
          have a1 : den * (r - low * s) ≤ 0 * (r - low * s) := Int.mul_le_mul_of_nonneg_right h (by omega)
          have a2 : 0 ≤ s * num := Int.mul_nonneg (by omega) (by omega)
          omega
      refine ⟨d1, ?_, ?_, ?_⟩
      · show p * den < (low * den + num) * q
        grind
      · show (low * den + num) * s < r * den
        grind
      · intro u v hv h1 h2
        show den ≤ v ∧ (den = v → low * den + num ≤ u) ∧ (0 ≤ p → low * den + num ≤ u)
        have ua : 1 ≤ u - low * v := by
          rcases Int.lt_or_le 0 (u - low * v) with h | h
          · omega
          · exfalso
            have a1 : (u - low * v) * q ≤ 0 * q := Int.mul_le_mul_of_nonneg_right h (by omega)
            have a2 : 0 ≤ v * (p - low * q) := Int.mul_nonneg (by omega) (by omega)
            grind
        obtain ⟨m1, m2, m3⟩ := mn v (u - low * v) ua (by grind) (by grind)
        have m4 := m3 (by omega)
        refine ⟨m4, ?_, ?_⟩
        · intro e; subst e; omega
        · intro hp
          have h0 : 0 ≤ low := by
            rcases Int.lt_or_le low 0 with h | h
            · exfalso
              have : low * q ≤ (-1) * q := Int.mul_le_mul_of_nonneg_right (by omega) (by omega)
              omega
            · exact h
          have : low * den ≤ low * v := Int.mul_le_mul_of_nonneg_left m4 h0
          omega

/-- The denominator is at most the sum of both. -/
theorem smp_den (k : Nat) (p q r s : Int) (h : Ends p q r s) (hk : q + s ≤ k) : 1 ≤ (smp k p q r s).2 ∧ (smp k p q r s).2 ≤ q + s := by
  obtain ⟨h1, _, _, h4⟩ := smp_best k p q r s h hk
  obtain ⟨q1, s0, lt⟩ := h
  exact ⟨h1, (h4 (p + r) (q + s) (by omega) (by grind) (by grind)).1⟩
end Go.Proofs.YtbnebinpemejlaaGreat

namespace Go.Proofs.YtbnebinpemejlaaGreat
open Go.RowKit

/-- The arguments of a call of simplest, within their limits. -/
structure Args (p q r s : Int) : Prop where
  p1 : -2147483647 ≤ p
  p2 : p ≤ 2147483647
  r1 : -2147483647 ≤ r
  r2 : r ≤ 2147483647
  q2 : q ≤ 2147483647
  s2 : s ≤ 2147483647
  ends : Ends p q r s

theorem lowB (p q : Int) (h1 : -2147483647 ≤ p) (h2 : p ≤ 2147483647) (hq : 1 ≤ q) : -2147483647 ≤ p / q ∧ p / q ≤ 2147483647 := by
  constructor
  · rw [Int.le_ediv_iff_mul_le (by omega)]
    have : (-2147483647 : Int) * q ≤ -2147483647 * 1 := by omega
    omega
  · apply Int.ediv_le_of_le_mul (by omega)
    have : (2147483647 : Int) * 1 ≤ 2147483647 * q := by omega
    omega

theorem Args.next {p q r s : Int} (h : Args p q r s) (hn : ¬ (p / q + 1) * s < r) : Args s (r - (p / q) * s) q (p - (p / q) * q) := by
  obtain ⟨s1, r1, r2, g0, g1, hE⟩ := h.ends.next hn
  have := h.q2
  have := h.s2
  have := h.ends.q1
  exact ⟨by omega, by omega, by omega, by omega, by omega, by omega, hE⟩

theorem mulB {x y : Int} (x1 : -2147483647 ≤ x) (x2 : x ≤ 2147483647) (y1 : 0 ≤ y) (y2 : y ≤ 4294967294) :
    -9223372028264841218 ≤ x * y ∧ x * y ≤ 9223372028264841218 := by
  have h : (x * y).natAbs ≤ 2147483647 * 4294967294 := by
    rw [Int.natAbs_mul]; exact Nat.mul_le_mul (by omega) (by omega)
  omega

/-- In a call that calls itself: the numbers that come back. -/
theorem inner_bd (k : Nat) {p q r s : Int} (h : Args p q r s) (hk : q + s ≤ (k + 1 : Nat)) (hn : ¬ (p / q + 1) * s < r) :
    1 ≤ (smp k s (r - (p / q) * s) q (p - (p / q) * q)).1 ∧ (smp k s (r - (p / q) * s) q (p - (p / q) * q)).1 ≤ 4294967294 ∧
    1 ≤ (smp k s (r - (p / q) * s) q (p - (p / q) * q)).2 ∧ (smp k s (r - (p / q) * s) q (p - (p / q) * q)).2 ≤ 4294967294 := by
  have h1 := smp_den (k + 1) p q r s h.ends hk
  have e : (smp (k + 1) p q r s).2 = (smp k s (r - (p / q) * s) q (p - (p / q) * q)).1 := by
    rw [smp, if_neg hn]
  rw [e] at h1
  obtain ⟨s1, r1, r2, g0, g1, hE⟩ := h.ends.next hn
  have h2 := smp_den k _ _ _ _ hE (by omega)
  have := h.q2
  have := h.s2
  have := h.ends.q1
  omega

theorem smp_rng (k : Nat) {p q r s : Int} (h : Args p q r s) (hk : q + s ≤ k) : I64 (smp k p q r s).1 ∧ 1 ≤ (smp k p q r s).2 ∧ (smp k p q r s).2 ≤ 4294967294 := by
  have hd := smp_den k p q r s h.ends hk
  have := h.q2
  have := h.s2
  refine ⟨?_, hd.1, by omega⟩
  match k, hk with
  | 0, hk => exfalso; have := h.ends.q1; have := h.ends.s0; omega
  | k + 1, hk =>
    have lb := lowB p q h.p1 h.p2 h.ends.q1
    unfold smp
    by_cases hn : (p / q + 1) * s < r
    · rw [if_pos hn]; unfold I64; simp; omega
    · rw [if_neg hn]
      have ib := inner_bd k h hk hn
      have mb := mulB lb.1 lb.2 (show 0 ≤ (smp k s (r - (p / q) * s) q (p - (p / q) * q)).1 by omega) ib.2.1
      unfold I64
      simp only
      omega

set_option maxHeartbeats 400000 in
theorem simplest_any (k : Nat) : ∀ (p q r s : Int) (w : World), Args p q r s → q + s ≤ k →
    Calls Tryz.prog 97 #[.int .i64 p, .int .i64 q, .int .i64 r, .int .i64 s] w fun e w' => e = .returned (.tuple #[.int .i64 (smp k p q r s).1, .int .i64 (smp k p q r s).2]) ∧ w = w' := by
  induction k with
  | zero => intro p q r s w h hk; exfalso; have := h.ends.q1; have := h.ends.s0; omega
  | succ k ih =>
    intro p q r s w h hk
    have IH := Lib.hid ih
    clear ih
    obtain ⟨lb1, lb2⟩ := lowB p q h.p1 h.p2 h.ends.q1
    have p1 := h.p1
    have p2 := h.p2
    have r1 := h.r1
    have r2 := h.r2
    have q1 := h.ends.q1
    have q2 := h.q2
    have s1 := h.ends.s0
    have s2 := h.s2
    obtain ⟨m1, m2⟩ := mul_bd lb1 lb2 (show -2147483647 ≤ s by omega) s2
    have m3 : (p / q + 1) * s = p / q * s + s := by rw [Int.add_mul]; omega
    have m4 : -4611686018427387904 ≤ (p / q + 1) * s := by omega
    have m5 : (p / q + 1) * s ≤ 4611686018427387904 := by omega
    clear m3
    obtain ⟨m6, m7⟩ := mul_bd lb1 lb2 (show -2147483647 ≤ q by omega) q2
    by_cases hn : (p / q + 1) * s < r
    · have H := Lib.hid (show smp (k + 1) p q r s = (p / q + 1, 1) by rw [smp, if_pos hn])
      go_enter Tryz.func97, Tryz.ntmps97
      go_wp2_with fail
      refine (rounded_any _ _ _ (by omega) (by omega) (by omega) (by omega)).mono ?_
      rintro e w1 ⟨rfl, rfl⟩
      generalize p / q = low at *
      go_wp2_with fail
      go_ret2
      exact ⟨by rw [H.out]; rfl, rfl⟩
    · have hA := h.next hn
      have ib := inner_bd k h hk hn
      obtain ⟨i1, i2, i3, i4⟩ := ib
      obtain ⟨b1, b2⟩ := mulB lb1 lb2 (show 0 ≤ (smp k s (r - (p / q) * s) q (p - (p / q) * q)).1 by omega) i2
      obtain ⟨s1', r1', r2', g0, g1, hE⟩ := h.ends.next hn
      have hk2 : r - p / q * s + (p - p / q * q) ≤ k := by omega
      have H := Lib.hid (show smp (k + 1) p q r s = ((p / q) * (smp k s (r - (p / q) * s) q (p - (p / q) * q)).1 + (smp k s (r - (p / q) * s) q (p - (p / q) * q)).2,
        (smp k s (r - (p / q) * s) q (p - (p / q) * q)).1) by rw [smp, if_neg hn])
      go_enter Tryz.func97, Tryz.ntmps97
      go_wp2_with fail
      refine (rounded_any _ _ _ (by omega) (by omega) (by omega) (by omega)).mono ?_
      rintro e w1 ⟨rfl, rfl⟩
      generalize p / q = low at *
      go_wp2_with fail
      refine (IH.out _ _ _ _ _ hA hk2).mono ?_
      rintro e w1 ⟨rfl, rfl⟩
      generalize (smp k s (r - low * s) q (p - low * q)).1 = den at *
      generalize (smp k s (r - low * s) q (p - low * q)).2 = num at *
      go_wp2_with fail
      go_ret2
      exact ⟨by rw [H.out]; rfl, rfl⟩

set_option maxHeartbeats 400000 in
theorem refSimplest_any (k : Nat) : ∀ (p q r s : Int) (w : World), Args p q r s → q + s ≤ k →
    Calls Tryz.prog 78 #[.int .i64 p, .int .i64 q, .int .i64 r, .int .i64 s] w fun e w' => e = .returned (.tuple #[.int .i64 (smp k p q r s).1, .int .i64 (smp k p q r s).2]) ∧ w = w' := by
  induction k with
  | zero => intro p q r s w h hk; exfalso; have := h.ends.q1; have := h.ends.s0; omega
  | succ k ih =>
    intro p q r s w h hk
    have IH := Lib.hid ih
    clear ih
    obtain ⟨lb1, lb2⟩ := lowB p q h.p1 h.p2 h.ends.q1
    have p1 := h.p1
    have p2 := h.p2
    have r1 := h.r1
    have r2 := h.r2
    have q1 := h.ends.q1
    have q2 := h.q2
    have s1 := h.ends.s0
    have s2 := h.s2
    obtain ⟨m1, m2⟩ := mul_bd lb1 lb2 (show -2147483647 ≤ s by omega) s2
    have m3 : (p / q + 1) * s = p / q * s + s := by rw [Int.add_mul]; omega
    have m4 : -4611686018427387904 ≤ (p / q + 1) * s := by omega
    have m5 : (p / q + 1) * s ≤ 4611686018427387904 := by omega
    clear m3
    obtain ⟨m6, m7⟩ := mul_bd lb1 lb2 (show -2147483647 ≤ q by omega) q2
    by_cases hn : (p / q + 1) * s < r
    · have H := Lib.hid (show smp (k + 1) p q r s = (p / q + 1, 1) by rw [smp, if_pos hn])
      by_cases hs : s = 0
      · subst hs
        go_enter Tryz.func78, Tryz.ntmps78
        go_wp2_with fail
        refine (floor_any _ _ _ (by omega) (by omega) (by omega) (by omega)).mono ?_
        rintro e w1 ⟨rfl, rfl⟩
        generalize p / q = low at *
        go_wp2_with fail
        go_ret2
        exact ⟨by rw [H.out]; rfl, rfl⟩
      have hs2 : (s == 0) = false := by simpa using hs
      go_enter Tryz.func78, Tryz.ntmps78
      go_wp2_with fail
      refine (floor_any _ _ _ (by omega) (by omega) (by omega) (by omega)).mono ?_
      rintro e w1 ⟨rfl, rfl⟩
      generalize p / q = low at *
      go_wp2_with fail
      go_ret2
      exact ⟨by rw [H.out]; rfl, rfl⟩
    · have hA := h.next hn
      have ib := inner_bd k h hk hn
      obtain ⟨i1, i2, i3, i4⟩ := ib
      obtain ⟨b1, b2⟩ := mulB lb1 lb2 (show 0 ≤ (smp k s (r - (p / q) * s) q (p - (p / q) * q)).1 by omega) i2
      obtain ⟨s1', r1', r2', g0, g1, hE⟩ := h.ends.next hn
      have hk2 : r - p / q * s + (p - p / q * q) ≤ k := by omega
      have H := Lib.hid (show smp (k + 1) p q r s = ((p / q) * (smp k s (r - (p / q) * s) q (p - (p / q) * q)).1 + (smp k s (r - (p / q) * s) q (p - (p / q) * q)).2,
        (smp k s (r - (p / q) * s) q (p - (p / q) * q)).1) by rw [smp, if_neg hn])
      have hs2 : (s == 0) = false := by simp; omega
      go_enter Tryz.func78, Tryz.ntmps78
      go_wp2_with fail
      refine (floor_any _ _ _ (by omega) (by omega) (by omega) (by omega)).mono ?_
      rintro e w1 ⟨rfl, rfl⟩
      generalize p / q = low at *
      go_wp2_with fail
      refine (IH.out _ _ _ _ _ hA hk2).mono ?_
      rintro e w1 ⟨rfl, rfl⟩
      generalize (smp k s (r - low * s) q (p - low * q)).1 = den at *
      generalize (smp k s (r - low * s) q (p - low * q)).2 = num at *
      go_wp2_with fail
      go_ret2
      exact ⟨by rw [H.out]; rfl, rfl⟩
end Go.Proofs.YtbnebinpemejlaaGreat

namespace Go.Proofs.YtbnebinpemejlaaGreat
open Go.RowKit

def midB (n d m c : Int) : Bool := vldB n d && vldB m c && decide (n * c < m * d)

def midX (n d m c : Int) : Int := (smp (d + c).toNat n d m c).1

def midY (n d m c : Int) : Int := (smp (d + c).toNat n d m c).2

theorem mid_args {n d m c : Int} (h : midB n d m c = true) : Args n d m c ∧ d + c ≤ ((d + c).toNat : Int) := by
  unfold midB at h
  simp at h
  obtain ⟨⟨h1, h2⟩, h3⟩ := h
  obtain ⟨x1, x2, x3, x4⟩ := vld_bd h1
  obtain ⟨y1, y2, y3, y4⟩ := vld_bd h2
  exact ⟨⟨x3, x4, y3, y4, x2, y2, x1, by omega, h3⟩, by omega⟩

theorem cmp_as {n d m c k e : Int} (w : World) (hn : I64 n) (hd : I64 d) (hm : I64 m) (hc : I64 c) (h1 : (if (vldB n d && vldB m c) then sgn (n * c) (m * d) else 0) = k) (h2 : (if (vldB n d && vldB m c) then (0 : Int) else 2) = e) :
    Calls Tryz.prog 91 #[.agg #[.int .i64 n, .int .i64 d], .agg #[.int .i64 m, .int .i64 c]] w (Made (.tuple #[.int .i64 k, .int .i64 e]) w) := by
  have h := cmp_any n d m c w hn hd hm hc
  rw [h1, h2] at h
  exact h

set_option maxHeartbeats 400000 in
theorem middle_any (n d m c : Int) (w : World) (hn : I64 n) (hd : I64 d) (hm : I64 m) (hc : I64 c) :
    Calls Tryz.prog 74 #[.agg #[.int .i64 n, .int .i64 d], .agg #[.int .i64 m, .int .i64 c]] w
      (Made (.tuple #[.agg #[.int .i64 (opNum (midB n d m c) (midX n d m c) (midY n d m c)), .int .i64 (opDen (midB n d m c) (midX n d m c) (midY n d m c))], .int .i64 (opErr (midB n d m c) (midX n d m c) (midY n d m c))]) w) := by
  cases hM : midB n d m c
  · have HV := Lib.hid (show ∀ x y : Int, opNum false x y = 0 ∧ opDen false x y = 0 ∧ opErr false x y = 2 by simp [opNum, opDen, opErr])
    cases hV : (vldB n d && vldB m c)
    · have H1 := Lib.hid (show (if (vldB n d && vldB m c) then sgn (n * c) (m * d) else 0) = 0 by simp [hV])
      have H2 := Lib.hid (show (if (vldB n d && vldB m c) then (0 : Int) else 2) = 2 by simp [hV])
      clear hV hM
      go_enter Tryz.func74, Tryz.ntmps74
      go_wp2_with fail
      refine (cmp_as _ hn hd hm hc H1.out H2.out).mono ?_
      rintro e w1 ⟨rfl, hb⟩
      obtain ⟨hx, hf⟩ := bcell hb
      go_wp2_with fail
      refine bodyPost_ret (v := .tuple #[.agg #[.int .i64 0, .int .i64 0], .int .i64 2]) (by simp [results, Tryz.results74, go_sem, hx]) rfl ⟨by rw [(HV.out _ _).1, (HV.out _ _).2.1, (HV.out _ _).2.2], ?_⟩
      exact ((past_three hb).setCell (by simp; omega) _).setCell (by simp; omega) _
    · have h3 : ¬ n * c < m * d := by unfold midB at hM; rw [hV] at hM; simpa using hM
      have H1 : 0 ≤ (if (vldB n d && vldB m c) then sgn (n * c) (m * d) else 0) := by rw [hV]; unfold sgn; simp; split <;> omega
      obtain ⟨k, hk⟩ : ∃ k : Int, (if (vldB n d && vldB m c) then sgn (n * c) (m * d) else 0) = k := ⟨_, rfl⟩
      rw [hk] at H1
      have HK := Lib.hid hk
      have H2 := Lib.hid (show (if (vldB n d && vldB m c) then (0 : Int) else 2) = 0 by simp [hV])
      clear hk hV hM h3
      go_enter Tryz.func74, Tryz.ntmps74
      go_wp2_with fail
      refine (cmp_as _ hn hd hm hc HK.out H2.out).mono ?_
      rintro e w1 ⟨rfl, hb⟩
      obtain ⟨hx, hf⟩ := bcell hb
      go_wp2_with fail
      refine bodyPost_ret (v := .tuple #[.agg #[.int .i64 0, .int .i64 0], .int .i64 2]) (by simp [results, Tryz.results74, go_sem, hx]) rfl ⟨by rw [(HV.out _ _).1, (HV.out _ _).2.1, (HV.out _ _).2.2], ?_⟩
      exact ((past_three hb).setCell (by simp; omega) _).setCell (by simp; omega) _
  · obtain ⟨hA, hK⟩ := mid_args hM
    have hR := smp_rng _ hA hK
    obtain ⟨⟨g1, g2⟩, g3, g4⟩ := hR
    have HV := Lib.hid (show ∀ x y : Int, opNum true x y = mkNum x y ∧ opDen true x y = mkDen x y ∧ opErr true x y = mkErr x y by simp [opNum, opDen, opErr])
    have hV : (vldB n d && vldB m c) = true := by unfold midB at hM; simp at hM; simp [hM]
    have h3 : n * c < m * d := by unfold midB at hM; simp at hM; exact hM.2
    have H1 := Lib.hid (show (if (vldB n d && vldB m c) then sgn (n * c) (m * d) else 0) = -1 by rw [hV]; simp [sgn, h3])
    have H2 := Lib.hid (show (if (vldB n d && vldB m c) then (0 : Int) else 2) = 0 by simp [hV])
    clear hV hM h3
    unfold midX midY
    go_enter Tryz.func74, Tryz.ntmps74
    go_wp2_with fail
    refine (cmp_as _ hn hd hm hc H1.out H2.out).mono ?_
    rintro e w1 ⟨rfl, hb⟩
    obtain ⟨hx, hf⟩ := bcell hb
    go_wp2_with fail
    refine (simplest_any _ _ _ _ _ _ hA hK).mono ?_
    rintro e w2 ⟨rfl, rfl⟩
    generalize (smp (d + c).toNat n d m c).1 = X at *
    generalize (smp (d + c).toNat n d m c).2 = Y at *
    go_wp2_with fail
    refine (make_any _ _ _ (by omega) (by omega) (by omega) (by omega)).mono ?_
    rintro e w3 ⟨rfl, hb3⟩
    replace hb3 := below_on hb hb3
    clear hb hx hf
    obtain ⟨hx, hf⟩ := bcell hb3
    go_wp2_with fail
    refine bodyPost_ret (v := .tuple #[.agg #[.int .i64 (mkNum X Y), .int .i64 (mkDen X Y)], .int .i64 (mkErr X Y)]) (by simp [results, Tryz.results74, go_sem, hx]) rfl ⟨by rw [(HV.out _ _).1, (HV.out _ _).2.1, (HV.out _ _).2.2], ?_⟩
    exact ((past_three hb3).setCell (by simp; omega) _).setCell (by simp; omega) _

theorem refCmp_as {n d m c k e : Int} (w : World) (hn : I64 n) (hd : I64 d) (hm : I64 m) (hc : I64 c) (h1 : (if (vldB n d && vldB m c) then sgn (n * c) (m * d) else 0) = k) (h2 : (if (vldB n d && vldB m c) then (0 : Int) else 2) = e) :
    Calls Tryz.prog 71 #[.agg #[.int .i64 n, .int .i64 d], .agg #[.int .i64 m, .int .i64 c]] w (Made (.tuple #[.int .i64 k, .int .i64 e]) w) := by
  have h := refCmp_any n d m c w hn hd hm hc
  rw [h1, h2] at h
  exact h

set_option maxHeartbeats 400000 in
theorem refMiddle_any (n d m c : Int) (w : World) (hn : I64 n) (hd : I64 d) (hm : I64 m) (hc : I64 c) :
    Calls Tryz.prog 43 #[.agg #[.int .i64 n, .int .i64 d], .agg #[.int .i64 m, .int .i64 c]] w
      (Made (.tuple #[.agg #[.int .i64 (opNum (midB n d m c) (midX n d m c) (midY n d m c)), .int .i64 (opDen (midB n d m c) (midX n d m c) (midY n d m c))], .int .i64 (opErr (midB n d m c) (midX n d m c) (midY n d m c))]) w) := by
  cases hM : midB n d m c
  · have HV := Lib.hid (show ∀ x y : Int, opNum false x y = 0 ∧ opDen false x y = 0 ∧ opErr false x y = 2 by simp [opNum, opDen, opErr])
    cases hV : (vldB n d && vldB m c)
    · have H1 := Lib.hid (show (if (vldB n d && vldB m c) then sgn (n * c) (m * d) else 0) = 0 by simp [hV])
      have H2 := Lib.hid (show (if (vldB n d && vldB m c) then (0 : Int) else 2) = 2 by simp [hV])
      clear hV hM
      go_enter Tryz.func43, Tryz.ntmps43
      go_wp2_with fail
      refine (refCmp_as _ hn hd hm hc H1.out H2.out).mono ?_
      rintro e w1 ⟨rfl, hb⟩
      obtain ⟨hx, hf⟩ := bcell hb
      go_wp2_with fail
      refine bodyPost_ret (v := .tuple #[.agg #[.int .i64 0, .int .i64 0], .int .i64 2]) (by simp [results, Tryz.results43, go_sem, hx]) rfl ⟨by rw [(HV.out _ _).1, (HV.out _ _).2.1, (HV.out _ _).2.2], ?_⟩
      exact ((past_three hb).setCell (by simp; omega) _).setCell (by simp; omega) _
    · have h3 : ¬ n * c < m * d := by unfold midB at hM; rw [hV] at hM; simpa using hM
      have H1 : 0 ≤ (if (vldB n d && vldB m c) then sgn (n * c) (m * d) else 0) := by rw [hV]; unfold sgn; simp; split <;> omega
      obtain ⟨k, hk⟩ : ∃ k : Int, (if (vldB n d && vldB m c) then sgn (n * c) (m * d) else 0) = k := ⟨_, rfl⟩
      rw [hk] at H1
      have HK := Lib.hid hk
      have H2 := Lib.hid (show (if (vldB n d && vldB m c) then (0 : Int) else 2) = 0 by simp [hV])
      clear hk hV hM h3
      go_enter Tryz.func43, Tryz.ntmps43
      go_wp2_with fail
      refine (refCmp_as _ hn hd hm hc HK.out H2.out).mono ?_
      rintro e w1 ⟨rfl, hb⟩
      obtain ⟨hx, hf⟩ := bcell hb
      go_wp2_with fail
      refine bodyPost_ret (v := .tuple #[.agg #[.int .i64 0, .int .i64 0], .int .i64 2]) (by simp [results, Tryz.results43, go_sem, hx]) rfl ⟨by rw [(HV.out _ _).1, (HV.out _ _).2.1, (HV.out _ _).2.2], ?_⟩
      exact ((past_three hb).setCell (by simp; omega) _).setCell (by simp; omega) _
  · obtain ⟨hA, hK⟩ := mid_args hM
    have hR := smp_rng _ hA hK
    obtain ⟨⟨g1, g2⟩, g3, g4⟩ := hR
    have HV := Lib.hid (show ∀ x y : Int, opNum true x y = mkNum x y ∧ opDen true x y = mkDen x y ∧ opErr true x y = mkErr x y by simp [opNum, opDen, opErr])
    have hV : (vldB n d && vldB m c) = true := by unfold midB at hM; simp at hM; simp [hM]
    have h3 : n * c < m * d := by unfold midB at hM; simp at hM; exact hM.2
    have H1 := Lib.hid (show (if (vldB n d && vldB m c) then sgn (n * c) (m * d) else 0) = -1 by rw [hV]; simp [sgn, h3])
    have H2 := Lib.hid (show (if (vldB n d && vldB m c) then (0 : Int) else 2) = 0 by simp [hV])
    clear hV hM h3
    unfold midX midY
    go_enter Tryz.func43, Tryz.ntmps43
    go_wp2_with fail
    refine (refCmp_as _ hn hd hm hc H1.out H2.out).mono ?_
    rintro e w1 ⟨rfl, hb⟩
    obtain ⟨hx, hf⟩ := bcell hb
    go_wp2_with fail
    refine (refSimplest_any _ _ _ _ _ _ hA hK).mono ?_
    rintro e w2 ⟨rfl, rfl⟩
    generalize (smp (d + c).toNat n d m c).1 = X at *
    generalize (smp (d + c).toNat n d m c).2 = Y at *
    go_wp2_with fail
    refine (refMake_any _ _ _ (by omega) (by omega) (by omega) (by omega)).mono ?_
    rintro e w3 ⟨rfl, hb3⟩
    replace hb3 := below_on hb hb3
    clear hb hx hf
    obtain ⟨hx, hf⟩ := bcell hb3
    go_wp2_with fail
    refine bodyPost_ret (v := .tuple #[.agg #[.int .i64 (mkNum X Y), .int .i64 (mkDen X Y)], .int .i64 (mkErr X Y)]) (by simp [results, Tryz.results43, go_sem, hx]) rfl ⟨by rw [(HV.out _ _).1, (HV.out _ _).2.1, (HV.out _ _).2.2], ?_⟩
    exact ((past_three hb3).setCell (by simp; omega) _).setCell (by simp; omega) _
end Go.Proofs.YtbnebinpemejlaaGreat

namespace Go.Proofs.YtbnebinpemejlaaGreat
open Go.RowKit

/-- The cells of the choices: an interval, and whether a number was out of range. -/
def chC (x : Dl) (b : Bool) : Array Value := #[.int .i64 x.ln, .int .i64 x.ld, .int .i64 x.hn, .int .i64 x.hd, .bool x.lo, .bool x.ho, .bool x.nh, .bool b]

theorem Bx.put {w : World} {b : Nat} {A : Array Value} (h : Bx w b A) (k : Nat) (v : Value) : Bx (w.setCell ⟨b, k, none⟩ v) b (A.setIfInBounds k v) := by
  obtain ⟨t, h⟩ := h
  refine ⟨t, ?_⟩
  rw [heap_setCell_same w b _ _ _ _ h]

theorem Bx.free {w : World} {b : Nat} {A : Array Value} (h : Bx w b A) (k : Nat) : w.frozen? ⟨b, k, none⟩ = false := by
  obtain ⟨t, h⟩ := h
  exact frozen_of_row w b k _ _ h

theorem Bx.far {w : World} {b : Nat} {A : Array Value} (h : Bx w b A) {p : Addr} (hp : b ≠ p.block) (v : Value) : Bx (w.setCell p v) b A := by
  obtain ⟨t, h⟩ := h
  exact ⟨t, (heap_setCell_other w p b v hp).trans h⟩

/-- What the choices' functions leave: the block b holds A. -/
def ChR (w : World) (b : Nat) (A : Array Value) (e : Ending) (w' : World) : Prop := e = .returned (.tuple #[]) ∧ w.grownBy w' (some b) ∧ Bx w' b A

/-- How two ratios stand: 0 if one of them is not valid. -/
def cmK (n d m c : Int) : Int := if vldB n d && vldB m c then sgn (n * c) (m * d) else 0

def moL (x : Dl) (n d : Int) (o : Bool) : Dl := if x.nh || decide (cmK n d x.hn x.hd < 0) then { x with hn := n, hd := d, ho := o, nh := false } else if cmK n d x.hn x.hd = 0 then { x with ho := x.ho || o } else x

def leL (x : Dl) (n d : Int) (o : Bool) : Dl := if 0 < cmK n d x.ln x.ld then { x with ln := n, ld := d, lo := o } else if cmK n d x.ln x.ld = 0 then { x with lo := x.lo || o } else x

/-- From Below to what only the block c may differ in. -/
theorem grown_of {w w' : World} {c : Nat} (hb : Below w.heap.size w w') : w.grownBy w' (some c) := ⟨hb.os, hb.tape, hb.output, hb.size, fun k hk _ => hb.block k hk⟩

set_option maxRecDepth 100000 in
set_option maxHeartbeats 2000000 in
theorem most_any (x : Dl) (n d : Int) (o bd : Bool) (c : Nat) (w : World) (hn : I64 n) (hd : I64 d) (hx : x.Ok) (hc : Bx w c (chC x bd)) :
    Calls Tryz.prog 69 #[.pointer (some ⟨c, 0, none⟩), .agg #[.int .i64 n, .int .i64 d], .bool o] w (ChR w c (chC (moL x n d o) bd)) := by
  have CM := Lib.hid (fun W => refCmp_any n d x.hn x.hd W hn hd hx.2.2.1 hx.2.2.2)
  obtain ⟨w0, hw0⟩ : ∃ w0, w0 = w.alloc (.cells #[.int .i64 n, .int .i64 d] 32) := ⟨_, rfl⟩
  have PB := Lib.hid (show Pair w0 w.heap.size n d by rw [hw0]; exact Pair.made _ _ _ _)
  have BC := Lib.hid (show Bx w0 c (chC x bd) by rw [hw0]; exact hc.kept (one_more _))
  have B0 := Lib.hid (show Below w.heap.size w w0 by rw [hw0]; exact one_more _)
  have HLT := hc.lt
  obtain ⟨k, hk⟩ : ∃ k, k = cmK n d x.hn x.hd := ⟨_, rfl⟩
  have HK := Lib.hid hk
  obtain ⟨er, her⟩ : ∃ er : Int, er = (if (vldB n d && vldB x.hn x.hd) then 0 else 2) := ⟨_, rfl⟩
  have CM2 := Lib.hid (show ∀ W, Calls Tryz.prog 71 #[.agg #[.int .i64 n, .int .i64 d], .agg #[.int .i64 x.hn, .int .i64 x.hd]] W (Made (.tuple #[.int .i64 k, .int .i64 er]) W) from fun W => by rw [hk, her]; exact CM.out W)
  clear CM hk her hc
  go_enter Tryz.func69, Tryz.ntmps69
  go_upto_region 1 with (fail)
  rw [← hw0]
  clear hw0
  have KS := Lib.hid (show ∀ W, Below w0.heap.size w0 W → (W.cell? ⟨w.heap.size, 0, none⟩ = some (.int .i64 n) ∧ W.cell? ⟨w.heap.size, 1, none⟩ = some (.int .i64 d) ∧ W.cell? ⟨c, 2, none⟩ = some (.int .i64 x.hn) ∧ W.cell? ⟨c, 3, none⟩ = some (.int .i64 x.hd)) from fun W h => ⟨((PB.out.kept h).facts).1, ((PB.out.kept h).facts).2.1, (BC.out.kept h).cell 2, (BC.out.kept h).cell 3⟩)
  obtain ⟨wc, hwc⟩ : ∃ wc, wc = w0.drew := ⟨_, rfl⟩
  have Bc := Lib.hid (show Below w0.heap.size w0 wc by rw [hwc]; exact (Below.refl _ _).drew)
  refine wp_region_held_drew (S := (fun W => (W.cell? ⟨w.heap.size, 0, none⟩ = some (.int .i64 n) ∧ W.cell? ⟨w.heap.size, 1, none⟩ = some (.int .i64 d) ∧ W.cell? ⟨c, 2, none⟩ = some (.int .i64 x.hn) ∧ W.cell? ⟨c, 3, none⟩ = some (.int .i64 x.hd)))) (by kernel_rfl) (by rw [← hwc]; exact KS.out _ Bc.out) (fun h0 => ?_)
  rw [← hwc] at h0 ⊢
  clear hwc
  refine wpAnyH_take (i := 0) (v := ?v1) rfl (by kernel_rfl) (by kernel_rfl) (by kernel_rfl) (fun _ _ _ h => h) (Or.inl ⟨by rfl, ?hy1⟩) h0 ?rest1
  case hy1 => (intro w' hS; (try dsimp only at hS); go_simp; try (with_reducible rfl))
  simp only [Act.put, List.getElem_toArray, List.getElem_cons_zero, List.setIfInBounds_toArray, List.set_cons_zero, List.set_cons_succ]
  refine wpAnyH_take (i := 1) (v := ?v2) rfl (by kernel_rfl) (by kernel_rfl) (by kernel_rfl) (fun _ _ _ h => h) (Or.inl ⟨by rfl, ?hy2⟩) h0 ?rest2
  case hy2 => (intro w' hS; (try dsimp only at hS); go_simp; try (with_reducible rfl))
  simp only [Act.put, List.getElem_toArray, List.getElem_cons_zero, List.getElem_cons_succ, List.setIfInBounds_toArray, List.set_cons_zero, List.set_cons_succ]
  refine wpAnyH_take (i := 2) (v := ?v3) rfl (by kernel_rfl) (by kernel_rfl) (by kernel_rfl) (fun _ _ _ h => h) (Or.inl ⟨by rfl, ?hy3⟩) h0 ?rest3
  case hy3 => (intro w' hS; (try dsimp only at hS); go_simp; try (with_reducible rfl))
  simp only [Act.put, List.getElem_toArray, List.getElem_cons_zero, List.getElem_cons_succ, List.setIfInBounds_toArray, List.set_cons_zero, List.set_cons_succ]
  refine wpAnyH_take (i := 3) (v := ?v4) rfl (by kernel_rfl) (by kernel_rfl) (by kernel_rfl) (fun _ _ _ h => h) (Or.inl ⟨by rfl, ?hy4⟩) h0 ?rest4
  case hy4 => (intro w' hS; (try dsimp only at hS); go_simp; try (with_reducible rfl))
  simp only [Act.put, List.getElem_toArray, List.getElem_cons_zero, List.getElem_cons_succ, List.setIfInBounds_toArray, List.set_cons_zero, List.set_cons_succ]
  refine wpAnyH_take (i := 4) (v := ?v5) rfl (by kernel_rfl) (by kernel_rfl) (by kernel_rfl) (fun _ _ _ h => h) (Or.inl ⟨by rfl, ?hy5⟩) h0 ?rest5
  case hy5 => (intro w' hS; (try dsimp only at hS); go_simp; try (with_reducible rfl))
  simp only [Act.put, List.getElem_toArray, List.getElem_cons_zero, List.getElem_cons_succ, List.setIfInBounds_toArray, List.set_cons_zero, List.set_cons_succ]
  refine wpAnyH_take (i := 5) (v := ?v6) rfl (by kernel_rfl) (by kernel_rfl) (by kernel_rfl) (fun _ _ _ h => h) (Or.inl ⟨by rfl, ?hy6⟩) h0 ?rest6
  case hy6 => (intro w' hS; (try dsimp only at hS); go_simp; try (with_reducible rfl))
  simp only [Act.put, List.getElem_toArray, List.getElem_cons_zero, List.getElem_cons_succ, List.setIfInBounds_toArray, List.set_cons_zero, List.set_cons_succ]
  refine wpAnyH_ready (rs := [6]) (by kernel_rfl) (by simp) (AllReadyH.cons rfl (fun K hK => ?_) AllReadyH.nil)
  rw [if_pos (by rfl)]
  go_simp
  refine (CM2.out _).mono ?_
  rintro e wc ⟨rfl, hb⟩
  have Bc := Lib.hid (below_on Bc.out hb)
  clear hb
  go_simp
  refine hK.out _ _ (KS.out _ Bc.out) (fun h0_1 => ?_)
  clear hK K h0
  refine wpAnyH_take (i := 7) (v := ?v7) rfl (by kernel_rfl) (by kernel_rfl) (by kernel_rfl) (fun _ _ _ h => h) (Or.inl ⟨by rfl, ?hy7⟩) h0_1 ?rest7
  case hy7 => (intro w' hS; (try dsimp only at hS); go_simp; try (with_reducible rfl))
  simp only [Act.put, List.getElem_toArray, List.getElem_cons_zero, List.getElem_cons_succ, List.setIfInBounds_toArray, List.set_cons_zero, List.set_cons_succ]
  refine wpAnyH_take (i := 8) (v := ?v8) rfl (by kernel_rfl) (by kernel_rfl) (by kernel_rfl) (fun _ _ _ h => h) (Or.inl ⟨by rfl, ?hy8⟩) h0_1 ?rest8
  case hy8 => (intro w' hS; (try dsimp only at hS); go_simp; try (with_reducible rfl))
  simp only [Act.put, List.getElem_toArray, List.getElem_cons_zero, List.getElem_cons_succ, List.setIfInBounds_toArray, List.set_cons_zero, List.set_cons_succ]
  refine wpAnyH_take (i := 9) (v := ?v9) rfl (by kernel_rfl) (by kernel_rfl) (by kernel_rfl) (fun _ _ _ h => h) (Or.inl ⟨by rfl, ?hy9⟩) h0_1 ?rest9
  case hy9 => (intro w' hS; (try dsimp only at hS); go_simp; try (with_reducible rfl))
  simp only [Act.put, List.getElem_toArray, List.getElem_cons_zero, List.getElem_cons_succ, List.setIfInBounds_toArray, List.set_cons_zero, List.set_cons_succ]
  refine wpAnyH_take (i := 10) (v := ?v10) rfl (by kernel_rfl) (by kernel_rfl) (by kernel_rfl) (fun _ _ _ h => h) (Or.inl ⟨by rfl, ?hy10⟩) h0_1 ?rest10
  case hy10 => (intro w' hS; (try dsimp only at hS); go_simp; try (with_reducible rfl))
  simp only [Act.put, List.getElem_toArray, List.getElem_cons_zero, List.getElem_cons_succ, List.setIfInBounds_toArray, List.set_cons_zero, List.set_cons_succ]
  refine wpAnyH_take (i := 11) (v := ?v11) rfl (by kernel_rfl) (by kernel_rfl) (by kernel_rfl) (fun _ _ _ h => h) (Or.inl ⟨by rfl, ?hy11⟩) h0_1 ?rest11
  case hy11 => (intro w' hS; (try dsimp only at hS); go_simp; try (with_reducible rfl))
  simp only [Act.put, List.getElem_toArray, List.getElem_cons_zero, List.getElem_cons_succ, List.setIfInBounds_toArray]
  refine wpAnyH_done (by kernel_rfl) ?_ _
  clear KS CM2
  have PW := Lib.hid (PB.out.kept Bc.out)
  have BW := Lib.hid (BC.out.kept Bc.out)
  have Q0 := Lib.hid (below_on B0.out Bc.out)
  obtain ⟨p0, p1, _, _⟩ := PW.out.facts
  have c0 := BW.out.cell 0
  have z0 := BW.out.free 0
  have c1 := BW.out.cell 1
  have z1 := BW.out.free 1
  have c2 := BW.out.cell 2
  have z2 := BW.out.free 2
  have c3 := BW.out.cell 3
  have z3 := BW.out.free 3
  have c4 := BW.out.cell 4
  have z4 := BW.out.free 4
  have c5 := BW.out.cell 5
  have z5 := BW.out.free 5
  have c6 := BW.out.cell 6
  have z6 := BW.out.free 6
  have c7 := BW.out.cell 7
  have z7 := BW.out.free 7
  simp [chC] at c0 c1 c2 c3 c4 c5 c6 c7
  cases hnh : x.nh
  · rw [hnh] at c6
    by_cases h1 : k < 0
    · have K1 : decide (k < 0) = true := decide_eq_true h1
      have HRE := Lib.hid (show moL x n d o = { x with hn := n, hd := d, ho := o, nh := false } from by unfold moL; rw [← HK.out, hnh, K1]; rfl)
      have HBX := Lib.hid (show Bx _ c (chC (moL x n d o) bd) from by rw [HRE.out]; exact ((((BW.out.put 2 (.int .i64 n)).put 3 (.int .i64 d)).put 5 (.bool o)).put 6 (.bool false)))
      have HGR := Lib.hid (grown_trans (grown_trans (grown_trans (grown_trans (grown_of (c := c) Q0.out) (grown_put wc c 2 (.int .i64 n))) (grown_put (wc.setCell ⟨c, 2, none⟩ (.int .i64 n)) c 3 (.int .i64 d))) (grown_put ((wc.setCell ⟨c, 2, none⟩ (.int .i64 n)).setCell ⟨c, 3, none⟩ (.int .i64 d)) c 5 (.bool o))) (grown_put (((wc.setCell ⟨c, 2, none⟩ (.int .i64 n)).setCell ⟨c, 3, none⟩ (.int .i64 d)).setCell ⟨c, 5, none⟩ (.bool o)) c 6 (.bool false)))
      go_wp2_with fail
      go_end0
      exact ⟨rfl, HGR.out, HBX.out⟩
    · have K1 : decide (k < 0) = false := decide_eq_false h1
      by_cases h2 : k = 0
      · have K2 : (k == 0) = true := by simp [h2]
        cases hho : x.ho
        · rw [hho] at c5
          have HRE := Lib.hid (show moL x n d o = { x with ho := x.ho || o } from by unfold moL; rw [← HK.out, hnh, K1, if_neg (by decide), if_pos h2])
          have HBX := Lib.hid (show Bx _ c (chC (moL x n d o) bd) from by rw [HRE.out, hho]; exact (BW.out.put 5 (.bool o)))
          have HGR := Lib.hid (grown_trans (grown_of (c := c) Q0.out) (grown_put wc c 5 (.bool o)))
          go_wp2_with fail
          go_end0
          exact ⟨rfl, HGR.out, HBX.out⟩
        · rw [hho] at c5
          have HRE := Lib.hid (show moL x n d o = { x with ho := x.ho || o } from by unfold moL; rw [← HK.out, hnh, K1, if_neg (by decide), if_pos h2])
          have HBX := Lib.hid (show Bx _ c (chC (moL x n d o) bd) from by rw [HRE.out, hho]; exact (BW.out.put 5 (.bool true)))
          have HGR := Lib.hid (grown_trans (grown_of (c := c) Q0.out) (grown_put wc c 5 (.bool true)))
          go_wp2_with fail
          go_end0
          exact ⟨rfl, HGR.out, HBX.out⟩
      · have K2 : (k == 0) = false := by simp [h2]
        have HRE := Lib.hid (show moL x n d o = x from by unfold moL; rw [← HK.out, hnh, K1, if_neg (by decide), if_neg h2])
        have HBX := Lib.hid (show Bx _ c (chC (moL x n d o) bd) from by rw [HRE.out]; exact BW.out)
        have HGR := Lib.hid (grown_of (c := c) Q0.out)
        go_wp2_with fail
        go_end0
        exact ⟨rfl, HGR.out, HBX.out⟩
  · rw [hnh] at c6
    have HRE := Lib.hid (show moL x n d o = { x with hn := n, hd := d, ho := o, nh := false } from by unfold moL; rw [hnh]; rfl)
    have HBX := Lib.hid (show Bx _ c (chC (moL x n d o) bd) from by rw [HRE.out]; exact ((((BW.out.put 2 (.int .i64 n)).put 3 (.int .i64 d)).put 5 (.bool o)).put 6 (.bool false)))
    have HGR := Lib.hid (grown_trans (grown_trans (grown_trans (grown_trans (grown_of (c := c) Q0.out) (grown_put wc c 2 (.int .i64 n))) (grown_put (wc.setCell ⟨c, 2, none⟩ (.int .i64 n)) c 3 (.int .i64 d))) (grown_put ((wc.setCell ⟨c, 2, none⟩ (.int .i64 n)).setCell ⟨c, 3, none⟩ (.int .i64 d)) c 5 (.bool o))) (grown_put (((wc.setCell ⟨c, 2, none⟩ (.int .i64 n)).setCell ⟨c, 3, none⟩ (.int .i64 d)).setCell ⟨c, 5, none⟩ (.bool o)) c 6 (.bool false)))
    go_wp2_with fail
    go_end0
    exact ⟨rfl, HGR.out, HBX.out⟩

set_option maxRecDepth 100000 in
set_option maxHeartbeats 2000000 in
theorem least_any (x : Dl) (n d : Int) (o bd : Bool) (c : Nat) (w : World) (hn : I64 n) (hd : I64 d) (hx : x.Ok) (hc : Bx w c (chC x bd)) :
    Calls Tryz.prog 70 #[.pointer (some ⟨c, 0, none⟩), .agg #[.int .i64 n, .int .i64 d], .bool o] w (ChR w c (chC (leL x n d o) bd)) := by
  have CM := Lib.hid (fun W => refCmp_any n d x.ln x.ld W hn hd hx.1 hx.2.1)
  obtain ⟨w0, hw0⟩ : ∃ w0, w0 = w.alloc (.cells #[.int .i64 n, .int .i64 d] 32) := ⟨_, rfl⟩
  have PB := Lib.hid (show Pair w0 w.heap.size n d by rw [hw0]; exact Pair.made _ _ _ _)
  have BC := Lib.hid (show Bx w0 c (chC x bd) by rw [hw0]; exact hc.kept (one_more _))
  have B0 := Lib.hid (show Below w.heap.size w w0 by rw [hw0]; exact one_more _)
  have HLT := hc.lt
  obtain ⟨k, hk⟩ : ∃ k, k = cmK n d x.ln x.ld := ⟨_, rfl⟩
  have HK := Lib.hid hk
  obtain ⟨er, her⟩ : ∃ er : Int, er = (if (vldB n d && vldB x.ln x.ld) then 0 else 2) := ⟨_, rfl⟩
  have CM2 := Lib.hid (show ∀ W, Calls Tryz.prog 71 #[.agg #[.int .i64 n, .int .i64 d], .agg #[.int .i64 x.ln, .int .i64 x.ld]] W (Made (.tuple #[.int .i64 k, .int .i64 er]) W) from fun W => by rw [hk, her]; exact CM.out W)
  clear CM hk her hc
  go_enter Tryz.func70, Tryz.ntmps70
  go_upto_region 1 with (fail)
  rw [← hw0]
  clear hw0
  have KS := Lib.hid (show ∀ W, Below w0.heap.size w0 W → (W.cell? ⟨w.heap.size, 0, none⟩ = some (.int .i64 n) ∧ W.cell? ⟨w.heap.size, 1, none⟩ = some (.int .i64 d) ∧ W.cell? ⟨c, 0, none⟩ = some (.int .i64 x.ln) ∧ W.cell? ⟨c, 1, none⟩ = some (.int .i64 x.ld)) from fun W h => ⟨((PB.out.kept h).facts).1, ((PB.out.kept h).facts).2.1, (BC.out.kept h).cell 0, (BC.out.kept h).cell 1⟩)
  obtain ⟨wc, hwc⟩ : ∃ wc, wc = w0.drew := ⟨_, rfl⟩
  have Bc := Lib.hid (show Below w0.heap.size w0 wc by rw [hwc]; exact (Below.refl _ _).drew)
  refine wp_region_held_drew (S := (fun W => (W.cell? ⟨w.heap.size, 0, none⟩ = some (.int .i64 n) ∧ W.cell? ⟨w.heap.size, 1, none⟩ = some (.int .i64 d) ∧ W.cell? ⟨c, 0, none⟩ = some (.int .i64 x.ln) ∧ W.cell? ⟨c, 1, none⟩ = some (.int .i64 x.ld)))) (by kernel_rfl) (by rw [← hwc]; exact KS.out _ Bc.out) (fun h0 => ?_)
  rw [← hwc] at h0 ⊢
  clear hwc
  refine wpAnyH_take (i := 0) (v := ?v12) rfl (by kernel_rfl) (by kernel_rfl) (by kernel_rfl) (fun _ _ _ h => h) (Or.inl ⟨by rfl, ?hy12⟩) h0 ?rest12
  case hy12 => (intro w' hS; (try dsimp only at hS); go_simp; try (with_reducible rfl))
  simp only [Act.put, List.getElem_toArray, List.getElem_cons_zero, List.setIfInBounds_toArray, List.set_cons_zero, List.set_cons_succ]
  refine wpAnyH_take (i := 1) (v := ?v13) rfl (by kernel_rfl) (by kernel_rfl) (by kernel_rfl) (fun _ _ _ h => h) (Or.inl ⟨by rfl, ?hy13⟩) h0 ?rest13
  case hy13 => (intro w' hS; (try dsimp only at hS); go_simp; try (with_reducible rfl))
  simp only [Act.put, List.getElem_toArray, List.getElem_cons_zero, List.getElem_cons_succ, List.setIfInBounds_toArray, List.set_cons_zero, List.set_cons_succ]
  refine wpAnyH_take (i := 2) (v := ?v14) rfl (by kernel_rfl) (by kernel_rfl) (by kernel_rfl) (fun _ _ _ h => h) (Or.inl ⟨by rfl, ?hy14⟩) h0 ?rest14
  case hy14 => (intro w' hS; (try dsimp only at hS); go_simp; try (with_reducible rfl))
  simp only [Act.put, List.getElem_toArray, List.getElem_cons_zero, List.getElem_cons_succ, List.setIfInBounds_toArray, List.set_cons_zero, List.set_cons_succ]
  refine wpAnyH_take (i := 3) (v := ?v15) rfl (by kernel_rfl) (by kernel_rfl) (by kernel_rfl) (fun _ _ _ h => h) (Or.inl ⟨by rfl, ?hy15⟩) h0 ?rest15
  case hy15 => (intro w' hS; (try dsimp only at hS); go_simp; try (with_reducible rfl))
  simp only [Act.put, List.getElem_toArray, List.getElem_cons_zero, List.getElem_cons_succ, List.setIfInBounds_toArray, List.set_cons_zero, List.set_cons_succ]
  refine wpAnyH_take (i := 4) (v := ?v16) rfl (by kernel_rfl) (by kernel_rfl) (by kernel_rfl) (fun _ _ _ h => h) (Or.inl ⟨by rfl, ?hy16⟩) h0 ?rest16
  case hy16 => (intro w' hS; (try dsimp only at hS); go_simp; try (with_reducible rfl))
  simp only [Act.put, List.getElem_toArray, List.getElem_cons_zero, List.getElem_cons_succ, List.setIfInBounds_toArray, List.set_cons_zero, List.set_cons_succ]
  refine wpAnyH_take (i := 5) (v := ?v17) rfl (by kernel_rfl) (by kernel_rfl) (by kernel_rfl) (fun _ _ _ h => h) (Or.inl ⟨by rfl, ?hy17⟩) h0 ?rest17
  case hy17 => (intro w' hS; (try dsimp only at hS); go_simp; try (with_reducible rfl))
  simp only [Act.put, List.getElem_toArray, List.getElem_cons_zero, List.getElem_cons_succ, List.setIfInBounds_toArray, List.set_cons_zero, List.set_cons_succ]
  refine wpAnyH_ready (rs := [6]) (by kernel_rfl) (by simp) (AllReadyH.cons rfl (fun K hK => ?_) AllReadyH.nil)
  rw [if_pos (by rfl)]
  go_simp
  refine (CM2.out _).mono ?_
  rintro e wc ⟨rfl, hb⟩
  have Bc := Lib.hid (below_on Bc.out hb)
  clear hb
  go_simp
  refine hK.out _ _ (KS.out _ Bc.out) (fun h0_1 => ?_)
  clear hK K h0
  refine wpAnyH_take (i := 7) (v := ?v18) rfl (by kernel_rfl) (by kernel_rfl) (by kernel_rfl) (fun _ _ _ h => h) (Or.inl ⟨by rfl, ?hy18⟩) h0_1 ?rest18
  case hy18 => (intro w' hS; (try dsimp only at hS); go_simp; try (with_reducible rfl))
  simp only [Act.put, List.getElem_toArray, List.getElem_cons_zero, List.getElem_cons_succ, List.setIfInBounds_toArray, List.set_cons_zero, List.set_cons_succ]
  refine wpAnyH_take (i := 8) (v := ?v19) rfl (by kernel_rfl) (by kernel_rfl) (by kernel_rfl) (fun _ _ _ h => h) (Or.inl ⟨by rfl, ?hy19⟩) h0_1 ?rest19
  case hy19 => (intro w' hS; (try dsimp only at hS); go_simp; try (with_reducible rfl))
  simp only [Act.put, List.getElem_toArray, List.getElem_cons_zero, List.getElem_cons_succ, List.setIfInBounds_toArray, List.set_cons_zero, List.set_cons_succ]
  refine wpAnyH_take (i := 9) (v := ?v20) rfl (by kernel_rfl) (by kernel_rfl) (by kernel_rfl) (fun _ _ _ h => h) (Or.inl ⟨by rfl, ?hy20⟩) h0_1 ?rest20
  case hy20 => (intro w' hS; (try dsimp only at hS); go_simp; try (with_reducible rfl))
  simp only [Act.put, List.getElem_toArray, List.getElem_cons_zero, List.getElem_cons_succ, List.setIfInBounds_toArray, List.set_cons_zero, List.set_cons_succ]
  refine wpAnyH_take (i := 10) (v := ?v21) rfl (by kernel_rfl) (by kernel_rfl) (by kernel_rfl) (fun _ _ _ h => h) (Or.inl ⟨by rfl, ?hy21⟩) h0_1 ?rest21
  case hy21 => (intro w' hS; (try dsimp only at hS); go_simp; try (with_reducible rfl))
  simp only [Act.put, List.getElem_toArray, List.getElem_cons_zero, List.getElem_cons_succ, List.setIfInBounds_toArray, List.set_cons_zero, List.set_cons_succ]
  refine wpAnyH_take (i := 11) (v := ?v22) rfl (by kernel_rfl) (by kernel_rfl) (by kernel_rfl) (fun _ _ _ h => h) (Or.inl ⟨by rfl, ?hy22⟩) h0_1 ?rest22
  case hy22 => (intro w' hS; (try dsimp only at hS); go_simp; try (with_reducible rfl))
  simp only [Act.put, List.getElem_toArray, List.getElem_cons_zero, List.getElem_cons_succ, List.setIfInBounds_toArray]
  refine wpAnyH_done (by kernel_rfl) ?_ _
  clear KS CM2
  have PW := Lib.hid (PB.out.kept Bc.out)
  have BW := Lib.hid (BC.out.kept Bc.out)
  have Q0 := Lib.hid (below_on B0.out Bc.out)
  obtain ⟨p0, p1, _, _⟩ := PW.out.facts
  have c0 := BW.out.cell 0
  have z0 := BW.out.free 0
  have c1 := BW.out.cell 1
  have z1 := BW.out.free 1
  have c2 := BW.out.cell 2
  have z2 := BW.out.free 2
  have c3 := BW.out.cell 3
  have z3 := BW.out.free 3
  have c4 := BW.out.cell 4
  have z4 := BW.out.free 4
  have c5 := BW.out.cell 5
  have z5 := BW.out.free 5
  have c6 := BW.out.cell 6
  have z6 := BW.out.free 6
  have c7 := BW.out.cell 7
  have z7 := BW.out.free 7
  simp [chC] at c0 c1 c2 c3 c4 c5 c6 c7
  by_cases h1 : 0 < k
  · have K1 : decide (0 < k) = true := decide_eq_true h1
    have HRE := Lib.hid (show leL x n d o = { x with ln := n, ld := d, lo := o } from by unfold leL; rw [← HK.out, if_pos h1])
    have HBX := Lib.hid (show Bx _ c (chC (leL x n d o) bd) from by rw [HRE.out]; exact (((BW.out.put 0 (.int .i64 n)).put 1 (.int .i64 d)).put 4 (.bool o)))
    have HGR := Lib.hid (grown_trans (grown_trans (grown_trans (grown_of (c := c) Q0.out) (grown_put wc c 0 (.int .i64 n))) (grown_put (wc.setCell ⟨c, 0, none⟩ (.int .i64 n)) c 1 (.int .i64 d))) (grown_put ((wc.setCell ⟨c, 0, none⟩ (.int .i64 n)).setCell ⟨c, 1, none⟩ (.int .i64 d)) c 4 (.bool o)))
    go_wp2_with fail
    go_end0
    exact ⟨rfl, HGR.out, HBX.out⟩
  · have K1 : decide (0 < k) = false := decide_eq_false h1
    by_cases h2 : k = 0
    · have K2 : (k == 0) = true := by simp [h2]
      cases hlo : x.lo
      · rw [hlo] at c4
        have HRE := Lib.hid (show leL x n d o = { x with lo := x.lo || o } from by unfold leL; rw [← HK.out, if_neg h1, if_pos h2])
        have HBX := Lib.hid (show Bx _ c (chC (leL x n d o) bd) from by rw [HRE.out, hlo]; exact (BW.out.put 4 (.bool o)))
        have HGR := Lib.hid (grown_trans (grown_of (c := c) Q0.out) (grown_put wc c 4 (.bool o)))
        go_wp2_with fail
        go_end0
        exact ⟨rfl, HGR.out, HBX.out⟩
      · rw [hlo] at c4
        have HRE := Lib.hid (show leL x n d o = { x with lo := x.lo || o } from by unfold leL; rw [← HK.out, if_neg h1, if_pos h2])
        have HBX := Lib.hid (show Bx _ c (chC (leL x n d o) bd) from by rw [HRE.out, hlo]; exact (BW.out.put 4 (.bool true)))
        have HGR := Lib.hid (grown_trans (grown_of (c := c) Q0.out) (grown_put wc c 4 (.bool true)))
        go_wp2_with fail
        go_end0
        exact ⟨rfl, HGR.out, HBX.out⟩
    · have K2 : (k == 0) = false := by simp [h2]
      have HRE := Lib.hid (show leL x n d o = x from by unfold leL; rw [← HK.out, if_neg h1, if_neg h2])
      have HBX := Lib.hid (show Bx _ c (chC (leL x n d o) bd) from by rw [HRE.out]; exact BW.out)
      have HGR := Lib.hid (grown_of (c := c) Q0.out)
      go_wp2_with fail
      go_end0
      exact ⟨rfl, HGR.out, HBX.out⟩
end Go.Proofs.YtbnebinpemejlaaGreat

namespace Go.Proofs.YtbnebinpemejlaaGreat
open Go.RowKit

def Dl.one : Dl := ⟨0, 1, 0, 0, false, false, true⟩

set_option maxHeartbeats 1600000 in
theorem fromzero_any (w : World) : Calls Tryz.prog 27 #[] w (Made (.agg Dl.one.cs) w) := by
  obtain ⟨w0, hw0⟩ : ∃ w0, w0 = w.alloc (.cells Dl.zero.cs 34) := ⟨_, rfl⟩
  have DR := Lib.hid (show Dbx w0 w.heap.size Dl.zero by rw [hw0]; exact Drow.made _ _)
  have E0 := Lib.hid (show Below w.heap.size w w0 by rw [hw0]; exact one_more _)
  simp only [Dl.cs, Dl.zero] at hw0
  have HW0 := Lib.hid hw0
  clear hw0
  simp only [Dl.cs, Dl.one]
  go_enter Tryz.func27, Tryz.ntmps27
  go_upto_region 1 with (fail)
  rw [← HW0.out]
  go_wp2_with fail
  refine (qzero_any _).mono ?_
  rintro e w1 ⟨rfl, hb1⟩
  have B1 := Lib.hid (below_on E0.out hb1)
  obtain ⟨r0, r1, r2, r3, r4, r5, r6⟩ := (DR.out.kept hb1).facts
  obtain ⟨f0, f1, f2, f3, f4, f5, f6⟩ := (DR.out.kept hb1).frees
  clear hb1
  go_wp2_with fail
  refine bodyPost_ret (v := .agg #[.int .i64 0, .int .i64 1, .int .i64 0, .int .i64 0, .bool false, .bool false, .bool true]) (by simp [results, Tryz.results27, go_sem, r0, r1, r2, r3, r4, r5, r6]) rfl ⟨rfl, ?_⟩
  exact below_seven B1.out (Nat.le_refl _) _ _ _ _ _ _ _

/-- Is nothing left? -/
def Dl.empty (x : Dl) : Bool := !x.nh && lsB x.hn x.hd x.ln x.ld (x.lo || x.ho)

set_option maxRecDepth 100000 in
set_option maxHeartbeats 1600000 in
theorem isempty_any (x : Dl) (w : World) (hx : x.Ok) : Calls Tryz.prog 31 #[.agg x.cs] w (Made (.bool x.empty) w) := by
  have BL := Lib.hid (fun q W => isbelow_any x.hn x.hd x.ln x.ld q W hx.2.2.1 hx.2.2.2 hx.1 hx.2.1)
  obtain ⟨w0, hw0⟩ : ∃ w0, w0 = w.alloc (.cells x.cs 34) := ⟨_, rfl⟩
  have DX := Lib.hid (show Dbx w0 w.heap.size x by rw [hw0]; exact Drow.made _ _)
  have E0 := Lib.hid (show Below w.heap.size w w0 by rw [hw0]; exact one_more _)
  simp only [Dl.cs] at hw0
  have HW0 := Lib.hid hw0
  clear hw0 hx
  obtain ⟨xln, xld, xhn, xhd, xlo, xho, xnh⟩ := x
  simp only at HW0 BL
  simp only [Dl.cs]
  have HE := Lib.hid (show Dl.empty ⟨xln, xld, xhn, xhd, xlo, xho, xnh⟩ = (!xnh && lsB xhn xhd xln xld (xlo || xho)) from rfl)
  generalize Dl.empty ⟨xln, xld, xhn, xhd, xlo, xho, xnh⟩ = r at *
  obtain ⟨q0, q1, q2, q3, q4, q5, q6⟩ := DX.out.facts
  simp only at q0 q1 q2 q3 q4 q5 q6
  cases xnh
  case true =>
    have HF := Lib.hid (show r = false from HE.out)
    go_enter Tryz.func31, Tryz.ntmps31
    go_upto_region 1 with (fail)
    rw [← HW0.out]
    go_wp2_with fail
    go_ret
    exact ⟨ret_bool HF.out.symm, E0.out⟩
  case false =>
    cases xlo
    case true =>
      have HF := Lib.hid (show r = lsB xhn xhd xln xld true from HE.out)
      have BL2 := Lib.hid (fun W => BL.out true W)
      generalize lsB xhn xhd xln xld true = s at *
      go_enter Tryz.func31, Tryz.ntmps31
      go_upto_region 1 with (fail)
      rw [← HW0.out]
      go_wp2_with fail
      refine (BL2.out _).mono ?_
      rintro e w1 ⟨rfl, hb1⟩
      have B1 := Lib.hid (below_on E0.out hb1)
      clear hb1 q0 q1 q2 q3 q4 q5 q6
      go_wp2_with fail
      go_ret
      exact ⟨ret_bool HF.out.symm, B1.out⟩
    case false =>
      have HF := Lib.hid (show r = lsB xhn xhd xln xld xho from HE.out)
      have BL2 := Lib.hid (fun W => BL.out xho W)
      generalize lsB xhn xhd xln xld xho = s at *
      go_enter Tryz.func31, Tryz.ntmps31
      go_upto_region 1 with (fail)
      rw [← HW0.out]
      go_wp2_with fail
      refine (BL2.out _).mono ?_
      rintro e w1 ⟨rfl, hb1⟩
      have B1 := Lib.hid (below_on E0.out hb1)
      clear hb1 q0 q1 q2 q3 q4 q5 q6
      go_wp2_with fail
      go_ret
      exact ⟨ret_bool HF.out.symm, B1.out⟩
end Go.Proofs.YtbnebinpemejlaaGreat

namespace Go.Proofs.YtbnebinpemejlaaGreat
open Go.RowKit

/-- By an upper bound, and by a lower one; and whether a number was out of range. -/
def bwX (x : Dl) (n d u : Int) : Dl := if spE u = 0 then (if shE n d (spC u) = 0 then moL x (shN n d (spC u)) (shD n d (spC u)) (spS u) else x) else x

def bwB (b : Bool) (n d u : Int) : Bool := if spE u = 0 then (if shE n d (spC u) = 0 then b else true) else b

def abX (x : Dl) (n d u : Int) : Dl := if spE u = 0 then (if shE n d (-spC u) = 0 then leL x (shN n d (-spC u)) (shD n d (-spC u)) (spS u) else x) else x

def abB (b : Bool) (n d u : Int) : Bool := if spE u = 0 then (if shE n d (-spC u) = 0 then b else true) else b

theorem vld_one {c : Int} (h1 : -1073741824 ≤ c) (h2 : c ≤ 1073741824) : vldB c 1 = true := (mk_one (c := c) (by omega) (by omega)).2.2

theorem ChR.over {w w1 w' : World} {c : Nat} {A : Array Value} {e : Ending} (hb : Below w.heap.size w w1) (h : ChR w1 c A e w') : ChR w c A e w' := ⟨h.1, grown_trans (grown_of hb) h.2.1, h.2.2⟩

set_option maxRecDepth 100000 in
set_option maxHeartbeats 2000000 in
theorem below_any (x : Dl) (n d u : Int) (bd : Bool) (c : Nat) (w : World) (hn : I64 n) (hd : I64 d) (hu : I64 u) (hx : x.Ok) (hc : Bx w c (chC x bd)) :
    Calls Tryz.prog 34 #[.pointer (some ⟨c, 0, none⟩), .agg #[.int .i64 n, .int .i64 d], .int .i64 u] w (ChR w c (chC (bwX x n d u) (bwB bd n d u))) := by
  have SP := Lib.hid (fun W => refLimSplit_any u W hu)
  have bu := spC_bd u
  have AD := Lib.hid (show ∀ W, Calls Tryz.prog 42 #[.agg #[.int .i64 n, .int .i64 d], .agg #[.int .i64 (spC u), .int .i64 1]] W (Made (.tuple #[.agg #[.int .i64 (shN n d (spC u)), .int .i64 (shD n d (spC u))], .int .i64 (shE n d (spC u))]) W) from fun W => by
    have := refAdd_any n d (spC u) 1 W hn hd (by unfold I64; omega) (by unfold I64; omega)
    rw [vld_one bu.1 bu.2, Bool.and_true] at this
    unfold shN shD shE
    skip
    exact this)
  have MO := Lib.hid (fun W hb => most_any x (shN n d (spC u)) (shD n d (spC u)) (spS u) bd c W (opNum_64 _ _ _) (opDen_64 _ _ _) hx hb)
  have HX := Lib.hid (show bwX x n d u = if spE u = 0 then (if shE n d (spC u) = 0 then moL x (shN n d (spC u)) (shD n d (spC u)) (spS u) else x) else x from rfl)
  have HBB := Lib.hid (show bwB bd n d u = if spE u = 0 then (if shE n d (spC u) = 0 then bd else true) else bd from rfl)
  generalize moL x (shN n d (spC u)) (shD n d (spC u)) (spS u) = y at *
  generalize shN n d (spC u) = sn at *
  generalize shD n d (spC u) = sd at *
  generalize shE n d (spC u) = se at *
  generalize spC u = uc at *
  generalize spS u = us at *
  generalize spE u = ue at *
  generalize bwX x n d u = rx at *
  generalize bwB bd n d u = rb at *
  obtain ⟨w0, hw0⟩ : ∃ w0, w0 = w.alloc (.cells #[.int .i64 n, .int .i64 d] 32) := ⟨_, rfl⟩
  have PB := Lib.hid (show Pair w0 w.heap.size n d by rw [hw0]; exact Pair.made _ _ _ _)
  have BC := Lib.hid (show Bx w0 c (chC x bd) by rw [hw0]; exact hc.kept (one_more _))
  have B0 := Lib.hid (show Below w.heap.size w w0 by rw [hw0]; exact one_more _)
  clear hc bu hn hd hu
  by_cases h1 : ue = 0
  · have U1 : (ue == 0) = true := by simp [h1]
    have U2 : (ue != 0) = false := by simp [h1]
    by_cases h2 : se = 0
    · have S1 : (se == 0) = true := by simp [h2]
      have S2 : (se != 0) = false := by simp [h2]
      have HR := Lib.hid (show rx = y ∧ rb = bd by rw [HX.out, HBB.out, if_pos h1, if_pos h2, if_pos h1, if_pos h2]; exact ⟨rfl, rfl⟩)
      clear h1 h2
      go_enter Tryz.func34, Tryz.ntmps34
      go_upto_region 1 with (fail)
      rw [← hw0]
      clear hw0
      go_wp2_with fail
      refine (SP.out _).mono ?_
      rintro e w' ⟨rfl, hw'⟩
      rw [hw']; clear hw' w'
      obtain ⟨p0, p1, _, _⟩ := PB.out.facts
      go_wp2_with fail
      refine (AD.out _).mono ?_
      rintro e w2 ⟨rfl, hb⟩
      obtain ⟨w3, hw3⟩ : ∃ w3, w3 = w2.alloc (.cells #[.int .i64 sn, .int .i64 sd] 32) := ⟨_, rfl⟩
      have PS := Lib.hid (show Pair w3 w2.heap.size sn sd by rw [hw3]; exact Pair.made _ _ _ _)
      have B3 := Lib.hid (show Below w0.heap.size w0 w3 by rw [hw3]; exact hb.alloc hb.size _)
      clear hb p0 p1
      go_upto_region 4 with (fail)
      rw [← hw3]
      clear hw3
      obtain ⟨p0, p1, _, _⟩ := PS.out.facts
      go_wp2_with fail
      refine (MO.out _ (BC.out.kept B3.out)).mono ?_
      rintro e w4 hr
      have hr2 := ChR.over (below_on B0.out B3.out) hr
      obtain ⟨rfl, hg, hbx⟩ := hr2
      have HG := Lib.hid hg
      have HBX := Lib.hid hbx
      clear hr hg hbx p0 p1
      go_wp2_with fail
      go_end0
      exact ⟨rfl, HG.out, by rw [HR.out.1, HR.out.2]; exact HBX.out⟩
    · have S1 : (se == 0) = false := by simp [h2]
      have S2 : (se != 0) = true := by simp [h2]
      have HR := Lib.hid (show rx = x ∧ rb = true by rw [HX.out, HBB.out, if_pos h1, if_neg h2, if_pos h1, if_neg h2]; exact ⟨rfl, rfl⟩)
      clear h1 h2
      go_enter Tryz.func34, Tryz.ntmps34
      go_upto_region 1 with (fail)
      rw [← hw0]
      clear hw0
      go_wp2_with fail
      refine (SP.out _).mono ?_
      rintro e w' ⟨rfl, hw'⟩
      rw [hw']; clear hw' w'
      obtain ⟨p0, p1, _, _⟩ := PB.out.facts
      go_wp2_with fail
      refine (AD.out _).mono ?_
      rintro e w2 ⟨rfl, hb⟩
      obtain ⟨w3, hw3⟩ : ∃ w3, w3 = w2.alloc (.cells #[.int .i64 sn, .int .i64 sd] 32) := ⟨_, rfl⟩
      have B3 := Lib.hid (show Below w0.heap.size w0 w3 by rw [hw3]; exact hb.alloc hb.size _)
      clear hb p0 p1
      go_upto_region 4 with (fail)
      rw [← hw3]
      clear hw3
      have BW := Lib.hid (BC.out.kept B3.out)
      have c7 := BW.out.cell 7
      have z7 := BW.out.free 7
      simp [chC] at c7
      have HP := Lib.hid (BW.out.put 7 (.bool true))
      have HGR := Lib.hid (grown_trans (grown_of (c := c) (below_on B0.out B3.out)) (grown_put w3 c 7 (.bool true)))
      go_wp2_with fail
      go_end0
      exact ⟨rfl, HGR.out, by rw [HR.out.1, HR.out.2]; exact HP.out⟩
  · have U1 : (ue == 0) = false := by simp [h1]
    have U2 : (ue != 0) = true := by simp [h1]
    have HR := Lib.hid (show rx = x ∧ rb = bd by rw [HX.out, HBB.out, if_neg h1, if_neg h1]; exact ⟨rfl, rfl⟩)
    clear h1
    go_enter Tryz.func34, Tryz.ntmps34
    go_upto_region 1 with (fail)
    rw [← hw0]
    clear hw0
    go_wp2_with fail
    refine (SP.out _).mono ?_
    rintro e w' ⟨rfl, hw'⟩
    rw [hw']; clear hw' w'
    go_wp2_with fail
    go_end0
    exact ⟨rfl, grown_of B0.out, by rw [HR.out.1, HR.out.2]; exact BC.out⟩

set_option maxRecDepth 100000 in
set_option maxHeartbeats 2000000 in
theorem above_any (x : Dl) (n d u : Int) (bd : Bool) (c : Nat) (w : World) (hn : I64 n) (hd : I64 d) (hu : I64 u) (hx : x.Ok) (hc : Bx w c (chC x bd)) :
    Calls Tryz.prog 35 #[.pointer (some ⟨c, 0, none⟩), .agg #[.int .i64 n, .int .i64 d], .int .i64 u] w (ChR w c (chC (abX x n d u) (abB bd n d u))) := by
  have SP := Lib.hid (fun W => refLimSplit_any u W hu)
  have bu := spC_bd u
  have AD := Lib.hid (show ∀ W, Calls Tryz.prog 23 #[.agg #[.int .i64 n, .int .i64 d], .agg #[.int .i64 (spC u), .int .i64 1]] W (Made (.tuple #[.agg #[.int .i64 (shN n d (-spC u)), .int .i64 (shD n d (-spC u))], .int .i64 (shE n d (-spC u))]) W) from fun W => by
    have := refSub_any n d (spC u) 1 W hn hd (by unfold I64; omega) (by unfold I64; omega)
    rw [vld_one bu.1 bu.2, Bool.and_true] at this
    unfold shN shD shE
    rw [show n * 1 + -spC u * d = n * 1 - spC u * d by rw [Int.neg_mul]; omega]
    exact this)
  have MO := Lib.hid (fun W hb => least_any x (shN n d (-spC u)) (shD n d (-spC u)) (spS u) bd c W (opNum_64 _ _ _) (opDen_64 _ _ _) hx hb)
  have HX := Lib.hid (show abX x n d u = if spE u = 0 then (if shE n d (-spC u) = 0 then leL x (shN n d (-spC u)) (shD n d (-spC u)) (spS u) else x) else x from rfl)
  have HBB := Lib.hid (show abB bd n d u = if spE u = 0 then (if shE n d (-spC u) = 0 then bd else true) else bd from rfl)
  generalize leL x (shN n d (-spC u)) (shD n d (-spC u)) (spS u) = y at *
  generalize shN n d (-spC u) = sn at *
  generalize shD n d (-spC u) = sd at *
  generalize shE n d (-spC u) = se at *
  generalize spC u = uc at *
  generalize spS u = us at *
  generalize spE u = ue at *
  generalize abX x n d u = rx at *
  generalize abB bd n d u = rb at *
  obtain ⟨w0, hw0⟩ : ∃ w0, w0 = w.alloc (.cells #[.int .i64 n, .int .i64 d] 32) := ⟨_, rfl⟩
  have PB := Lib.hid (show Pair w0 w.heap.size n d by rw [hw0]; exact Pair.made _ _ _ _)
  have BC := Lib.hid (show Bx w0 c (chC x bd) by rw [hw0]; exact hc.kept (one_more _))
  have B0 := Lib.hid (show Below w.heap.size w w0 by rw [hw0]; exact one_more _)
  clear hc bu hn hd hu
  by_cases h1 : ue = 0
  · have U1 : (ue == 0) = true := by simp [h1]
    have U2 : (ue != 0) = false := by simp [h1]
    by_cases h2 : se = 0
    · have S1 : (se == 0) = true := by simp [h2]
      have S2 : (se != 0) = false := by simp [h2]
      have HR := Lib.hid (show rx = y ∧ rb = bd by rw [HX.out, HBB.out, if_pos h1, if_pos h2, if_pos h1, if_pos h2]; exact ⟨rfl, rfl⟩)
      clear h1 h2
      go_enter Tryz.func35, Tryz.ntmps35
      go_upto_region 1 with (fail)
      rw [← hw0]
      clear hw0
      go_wp2_with fail
      refine (SP.out _).mono ?_
      rintro e w' ⟨rfl, hw'⟩
      rw [hw']; clear hw' w'
      obtain ⟨p0, p1, _, _⟩ := PB.out.facts
      go_wp2_with fail
      refine (AD.out _).mono ?_
      rintro e w2 ⟨rfl, hb⟩
      obtain ⟨w3, hw3⟩ : ∃ w3, w3 = w2.alloc (.cells #[.int .i64 sn, .int .i64 sd] 32) := ⟨_, rfl⟩
      have PS := Lib.hid (show Pair w3 w2.heap.size sn sd by rw [hw3]; exact Pair.made _ _ _ _)
      have B3 := Lib.hid (show Below w0.heap.size w0 w3 by rw [hw3]; exact hb.alloc hb.size _)
      clear hb p0 p1
      go_upto_region 4 with (fail)
      rw [← hw3]
      clear hw3
      obtain ⟨p0, p1, _, _⟩ := PS.out.facts
      go_wp2_with fail
      refine (MO.out _ (BC.out.kept B3.out)).mono ?_
      rintro e w4 hr
      have hr2 := ChR.over (below_on B0.out B3.out) hr
      obtain ⟨rfl, hg, hbx⟩ := hr2
      have HG := Lib.hid hg
      have HBX := Lib.hid hbx
      clear hr hg hbx p0 p1
      go_wp2_with fail
      go_end0
      exact ⟨rfl, HG.out, by rw [HR.out.1, HR.out.2]; exact HBX.out⟩
    · have S1 : (se == 0) = false := by simp [h2]
      have S2 : (se != 0) = true := by simp [h2]
      have HR := Lib.hid (show rx = x ∧ rb = true by rw [HX.out, HBB.out, if_pos h1, if_neg h2, if_pos h1, if_neg h2]; exact ⟨rfl, rfl⟩)
      clear h1 h2
      go_enter Tryz.func35, Tryz.ntmps35
      go_upto_region 1 with (fail)
      rw [← hw0]
      clear hw0
      go_wp2_with fail
      refine (SP.out _).mono ?_
      rintro e w' ⟨rfl, hw'⟩
      rw [hw']; clear hw' w'
      obtain ⟨p0, p1, _, _⟩ := PB.out.facts
      go_wp2_with fail
      refine (AD.out _).mono ?_
      rintro e w2 ⟨rfl, hb⟩
      obtain ⟨w3, hw3⟩ : ∃ w3, w3 = w2.alloc (.cells #[.int .i64 sn, .int .i64 sd] 32) := ⟨_, rfl⟩
      have B3 := Lib.hid (show Below w0.heap.size w0 w3 by rw [hw3]; exact hb.alloc hb.size _)
      clear hb p0 p1
      go_upto_region 4 with (fail)
      rw [← hw3]
      clear hw3
      have BW := Lib.hid (BC.out.kept B3.out)
      have c7 := BW.out.cell 7
      have z7 := BW.out.free 7
      simp [chC] at c7
      have HP := Lib.hid (BW.out.put 7 (.bool true))
      have HGR := Lib.hid (grown_trans (grown_of (c := c) (below_on B0.out B3.out)) (grown_put w3 c 7 (.bool true)))
      go_wp2_with fail
      go_end0
      exact ⟨rfl, HGR.out, by rw [HR.out.1, HR.out.2]; exact HP.out⟩
  · have U1 : (ue == 0) = false := by simp [h1]
    have U2 : (ue != 0) = true := by simp [h1]
    have HR := Lib.hid (show rx = x ∧ rb = bd by rw [HX.out, HBB.out, if_neg h1, if_neg h1]; exact ⟨rfl, rfl⟩)
    clear h1
    go_enter Tryz.func35, Tryz.ntmps35
    go_upto_region 1 with (fail)
    rw [← hw0]
    clear hw0
    go_wp2_with fail
    refine (SP.out _).mono ?_
    rintro e w' ⟨rfl, hw'⟩
    rw [hw']; clear hw' w'
    go_wp2_with fail
    go_end0
    exact ⟨rfl, grown_of B0.out, by rw [HR.out.1, HR.out.2]; exact BC.out⟩

theorem start_any (w : World) : Calls Tryz.prog 32 #[] w (fun e w' => ∃ c, e = .returned (.pointer (some ⟨c, 0, none⟩)) ∧ w.heap.size ≤ c ∧ Bx w' c (chC Dl.one false) ∧ Below w.heap.size w w') := by
  go_enter Tryz.func32, Tryz.ntmps32
  go_wp2_with fail
  go_ret
  exact ⟨_, rfl, Nat.le_refl _, Bx.made _ _ _, one_more _⟩

/-- What is told: the interval; ErrNone if it is empty. -/
def tdB (x : Dl) : Bool := !x.nh && (decide (0 < cmK x.ln x.ld x.hn x.hd) || (decide (cmK x.ln x.ld x.hn x.hd = 0) && (x.lo || x.ho)))

def tdX (x : Dl) : Dl := if tdB x then Dl.zero else x

def tdE (x : Dl) : Int := if tdB x then 4 else 0
end Go.Proofs.YtbnebinpemejlaaGreat
