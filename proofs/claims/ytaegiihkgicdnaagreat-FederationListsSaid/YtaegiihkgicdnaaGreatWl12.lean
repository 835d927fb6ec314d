/- A part. -/
import Derived.Test.YtaegiihkgicdnaaGreatWl10
import Derived.Test.YtaegiihkgicdnaaGreatWl11

namespace Go.Proofs.YtaegiihkgicdnaaGreat
open Go.RowKit

def kpN (n : Nat) (l : List Int) (i j : Nat) : Bool := nxB n l i j && (!decide (i = 0) || !decide (Zo.At n l i j = 1))

def kpA (n : Nat) (l : List Int) (i j k : Nat) : Bool := decide (i = 0) && bdB n l k j && decide (Zo.At n l 0 k = 1)

def kpS (n : Nat) (l : List Int) (i j k : Nat) : Bool := decide (Zo.At n l i j = Zo.smW (Zo.At n l i k) (Zo.At n l k j))

def kpC (n : Nat) (l : List Int) (i j k : Nat) : Bool := fiB n l k && !decide (k = i) && !decide (k = j) && kpS n l i j k

def kpM (n : Nat) (l : List Int) (i j : Nat) : Bool := fiB n l i && fiB n l j && (List.range (n + 1)).all fun k => !(kpA n l i j k || kpC n l i j k)

def kpB (n : Nat) (l : List Int) (i j : Nat) : Bool := !decide (i = j) && !decide (Zo.At n l i j = 1099511627776) && (if bdB n l i j then kpN n l i j else kpM n l i j)

theorem kpM_no {n i j k : Nat} {l : List Int} (hk : k < n + 1) (h : (kpA n l i j k || kpC n l i j k) = true) : kpM n l i j = false := by
  unfold kpM
  have : ((List.range (n + 1)).all fun k => !(kpA n l i j k || kpC n l i j k)) = false := by
    rw [List.all_eq_false]; exact ⟨k, List.mem_range.2 hk, by rw [h]; simp⟩
  rw [this]; simp

theorem kpM_yes {n i j : Nat} {l : List Int} (hi : fiB n l i = true) (hj : fiB n l j = true) (h : ∀ k, k < n + 1 → (kpA n l i j k || kpC n l i j k) = false) : kpM n l i j = true := by
  unfold kpM
  rw [hi, hj]
  simp only [Bool.true_and, List.all_eq_true]
  intro k hk
  rw [h k (List.mem_range.1 hk)]; rfl

theorem made_as {P : Program} {f : FuncId} {args : Array Value} {W : World} {b c : Bool} (h : Calls P f args W (Made (.bool b) W)) (e : b = c) : Calls P f args W (Made (.bool c) W) := by rw [← e]; exact h

theorem mrat_len {n : Nat} {l : List Int} {a : Addr} {cap len : Nat} {w : World} (hn : n ≤ 10) (hl : l.length = (n + 1) * (n + 1)) (h : Rd w a l) (hlen : len = l.length) :
    ∀ (i j : Nat) (W : World), i ≤ n → j ≤ n → Below w.heap.size w W → Calls Tryz.prog 138 #[.agg #[.int .i64 n, .slice (some a) len cap], .int .i64 i, .int .i64 j] W (Made (.int .i64 (Zo.At n l i j)) W) := by
  intro i j W hi hj h'
  have := mrat_any n i j l a cap W hn hi hj hl (h.on h')
  rw [← hlen] at this; exact this

theorem first_len {n : Nat} {l : List Int} {a : Addr} {cap len : Nat} {w : World} (hn : n ≤ 10) (hl : l.length = (n + 1) * (n + 1)) (h : Rd w a l) (hlen : len = l.length) :
    ∀ (i : Nat) (W : World), i ≤ n → Below w.heap.size w W → Calls Tryz.prog 163 #[.agg #[.int .i64 n, .slice (some a) len cap], .int .i64 i] W (Made (.bool (fiB n l i)) W) := by
  intro i W hi h'
  have := first_any n i l a cap W hn hi hl (h.on h')
  rw [← hlen] at this; exact this

theorem rnext_len {n : Nat} {l : List Int} {a : Addr} {cap len : Nat} {w : World} (hn : n ≤ 10) (hl : l.length = (n + 1) * (n + 1)) (h : Rd w a l) (hlen : len = l.length) :
    ∀ (i j : Nat) (W : World), i ≤ n → j ≤ n → Below w.heap.size w W → Calls Tryz.prog 162 #[.agg #[.int .i64 n, .slice (some a) len cap], .int .i64 i, .int .i64 j] W (Made (.bool (nxB n l i j)) W) := by
  intro i j W hi hj h'
  have := rnext_any n i j l a cap W hn hi hj hl (h.on h')
  rw [← hlen] at this; exact this

set_option maxHeartbeats 6400000 in
theorem rkept_any (n i j : Nat) (l : List Int) (a : Addr) (cap : Nat) (w : World) (hn : n ≤ 10) (hi : i ≤ n) (hj : j ≤ n) (hl : l.length = (n + 1) * (n + 1)) (h : Rd w a l) :
    Calls Tryz.prog 137 #[.agg #[.int .i64 n, .slice (some a) l.length cap], .int .i64 i, .int .i64 j] w (Made (.bool (kpB n l i j)) w) := by
  obtain ⟨len, hlen⟩ : ∃ len, len = l.length := ⟨_, rfl⟩
  have BD := Lib.hid (rbound_len (cap := cap) hn hl h hlen)
  have AT := Lib.hid (mrat_len (cap := cap) hn hl h hlen)
  have FI := Lib.hid (first_len (cap := cap) hn hl h hlen)
  have NX := Lib.hid (rnext_len (cap := cap) hn hl h hlen)
  rw [← hlen]
  obtain ⟨w0, hw0, e0, ks⟩ := zbox n a len cap w
  have KS := Lib.hid ks
  have E0 := Lib.hid e0
  have HW0 := Lib.hid hw0
  have B0 := Lib.hid (Below.refl w0.heap.size w0)
  have HK := Lib.hid (show kpB n l i j = (!decide (i = j) && !decide (Zo.At n l i j = 1099511627776) && (if bdB n l i j then kpN n l i j else kpM n l i j)) from rfl)
  obtain ⟨b0, b1⟩ := ks w0 (Below.refl _ _)
  clear ks e0 hw0 hlen hl h
  by_cases hij : i = j
  · have HF := Lib.hid (show kpB n l i j = false by rw [HK.out]; simp [hij])
    have D : ((i : Int) == (j : Int)) = true := by simp; omega
    clear hij
    go_enter Tryz.func137, Tryz.ntmps137
    go_wp2_with fail
    rw [← HW0.out]
    go_wp2_with fail
    go_ret
    exact ⟨ret_bool HF.out.symm, E0.out⟩
  have D : ((i : Int) == (j : Int)) = false := by simp; omega
  have HIJ := Lib.hid hij
  clear hij
  obtain ⟨x, hx⟩ : ∃ x, x = Zo.At n l i j := ⟨_, rfl⟩
  have HX := Lib.hid hx
  have A1 := Lib.hid (show ∀ W, Below w.heap.size w W → Calls Tryz.prog 138 #[.agg #[.int .i64 n, .slice (some a) len cap], .int .i64 i, .int .i64 j] W (Made (.int .i64 x) W) from fun W h' => by rw [hx]; exact AT.out i j W hi hj h')
  clear hx
  cases hno : (x == 1099511627776)
  case true =>
    have HF := Lib.hid (show kpB n l i j = false by rw [HK.out, ← HX.out]; simp [show x = 1099511627776 by simpa using hno])
    go_enter Tryz.func137, Tryz.ntmps137
    go_wp2_with fail
    rw [← HW0.out]
    go_wp2_with fail
    refine (A1.out _ (below_on E0.out B0.out)).mono ?_
    rintro e w1 ⟨rfl, hb1⟩
    have B1 := Lib.hid (below_on B0.out hb1)
    clear hb1 b0 b1
    obtain ⟨b0, b1⟩ := KS.out _ B1.out
    clear b0 b1
    go_wp2_with fail
    go_ret
    exact ⟨ret_bool HF.out.symm, below_on E0.out B1.out⟩
  case false =>
    have HK2 := Lib.hid (show kpB n l i j = (if bdB n l i j then kpN n l i j else kpM n l i j) by
      rw [HK.out, ← HX.out]
      have : x ≠ 1099511627776 := by simpa using hno
      simp [HIJ.out, this])
    cases hb : bdB n l i j
    case true =>
      have HE := Lib.hid hb
      have HK3 := Lib.hid (show kpB n l i j = kpN n l i j by rw [HK2.out, hb]; rfl)
      have HKN := Lib.hid (show kpN n l i j = (nxB n l i j && (!decide (i = 0) || !decide (x = 1))) by rw [HX.out]; rfl)
      clear hb
      cases hnx : nxB n l i j
      · have HN := Lib.hid hnx
        have HF := Lib.hid (show kpB n l i j = false by rw [HK3.out, HKN.out, hnx]; rfl)
        clear hnx
        go_enter Tryz.func137, Tryz.ntmps137
        go_wp2_with fail
        rw [← HW0.out]
        go_wp2_with fail
        refine (A1.out _ (below_on E0.out B0.out)).mono ?_
        rintro e w1 ⟨rfl, hb1⟩
        have B1 := Lib.hid (below_on B0.out hb1)
        clear hb1 b0 b1
        obtain ⟨b0, b1⟩ := KS.out _ B1.out
        go_wp2_with fail
        refine (made_as (BD.out i j _ hi hj (below_on E0.out B1.out)) HE.out).mono ?_
        rintro e w2 ⟨rfl, hb2⟩
        have B2 := Lib.hid (below_on B1.out hb2)
        clear hb2 b0 b1
        obtain ⟨b0, b1⟩ := KS.out _ B2.out
        go_wp2_with fail
        refine (made_as (NX.out i j _ hi hj (below_on E0.out B2.out)) HN.out).mono ?_
        rintro e w3 ⟨rfl, hb3⟩
        have B3 := Lib.hid (below_on B2.out hb3)
        clear hb3 b0 b1
        obtain ⟨b0, b1⟩ := KS.out _ B3.out
        clear b0 b1
        go_wp2_with fail
        go_ret
        exact ⟨ret_bool HF.out.symm, below_on E0.out B3.out⟩
      · have HN := Lib.hid hnx
        by_cases hi0 : i = 0
        · have D0 : ((i : Int) != 0) = false := by simp; omega
          have HF := Lib.hid (show kpB n l i j = (x != 1) by rw [HK3.out, HKN.out, hnx]; by_cases c : x = 1 <;> simp [hi0, c])
          clear hnx hi0
          go_enter Tryz.func137, Tryz.ntmps137
          go_wp2_with fail
          rw [← HW0.out]
          go_wp2_with fail
          refine (A1.out _ (below_on E0.out B0.out)).mono ?_
          rintro e w1 ⟨rfl, hb1⟩
          have B1 := Lib.hid (below_on B0.out hb1)
          clear hb1 b0 b1
          obtain ⟨b0, b1⟩ := KS.out _ B1.out
          go_wp2_with fail
          refine (made_as (BD.out i j _ hi hj (below_on E0.out B1.out)) HE.out).mono ?_
          rintro e w2 ⟨rfl, hb2⟩
          have B2 := Lib.hid (below_on B1.out hb2)
          clear hb2 b0 b1
          obtain ⟨b0, b1⟩ := KS.out _ B2.out
          go_wp2_with fail
          refine (made_as (NX.out i j _ hi hj (below_on E0.out B2.out)) HN.out).mono ?_
          rintro e w3 ⟨rfl, hb3⟩
          have B3 := Lib.hid (below_on B2.out hb3)
          clear hb3 b0 b1
          obtain ⟨b0, b1⟩ := KS.out _ B3.out
          go_wp2_with fail
          refine (A1.out _ (below_on E0.out B3.out)).mono ?_
          rintro e w4 ⟨rfl, hb4⟩
          have B4 := Lib.hid (below_on B3.out hb4)
          clear hb4 b0 b1
          obtain ⟨b0, b1⟩ := KS.out _ B4.out
          clear b0 b1
          go_wp2_with fail
          go_ret
          exact ⟨ret_bool HF.out.symm, below_on E0.out B4.out⟩
        · have D0 : ((i : Int) != 0) = true := by simp; omega
          have HF := Lib.hid (show kpB n l i j = true by rw [HK3.out, HKN.out, hnx]; simp [hi0])
          clear hnx hi0
          go_enter Tryz.func137, Tryz.ntmps137
          go_wp2_with fail
          rw [← HW0.out]
          go_wp2_with fail
          refine (A1.out _ (below_on E0.out B0.out)).mono ?_
          rintro e w1 ⟨rfl, hb1⟩
          have B1 := Lib.hid (below_on B0.out hb1)
          clear hb1 b0 b1
          obtain ⟨b0, b1⟩ := KS.out _ B1.out
          go_wp2_with fail
          refine (made_as (BD.out i j _ hi hj (below_on E0.out B1.out)) HE.out).mono ?_
          rintro e w2 ⟨rfl, hb2⟩
          have B2 := Lib.hid (below_on B1.out hb2)
          clear hb2 b0 b1
          obtain ⟨b0, b1⟩ := KS.out _ B2.out
          go_wp2_with fail
          refine (made_as (NX.out i j _ hi hj (below_on E0.out B2.out)) HN.out).mono ?_
          rintro e w3 ⟨rfl, hb3⟩
          have B3 := Lib.hid (below_on B2.out hb3)
          clear hb3 b0 b1
          obtain ⟨b0, b1⟩ := KS.out _ B3.out
          clear b0 b1
          go_wp2_with fail
          go_ret
          exact ⟨ret_bool HF.out.symm, below_on E0.out B3.out⟩
    case false =>
      have HE := Lib.hid hb
      have HK3 := Lib.hid (show kpB n l i j = kpM n l i j by rw [HK2.out, hb]; rfl)
      clear hb
      cases hfi : fiB n l i
      · have HFI := Lib.hid hfi
        have HF := Lib.hid (show kpB n l i j = false by rw [HK3.out]; unfold kpM; rw [hfi]; rfl)
        clear hfi
        go_enter Tryz.func137, Tryz.ntmps137
        go_wp2_with fail
        rw [← HW0.out]
        go_wp2_with fail
        refine (A1.out _ (below_on E0.out B0.out)).mono ?_
        rintro e w1 ⟨rfl, hb1⟩
        have B1 := Lib.hid (below_on B0.out hb1)
        clear hb1 b0 b1
        obtain ⟨b0, b1⟩ := KS.out _ B1.out
        go_wp2_with fail
        refine (made_as (BD.out i j _ hi hj (below_on E0.out B1.out)) HE.out).mono ?_
        rintro e w2 ⟨rfl, hb2⟩
        have B2 := Lib.hid (below_on B1.out hb2)
        clear hb2 b0 b1
        obtain ⟨b0, b1⟩ := KS.out _ B2.out
        go_wp2_with fail
        refine (made_as (FI.out i _ hi (below_on E0.out B2.out)) HFI.out).mono ?_
        rintro e w3 ⟨rfl, hb3⟩
        have B3 := Lib.hid (below_on B2.out hb3)
        clear hb3 b0 b1
        obtain ⟨b0, b1⟩ := KS.out _ B3.out
        clear b0 b1
        go_wp2_with fail
        go_ret
        exact ⟨ret_bool HF.out.symm, below_on E0.out B3.out⟩
      cases hfj : fiB n l j
      · have HFI := Lib.hid hfi
        have HFJ := Lib.hid hfj
        have HF := Lib.hid (show kpB n l i j = false by rw [HK3.out]; unfold kpM; rw [hfi, hfj]; rfl)
        clear hfi hfj
        go_enter Tryz.func137, Tryz.ntmps137
        go_wp2_with fail
        rw [← HW0.out]
        go_wp2_with fail
        refine (A1.out _ (below_on E0.out B0.out)).mono ?_
        rintro e w1 ⟨rfl, hb1⟩
        have B1 := Lib.hid (below_on B0.out hb1)
        clear hb1 b0 b1
        obtain ⟨b0, b1⟩ := KS.out _ B1.out
        go_wp2_with fail
        refine (made_as (BD.out i j _ hi hj (below_on E0.out B1.out)) HE.out).mono ?_
        rintro e w2 ⟨rfl, hb2⟩
        have B2 := Lib.hid (below_on B1.out hb2)
        clear hb2 b0 b1
        obtain ⟨b0, b1⟩ := KS.out _ B2.out
        go_wp2_with fail
        refine (made_as (FI.out i _ hi (below_on E0.out B2.out)) HFI.out).mono ?_
        rintro e w3 ⟨rfl, hb3⟩
        have B3 := Lib.hid (below_on B2.out hb3)
        clear hb3 b0 b1
        obtain ⟨b0, b1⟩ := KS.out _ B3.out
        go_wp2_with fail
        refine (made_as (FI.out j _ hj (below_on E0.out B3.out)) HFJ.out).mono ?_
        rintro e w4 ⟨rfl, hb4⟩
        have B4 := Lib.hid (below_on B3.out hb4)
        clear hb4 b0 b1
        obtain ⟨b0, b1⟩ := KS.out _ B4.out
        clear b0 b1
        go_wp2_with fail
        go_ret
        exact ⟨ret_bool HF.out.symm, below_on E0.out B4.out⟩
      have HFI := Lib.hid hfi
      have HFJ := Lib.hid hfj
      clear hfi hfj
      have KA := Lib.hid (show ∀ k, kpA n l i j k = (decide (i = 0) && bdB n l k j && decide (Zo.At n l 0 k = 1)) from fun k => rfl)
      have KC := Lib.hid (show ∀ k, kpC n l i j k = (fiB n l k && !decide (k = i) && !decide (k = j) && kpS n l i j k) from fun k => rfl)
      go_enter Tryz.func137, Tryz.ntmps137
      go_wp2_with fail
      rw [← HW0.out]
      go_wp2_with fail
      refine (A1.out _ (below_on E0.out B0.out)).mono ?_
      rintro e w1 ⟨rfl, hb1⟩
      have B1 := Lib.hid (below_on B0.out hb1)
      clear hb1 b0 b1
      obtain ⟨b0, b1⟩ := KS.out _ B1.out
      go_wp2_with fail
      refine (made_as (BD.out i j _ hi hj (below_on E0.out B1.out)) HE.out).mono ?_
      rintro e w2 ⟨rfl, hb2⟩
      have B2 := Lib.hid (below_on B1.out hb2)
      clear hb2 b0 b1
      obtain ⟨b0, b1⟩ := KS.out _ B2.out
      go_wp2_with fail
      refine (made_as (FI.out i _ hi (below_on E0.out B2.out)) HFI.out).mono ?_
      rintro e w3 ⟨rfl, hb3⟩
      have B3 := Lib.hid (below_on B2.out hb3)
      clear hb3 b0 b1
      obtain ⟨b0, b1⟩ := KS.out _ B3.out
      go_wp2_with fail
      refine (made_as (FI.out j _ hj (below_on E0.out B3.out)) HFJ.out).mono ?_
      rintro e w4 ⟨rfl, hb4⟩
      have B4 := Lib.hid (below_on B3.out hb4)
      clear hb4 b0 b1
      obtain ⟨b0, b1⟩ := KS.out _ B4.out
      go_wp2_with fail
      clear b0 b1
      go_loopw [7] (fun s wr => ∃ t : Nat, t ≤ n + 1 ∧ s = .int .i64 t ∧ Hid (∀ k, k < t → (kpA n l i j k || kpC n l i j k) = false) ∧ Hid (Below w0.heap.size w0 wr)) (fun s _ => n + 1 - (intOf s).toNat)
      case atStart => exact ⟨0, by omega, rfl, Lib.hid (fun k hk => by omega), B4⟩
      case round =>
        clear B1 B2 B3 B4
        obtain ⟨t, ht, rfl, HT, B1⟩ := hrel
        obtain ⟨b0, b1⟩ := KS.out _ B1.out
        by_cases htn : t ≤ n
        · have HS := Lib.hid (show (kpA n l i j t || kpC n l i j t) = false → ∀ k, k < t + 1 → (kpA n l i j k || kpC n l i j k) = false from fun h k hk => by
            by_cases e : k = t
            · rw [e]; exact h
            · exact HT.out k (by omega))
          have HNO := Lib.hid (show (kpA n l i j t || kpC n l i j t) = true → kpB n l i j = false from fun h => by rw [HK3.out]; exact kpM_no (by omega) h)
          by_cases hi0 : i = 0
          · have D0 : ((i : Int) == 0) = true := by simp; omega
            cases hbt : bdB n l t j
            · have HBT := Lib.hid hbt
              have HA := Lib.hid (show kpA n l i j t = false by rw [KA.out, hbt]; simp)
              clear hbt hi0
              go_wp2_with fail
              refine (made_as (BD.out t j _ htn hj (below_on E0.out B1.out)) HBT.out).mono ?_
              rintro e w5 ⟨rfl, hb5⟩
              have B5 := Lib.hid (below_on B1.out hb5)
              clear hb5 b0 b1
              obtain ⟨b0, b1⟩ := KS.out _ B5.out
              go_wp2_with fail
              clear b0 b1
              cases hfk : fiB n l t
              · have HFK := Lib.hid hfk
                have HC := Lib.hid (HS.out (by rw [HA.out, KC.out, hfk]; simp))
                clear hfk
                refine wp_region_held_drew (S := (fun w' => w'.cell? ⟨w.heap.size, 0, none⟩ = some (.int .i64 n) ∧ w'.cell? ⟨w.heap.size, 1, none⟩ = some (.slice (some a) len cap))) (by kernel_rfl) (KS.out _ B5.out.drew) (fun h0 => ?_)
                refine tkH (i := 0) (v := ?v1) rfl (Or.inl ⟨by rfl, ?hy1⟩) h0 ?rest1
                case hy1 => (intro w' hS; (try dsimp only at hS); go_simp; try (with_reducible rfl))
                simp only [Act.put, sA, sB, sD, sE, sF]
                refine tkH (i := 1) (v := ?v2) rfl (Or.inl ⟨by rfl, ?hy2⟩) h0 ?rest2
                case hy2 => (intro w' hS; (try dsimp only at hS); go_simp; try (with_reducible rfl))
                simp only [Act.put, sZ]
                refine wpAnyH_ready (rs := [2]) (by kernel_rfl) (by simp) (AllReadyH.cons rfl (fun K hK => ?_) AllReadyH.nil)
                rw [if_pos (by rfl)]
                go_simp
                refine (made_as (FI.out t _ htn (below_on E0.out B5.out.drew)) HFK.out).mono ?_
                rintro e wa ⟨rfl, hba⟩
                have qa := below_on B5.out.drew hba
                go_simp
                refine hK.out _ _ (KS.out _ qa) (fun h0_1 => ?_)
                clear hK K h0
                refine tkH (i := 3) (v := ?v3) rfl (Or.inl ⟨by rfl, ?hy3⟩) h0_1 ?rest3
                case hy3 => (intro w' hS; (try dsimp only at hS); go_simp; try (with_reducible rfl))
                simp only [Act.put, sZ]
                refine tkH (i := 4) (v := undef) rfl (Or.inr ⟨by rfl, rfl⟩) h0_1 ?_
                simp only [Act.put, sZ]
                refine tkH (i := 5) (v := undef) rfl (Or.inr ⟨by rfl, rfl⟩) h0_1 ?_
                simp only [Act.put, sZ]
                refine tkH (i := 6) (v := undef) rfl (Or.inr ⟨by rfl, rfl⟩) h0_1 ?_
                simp only [Act.put, sZ]
                refine tkH (i := 7) (v := ?v4) rfl (Or.inl ⟨by rfl, ?hy4⟩) h0_1 ?rest4
                case hy4 => (intro w' hS; (try dsimp only at hS); go_simp; try (with_reducible rfl))
                simp only [Act.put, sZ]
                refine tkH (i := 8) (v := ?v5) rfl (Or.inl ⟨by rfl, ?hy5⟩) h0_1 ?rest5
                case hy5 => (intro w' hS; (try dsimp only at hS); go_simp; try (with_reducible rfl))
                simp only [Act.put, sZ]
                refine tkH (i := 9) (v := undef) rfl (Or.inr ⟨by rfl, rfl⟩) h0_1 ?_
                simp only [Act.put, sZ]
                refine tkH (i := 10) (v := undef) rfl (Or.inr ⟨by rfl, rfl⟩) h0_1 ?_
                simp only [Act.put, sZ]
                refine tkH (i := 11) (v := undef) rfl (Or.inr ⟨by rfl, rfl⟩) h0_1 ?_
                simp only [Act.put, sZ]
                refine tkH (i := 12) (v := ?v6) rfl (Or.inl ⟨by rfl, ?hy6⟩) h0_1 ?rest6
                case hy6 => (intro w' hS; (try dsimp only at hS); go_simp; try (with_reducible rfl))
                simp only [Act.put, sZ]
                refine tkH (i := 13) (v := ?v7) rfl (Or.inl ⟨by rfl, ?hy7⟩) h0_1 ?rest7
                case hy7 => (intro w' hS; (try dsimp only at hS); go_simp; try (with_reducible rfl))
                simp only [Act.put, sZ]
                refine tkH (i := 14) (v := undef) rfl (Or.inr ⟨by rfl, rfl⟩) h0_1 ?_
                simp only [Act.put, sZ]
                refine tkH (i := 15) (v := undef) rfl (Or.inr ⟨by rfl, rfl⟩) h0_1 ?_
                simp only [Act.put, sZ]
                refine tkH (i := 16) (v := undef) rfl (Or.inr ⟨by rfl, rfl⟩) h0_1 ?_
                simp only [Act.put, sZ]
                refine tkH (i := 17) (v := undef) rfl (Or.inr ⟨by rfl, rfl⟩) h0_1 ?_
                simp only [Act.put, sZ]
                refine tkH (i := 18) (v := undef) rfl (Or.inr ⟨by rfl, rfl⟩) h0_1 ?_
                simp only [Act.put, sZ]
                refine tkH (i := 19) (v := undef) rfl (Or.inr ⟨by rfl, rfl⟩) h0_1 ?_
                simp only [Act.put, sZ]
                refine tkH (i := 20) (v := undef) rfl (Or.inr ⟨by rfl, rfl⟩) h0_1 ?_
                simp only [Act.put, sZ]
                refine tkH (i := 21) (v := undef) rfl (Or.inr ⟨by rfl, rfl⟩) h0_1 ?_
                simp only [Act.put, sZ]
                refine tkH (i := 22) (v := undef) rfl (Or.inr ⟨by rfl, rfl⟩) h0_1 ?_
                simp only [Act.put, sZ]
                refine tkH (i := 23) (v := undef) rfl (Or.inr ⟨by rfl, rfl⟩) h0_1 ?_
                simp only [Act.put, sZ]
                refine tkH (i := 24) (v := undef) rfl (Or.inr ⟨by rfl, rfl⟩) h0_1 ?_
                simp only [Act.put, sZ]
                refine tkH (i := 25) (v := undef) rfl (Or.inr ⟨by rfl, rfl⟩) h0_1 ?_
                simp only [Act.put, sZ]
                refine tkH (i := 26) (v := undef) rfl (Or.inr ⟨by rfl, rfl⟩) h0_1 ?_
                simp only [Act.put, sZ]
                refine tkH (i := 27) (v := undef) rfl (Or.inr ⟨by rfl, rfl⟩) h0_1 ?_
                simp only [Act.put, sZ]
                refine tkH (i := 28) (v := ?v8) rfl (Or.inl ⟨by rfl, ?hy8⟩) h0_1 ?rest8
                case hy8 => (intro w' hS; (try dsimp only at hS); go_simp; try (with_reducible rfl))
                simp only [Act.put, sZ]
                refine wpAnyH_done (by kernel_rfl) ?_ _
                have Q := Lib.hid qa
                clear hba qa
                go_wp2_with fail
                go_roundw
                case rel => exact ⟨t + 1, by omega, by go_num, HC, Q⟩
                case measure => simp [intOf]; omega
              · have HFK := Lib.hid hfk
                by_cases ei : t = i
                · have D3 : ((t : Int) != (i : Int)) = false := by simp; omega
                  have HC := Lib.hid (HS.out (by rw [HA.out, KC.out]; simp [ei]))
                  clear hfk ei
                  refine wp_region_held_drew (S := (fun w' => w'.cell? ⟨w.heap.size, 0, none⟩ = some (.int .i64 n) ∧ w'.cell? ⟨w.heap.size, 1, none⟩ = some (.slice (some a) len cap))) (by kernel_rfl) (KS.out _ B5.out.drew) (fun h0 => ?_)
                  refine tkH (i := 0) (v := ?v9) rfl (Or.inl ⟨by rfl, ?hy9⟩) h0 ?rest9
                  case hy9 => (intro w' hS; (try dsimp only at hS); go_simp; try (with_reducible rfl))
                  simp only [Act.put, sA, sB, sD, sE, sF]
                  refine tkH (i := 1) (v := ?v10) rfl (Or.inl ⟨by rfl, ?hy10⟩) h0 ?rest10
                  case hy10 => (intro w' hS; (try dsimp only at hS); go_simp; try (with_reducible rfl))
                  simp only [Act.put, sZ]
                  refine wpAnyH_ready (rs := [2]) (by kernel_rfl) (by simp) (AllReadyH.cons rfl (fun K hK => ?_) AllReadyH.nil)
                  rw [if_pos (by rfl)]
                  go_simp
                  refine (made_as (FI.out t _ htn (below_on E0.out B5.out.drew)) HFK.out).mono ?_
                  rintro e wa ⟨rfl, hba⟩
                  have qa := below_on B5.out.drew hba
                  go_simp
                  refine hK.out _ _ (KS.out _ qa) (fun h0_1 => ?_)
                  clear hK K h0
                  refine tkH (i := 3) (v := ?v11) rfl (Or.inl ⟨by rfl, ?hy11⟩) h0_1 ?rest11
                  case hy11 => (intro w' hS; (try dsimp only at hS); go_simp; try (with_reducible rfl))
                  simp only [Act.put, sZ]
                  refine tkH (i := 4) (v := ?v12) rfl (Or.inl ⟨by rfl, ?hy12⟩) h0_1 ?rest12
                  case hy12 => (intro w' hS; (try dsimp only at hS); go_simp; try (with_reducible rfl))
                  simp only [Act.put, sZ]
                  refine tkH (i := 5) (v := ?v13) rfl (Or.inl ⟨by rfl, ?hy13⟩) h0_1 ?rest13
                  case hy13 => (intro w' hS; (try dsimp only at hS); go_simp; try (with_reducible rfl))
                  simp only [Act.put, sZ]
                  refine tkH (i := 6) (v := ?v14) rfl (Or.inl ⟨by rfl, ?hy14⟩) h0_1 ?rest14
                  case hy14 => (intro w' hS; (try dsimp only at hS); go_simp; try (with_reducible rfl))
                  simp only [Act.put, sZ]
                  refine tkH (i := 7) (v := ?v15) rfl (Or.inl ⟨by rfl, ?hy15⟩) h0_1 ?rest15
                  case hy15 => (intro w' hS; (try dsimp only at hS); go_simp; try (with_reducible rfl))
                  simp only [Act.put, sZ]
                  refine tkH (i := 8) (v := ?v16) rfl (Or.inl ⟨by rfl, ?hy16⟩) h0_1 ?rest16
                  case hy16 => (intro w' hS; (try dsimp only at hS); go_simp; try (with_reducible rfl))
                  simp only [Act.put, sZ]
                  refine tkH (i := 9) (v := undef) rfl (Or.inr ⟨by rfl, rfl⟩) h0_1 ?_
                  simp only [Act.put, sZ]
                  refine tkH (i := 10) (v := undef) rfl (Or.inr ⟨by rfl, rfl⟩) h0_1 ?_
                  simp only [Act.put, sZ]
                  refine tkH (i := 11) (v := undef) rfl (Or.inr ⟨by rfl, rfl⟩) h0_1 ?_
                  simp only [Act.put, sZ]
                  refine tkH (i := 12) (v := ?v17) rfl (Or.inl ⟨by rfl, ?hy17⟩) h0_1 ?rest17
                  case hy17 => (intro w' hS; (try dsimp only at hS); go_simp; try (with_reducible rfl))
                  simp only [Act.put, sZ]
                  refine tkH (i := 13) (v := ?v18) rfl (Or.inl ⟨by rfl, ?hy18⟩) h0_1 ?rest18
                  case hy18 => (intro w' hS; (try dsimp only at hS); go_simp; try (with_reducible rfl))
                  simp only [Act.put, sZ]
                  refine tkH (i := 14) (v := undef) rfl (Or.inr ⟨by rfl, rfl⟩) h0_1 ?_
                  simp only [Act.put, sZ]
                  refine tkH (i := 15) (v := undef) rfl (Or.inr ⟨by rfl, rfl⟩) h0_1 ?_
                  simp only [Act.put, sZ]
                  refine tkH (i := 16) (v := undef) rfl (Or.inr ⟨by rfl, rfl⟩) h0_1 ?_
                  simp only [Act.put, sZ]
                  refine tkH (i := 17) (v := undef) rfl (Or.inr ⟨by rfl, rfl⟩) h0_1 ?_
                  simp only [Act.put, sZ]
                  refine tkH (i := 18) (v := undef) rfl (Or.inr ⟨by rfl, rfl⟩) h0_1 ?_
                  simp only [Act.put, sZ]
                  refine tkH (i := 19) (v := undef) rfl (Or.inr ⟨by rfl, rfl⟩) h0_1 ?_
                  simp only [Act.put, sZ]
                  refine tkH (i := 20) (v := undef) rfl (Or.inr ⟨by rfl, rfl⟩) h0_1 ?_
                  simp only [Act.put, sZ]
                  refine tkH (i := 21) (v := undef) rfl (Or.inr ⟨by rfl, rfl⟩) h0_1 ?_
                  simp only [Act.put, sZ]
                  refine tkH (i := 22) (v := undef) rfl (Or.inr ⟨by rfl, rfl⟩) h0_1 ?_
                  simp only [Act.put, sZ]
                  refine tkH (i := 23) (v := undef) rfl (Or.inr ⟨by rfl, rfl⟩) h0_1 ?_
                  simp only [Act.put, sZ]
                  refine tkH (i := 24) (v := undef) rfl (Or.inr ⟨by rfl, rfl⟩) h0_1 ?_
                  simp only [Act.put, sZ]
                  refine tkH (i := 25) (v := undef) rfl (Or.inr ⟨by rfl, rfl⟩) h0_1 ?_
                  simp only [Act.put, sZ]
                  refine tkH (i := 26) (v := undef) rfl (Or.inr ⟨by rfl, rfl⟩) h0_1 ?_
                  simp only [Act.put, sZ]
                  refine tkH (i := 27) (v := undef) rfl (Or.inr ⟨by rfl, rfl⟩) h0_1 ?_
                  simp only [Act.put, sZ]
                  refine tkH (i := 28) (v := ?v19) rfl (Or.inl ⟨by rfl, ?hy19⟩) h0_1 ?rest19
                  case hy19 => (intro w' hS; (try dsimp only at hS); go_simp; try (with_reducible rfl))
                  simp only [Act.put, sZ]
                  refine wpAnyH_done (by kernel_rfl) ?_ _
                  have Q := Lib.hid qa
                  clear hba qa
                  go_wp2_with fail
                  go_roundw
                  case rel => exact ⟨t + 1, by omega, by go_num, HC, Q⟩
                  case measure => simp [intOf]; omega
                have D3 : ((t : Int) != (i : Int)) = true := by simp; omega
                by_cases ej : t = j
                · have D4 : ((t : Int) != (j : Int)) = false := by simp; omega
                  have HC := Lib.hid (HS.out (by rw [HA.out, KC.out]; simp [ej]))
                  clear hfk ei ej
                  refine wp_region_held_drew (S := (fun w' => w'.cell? ⟨w.heap.size, 0, none⟩ = some (.int .i64 n) ∧ w'.cell? ⟨w.heap.size, 1, none⟩ = some (.slice (some a) len cap))) (by kernel_rfl) (KS.out _ B5.out.drew) (fun h0 => ?_)
                  refine tkH (i := 0) (v := ?v20) rfl (Or.inl ⟨by rfl, ?hy20⟩) h0 ?rest20
                  case hy20 => (intro w' hS; (try dsimp only at hS); go_simp; try (with_reducible rfl))
                  simp only [Act.put, sA, sB, sD, sE, sF]
                  refine tkH (i := 1) (v := ?v21) rfl (Or.inl ⟨by rfl, ?hy21⟩) h0 ?rest21
                  case hy21 => (intro w' hS; (try dsimp only at hS); go_simp; try (with_reducible rfl))
                  simp only [Act.put, sZ]
                  refine wpAnyH_ready (rs := [2]) (by kernel_rfl) (by simp) (AllReadyH.cons rfl (fun K hK => ?_) AllReadyH.nil)
                  rw [if_pos (by rfl)]
                  go_simp
                  refine (made_as (FI.out t _ htn (below_on E0.out B5.out.drew)) HFK.out).mono ?_
                  rintro e wa ⟨rfl, hba⟩
                  have qa := below_on B5.out.drew hba
                  go_simp
                  refine hK.out _ _ (KS.out _ qa) (fun h0_1 => ?_)
                  clear hK K h0
                  refine tkH (i := 3) (v := ?v22) rfl (Or.inl ⟨by rfl, ?hy22⟩) h0_1 ?rest22
                  case hy22 => (intro w' hS; (try dsimp only at hS); go_simp; try (with_reducible rfl))
                  simp only [Act.put, sZ]
                  refine tkH (i := 4) (v := ?v23) rfl (Or.inl ⟨by rfl, ?hy23⟩) h0_1 ?rest23
                  case hy23 => (intro w' hS; (try dsimp only at hS); go_simp; try (with_reducible rfl))
                  simp only [Act.put, sZ]
                  refine tkH (i := 5) (v := ?v24) rfl (Or.inl ⟨by rfl, ?hy24⟩) h0_1 ?rest24
                  case hy24 => (intro w' hS; (try dsimp only at hS); go_simp; try (with_reducible rfl))
                  simp only [Act.put, sZ]
                  refine tkH (i := 6) (v := ?v25) rfl (Or.inl ⟨by rfl, ?hy25⟩) h0_1 ?rest25
                  case hy25 => (intro w' hS; (try dsimp only at hS); go_simp; try (with_reducible rfl))
                  simp only [Act.put, sZ]
                  refine tkH (i := 7) (v := ?v26) rfl (Or.inl ⟨by rfl, ?hy26⟩) h0_1 ?rest26
                  case hy26 => (intro w' hS; (try dsimp only at hS); go_simp; try (with_reducible rfl))
                  simp only [Act.put, sZ]
                  refine tkH (i := 8) (v := ?v27) rfl (Or.inl ⟨by rfl, ?hy27⟩) h0_1 ?rest27
                  case hy27 => (intro w' hS; (try dsimp only at hS); go_simp; try (with_reducible rfl))
                  simp only [Act.put, sZ]
                  refine tkH (i := 9) (v := ?v28) rfl (Or.inl ⟨by rfl, ?hy28⟩) h0_1 ?rest28
                  case hy28 => (intro w' hS; (try dsimp only at hS); go_simp; try (with_reducible rfl))
                  simp only [Act.put, sZ]
                  refine tkH (i := 10) (v := ?v29) rfl (Or.inl ⟨by rfl, ?hy29⟩) h0_1 ?rest29
                  case hy29 => (intro w' hS; (try dsimp only at hS); go_simp; try (with_reducible rfl))
                  simp only [Act.put, sZ]
                  refine tkH (i := 11) (v := ?v30) rfl (Or.inl ⟨by rfl, ?hy30⟩) h0_1 ?rest30
                  case hy30 => (intro w' hS; (try dsimp only at hS); go_simp; try (with_reducible rfl))
                  simp only [Act.put, sZ]
                  refine tkH (i := 12) (v := ?v31) rfl (Or.inl ⟨by rfl, ?hy31⟩) h0_1 ?rest31
                  case hy31 => (intro w' hS; (try dsimp only at hS); go_simp; try (with_reducible rfl))
                  simp only [Act.put, sZ]
                  refine tkH (i := 13) (v := ?v32) rfl (Or.inl ⟨by rfl, ?hy32⟩) h0_1 ?rest32
                  case hy32 => (intro w' hS; (try dsimp only at hS); go_simp; try (with_reducible rfl))
                  simp only [Act.put, sZ]
                  refine tkH (i := 14) (v := undef) rfl (Or.inr ⟨by rfl, rfl⟩) h0_1 ?_
                  simp only [Act.put, sZ]
                  refine tkH (i := 15) (v := undef) rfl (Or.inr ⟨by rfl, rfl⟩) h0_1 ?_
                  simp only [Act.put, sZ]
                  refine tkH (i := 16) (v := undef) rfl (Or.inr ⟨by rfl, rfl⟩) h0_1 ?_
                  simp only [Act.put, sZ]
                  refine tkH (i := 17) (v := undef) rfl (Or.inr ⟨by rfl, rfl⟩) h0_1 ?_
                  simp only [Act.put, sZ]
                  refine tkH (i := 18) (v := undef) rfl (Or.inr ⟨by rfl, rfl⟩) h0_1 ?_
                  simp only [Act.put, sZ]
                  refine tkH (i := 19) (v := undef) rfl (Or.inr ⟨by rfl, rfl⟩) h0_1 ?_
                  simp only [Act.put, sZ]
                  refine tkH (i := 20) (v := undef) rfl (Or.inr ⟨by rfl, rfl⟩) h0_1 ?_
                  simp only [Act.put, sZ]
                  refine tkH (i := 21) (v := undef) rfl (Or.inr ⟨by rfl, rfl⟩) h0_1 ?_
                  simp only [Act.put, sZ]
                  refine tkH (i := 22) (v := undef) rfl (Or.inr ⟨by rfl, rfl⟩) h0_1 ?_
                  simp only [Act.put, sZ]
                  refine tkH (i := 23) (v := undef) rfl (Or.inr ⟨by rfl, rfl⟩) h0_1 ?_
                  simp only [Act.put, sZ]
                  refine tkH (i := 24) (v := undef) rfl (Or.inr ⟨by rfl, rfl⟩) h0_1 ?_
                  simp only [Act.put, sZ]
                  refine tkH (i := 25) (v := undef) rfl (Or.inr ⟨by rfl, rfl⟩) h0_1 ?_
                  simp only [Act.put, sZ]
                  refine tkH (i := 26) (v := undef) rfl (Or.inr ⟨by rfl, rfl⟩) h0_1 ?_
                  simp only [Act.put, sZ]
                  refine tkH (i := 27) (v := undef) rfl (Or.inr ⟨by rfl, rfl⟩) h0_1 ?_
                  simp only [Act.put, sZ]
                  refine tkH (i := 28) (v := ?v33) rfl (Or.inl ⟨by rfl, ?hy33⟩) h0_1 ?rest33
                  case hy33 => (intro w' hS; (try dsimp only at hS); go_simp; try (with_reducible rfl))
                  simp only [Act.put, sZ]
                  refine wpAnyH_done (by kernel_rfl) ?_ _
                  have Q := Lib.hid qa
                  clear hba qa
                  go_wp2_with fail
                  go_roundw
                  case rel => exact ⟨t + 1, by omega, by go_num, HC, Q⟩
                  case measure => simp [intOf]; omega
                have D4 : ((t : Int) != (j : Int)) = true := by simp; omega
                have HKS := Lib.hid (show kpC n l i j t = kpS n l i j t by rw [KC.out, hfk]; simp [ei, ej])
                have HK4 := Lib.hid (show kpS n l i j t = decide (x = Zo.smW (Zo.At n l i t) (Zo.At n l t j)) by rw [HX.out]; rfl)
                have A2 := Lib.hid (fun W h' => AT.out i t W hi htn h')
                have A3 := Lib.hid (fun W h' => AT.out t j W htn hj h')
                generalize Zo.At n l i t = y at *
                generalize Zo.At n l t j = z at *
                have SM := Lib.hid (fun W => sum2_any y z W)
                generalize Zo.smW y z = s at *
                clear hfk ei ej
                have s1 : Below w0.heap.size w0 _ := B5.out.drew
                go_region_held3 (fun w' => w'.cell? ⟨w.heap.size, 0, none⟩ = some (.int .i64 n) ∧ w'.cell? ⟨w.heap.size, 1, none⟩ = some (.slice (some a) len cap)) (first | exact KS.out _ s1 | exact KS.out _ s2 | exact KS.out _ s3 | exact KS.out _ s4 | exact KS.out _ s5)
                  (first | (go_at_call 163; refine (made_as (FI.out t _ htn (below_on E0.out s1)) HFK.out).mono ?_; rintro e wa ⟨rfl, hba⟩; have s2 := below_on s1 hba) | (go_at_call 138; ((with_reducible refine (A1.out _ (below_on E0.out s2)).mono ?_)); rintro e wb ⟨rfl, hbb⟩; have s3 := below_on s2 hbb) | (go_at_call 138; ((with_reducible refine (A2.out _ (below_on E0.out s3)).mono ?_)); rintro e wc ⟨rfl, hbc⟩; have s4 := below_on s3 hbc) | (go_at_call 138; ((with_reducible refine (A3.out _ (below_on E0.out s4)).mono ?_)); rintro e wd ⟨rfl, hbd⟩; have s5 := below_on s4 hbd) | (go_at_call 87; refine (SM.out _).mono ?_; rintro e we ⟨rfl, rfl⟩))
                have Q := Lib.hid s5
                clear s1 s2 s3 s4 s5 hba hbb hbc hbd
                cases hxs : (x == s)
                · have HC := Lib.hid (HS.out (by rw [HA.out, HKS.out, HK4.out]; have : x ≠ s := by simpa using hxs
                                                 simp [this]))
                  go_wp2_with fail
                  go_roundw
                  case rel => exact ⟨t + 1, by omega, by go_num, HC, Q⟩
                  case measure => simp [intOf]; omega
                · have HC := Lib.hid (HNO.out (by rw [HA.out, HKS.out, HK4.out]; simp [show x = s by simpa using hxs]))
                  go_wp2_with fail
                  go_ret
                  exact ⟨ret_bool HC.out.symm, below_on E0.out Q.out⟩
            · have HBT := Lib.hid hbt
              obtain ⟨y, hy⟩ : ∃ y, y = Zo.At n l 0 t := ⟨_, rfl⟩
              have HY := Lib.hid hy
              have A0 := Lib.hid (show ∀ W, Below w.heap.size w W → Calls Tryz.prog 138 #[.agg #[.int .i64 n, .slice (some a) len cap], .int .i64 0, .int .i64 t] W (Made (.int .i64 y) W) from fun W h' => by rw [hy]; exact AT.out 0 t W (by omega) htn h')
              clear hy
              cases hy1 : (y == 1)
              · have HA := Lib.hid (show kpA n l i j t = false by rw [KA.out, ← HY.out]; have : y ≠ 1 := by simpa using hy1
                                                                  simp [this])
                have HY1 := Lib.hid hy1
                clear hbt hi0
                go_wp2_with fail
                refine (made_as (BD.out t j _ htn hj (below_on E0.out B1.out)) HBT.out).mono ?_
                rintro e w5 ⟨rfl, hb5⟩
                have B5 := Lib.hid (below_on B1.out hb5)
                clear hb5 b0 b1
                obtain ⟨b0, b1⟩ := KS.out _ B5.out
                go_wp2_with fail
                refine (A0.out _ (below_on E0.out B5.out)).mono ?_
                rintro e w6 ⟨rfl, hb6⟩
                have B6 := Lib.hid (below_on B5.out hb6)
                clear hb6 b0 b1
                obtain ⟨b0, b1⟩ := KS.out _ B6.out
                have HY2 := HY1.out
                go_wp2_with fail
                clear b0 b1
                cases hfk : fiB n l t
                · have HFK := Lib.hid hfk
                  have HC := Lib.hid (HS.out (by rw [HA.out, KC.out, hfk]; simp))
                  clear hfk
                  refine wp_region_held_drew (S := (fun w' => w'.cell? ⟨w.heap.size, 0, none⟩ = some (.int .i64 n) ∧ w'.cell? ⟨w.heap.size, 1, none⟩ = some (.slice (some a) len cap))) (by kernel_rfl) (KS.out _ B6.out.drew) (fun h0 => ?_)
                  refine tkH (i := 0) (v := ?v34) rfl (Or.inl ⟨by rfl, ?hy34⟩) h0 ?rest34
                  case hy34 => (intro w' hS; (try dsimp only at hS); go_simp; try (with_reducible rfl))
                  simp only [Act.put, sA, sB, sD, sE, sF]
                  refine tkH (i := 1) (v := ?v35) rfl (Or.inl ⟨by rfl, ?hy35⟩) h0 ?rest35
                  case hy35 => (intro w' hS; (try dsimp only at hS); go_simp; try (with_reducible rfl))
                  simp only [Act.put, sZ]
                  refine wpAnyH_ready (rs := [2]) (by kernel_rfl) (by simp) (AllReadyH.cons rfl (fun K hK => ?_) AllReadyH.nil)
                  rw [if_pos (by rfl)]
                  go_simp
                  refine (made_as (FI.out t _ htn (below_on E0.out B6.out.drew)) HFK.out).mono ?_
                  rintro e wa ⟨rfl, hba⟩
                  have qa := below_on B6.out.drew hba
                  go_simp
                  refine hK.out _ _ (KS.out _ qa) (fun h0_1 => ?_)
                  clear hK K h0
                  refine tkH (i := 3) (v := ?v36) rfl (Or.inl ⟨by rfl, ?hy36⟩) h0_1 ?rest36
                  case hy36 => (intro w' hS; (try dsimp only at hS); go_simp; try (with_reducible rfl))
                  simp only [Act.put, sZ]
                  refine tkH (i := 4) (v := undef) rfl (Or.inr ⟨by rfl, rfl⟩) h0_1 ?_
                  simp only [Act.put, sZ]
                  refine tkH (i := 5) (v := undef) rfl (Or.inr ⟨by rfl, rfl⟩) h0_1 ?_
                  simp only [Act.put, sZ]
                  refine tkH (i := 6) (v := undef) rfl (Or.inr ⟨by rfl, rfl⟩) h0_1 ?_
                  simp only [Act.put, sZ]
                  refine tkH (i := 7) (v := ?v37) rfl (Or.inl ⟨by rfl, ?hy37⟩) h0_1 ?rest37
                  case hy37 => (intro w' hS; (try dsimp only at hS); go_simp; try (with_reducible rfl))
                  simp only [Act.put, sZ]
                  refine tkH (i := 8) (v := ?v38) rfl (Or.inl ⟨by rfl, ?hy38⟩) h0_1 ?rest38
                  case hy38 => (intro w' hS; (try dsimp only at hS); go_simp; try (with_reducible rfl))
                  simp only [Act.put, sZ]
                  refine tkH (i := 9) (v := undef) rfl (Or.inr ⟨by rfl, rfl⟩) h0_1 ?_
                  simp only [Act.put, sZ]
                  refine tkH (i := 10) (v := undef) rfl (Or.inr ⟨by rfl, rfl⟩) h0_1 ?_
                  simp only [Act.put, sZ]
                  refine tkH (i := 11) (v := undef) rfl (Or.inr ⟨by rfl, rfl⟩) h0_1 ?_
                  simp only [Act.put, sZ]
                  refine tkH (i := 12) (v := ?v39) rfl (Or.inl ⟨by rfl, ?hy39⟩) h0_1 ?rest39
                  case hy39 => (intro w' hS; (try dsimp only at hS); go_simp; try (with_reducible rfl))
                  simp only [Act.put, sZ]
                  refine tkH (i := 13) (v := ?v40) rfl (Or.inl ⟨by rfl, ?hy40⟩) h0_1 ?rest40
                  case hy40 => (intro w' hS; (try dsimp only at hS); go_simp; try (with_reducible rfl))
                  simp only [Act.put, sZ]
                  refine tkH (i := 14) (v := undef) rfl (Or.inr ⟨by rfl, rfl⟩) h0_1 ?_
                  simp only [Act.put, sZ]
                  refine tkH (i := 15) (v := undef) rfl (Or.inr ⟨by rfl, rfl⟩) h0_1 ?_
                  simp only [Act.put, sZ]
                  refine tkH (i := 16) (v := undef) rfl (Or.inr ⟨by rfl, rfl⟩) h0_1 ?_
                  simp only [Act.put, sZ]
                  refine tkH (i := 17) (v := undef) rfl (Or.inr ⟨by rfl, rfl⟩) h0_1 ?_
                  simp only [Act.put, sZ]
                  refine tkH (i := 18) (v := undef) rfl (Or.inr ⟨by rfl, rfl⟩) h0_1 ?_
                  simp only [Act.put, sZ]
                  refine tkH (i := 19) (v := undef) rfl (Or.inr ⟨by rfl, rfl⟩) h0_1 ?_
                  simp only [Act.put, sZ]
                  refine tkH (i := 20) (v := undef) rfl (Or.inr ⟨by rfl, rfl⟩) h0_1 ?_
                  simp only [Act.put, sZ]
                  refine tkH (i := 21) (v := undef) rfl (Or.inr ⟨by rfl, rfl⟩) h0_1 ?_
                  simp only [Act.put, sZ]
                  refine tkH (i := 22) (v := undef) rfl (Or.inr ⟨by rfl, rfl⟩) h0_1 ?_
                  simp only [Act.put, sZ]
                  refine tkH (i := 23) (v := undef) rfl (Or.inr ⟨by rfl, rfl⟩) h0_1 ?_
                  simp only [Act.put, sZ]
                  refine tkH (i := 24) (v := undef) rfl (Or.inr ⟨by rfl, rfl⟩) h0_1 ?_
                  simp only [Act.put, sZ]
                  refine tkH (i := 25) (v := undef) rfl (Or.inr ⟨by rfl, rfl⟩) h0_1 ?_
                  simp only [Act.put, sZ]
                  refine tkH (i := 26) (v := undef) rfl (Or.inr ⟨by rfl, rfl⟩) h0_1 ?_
                  simp only [Act.put, sZ]
                  refine tkH (i := 27) (v := undef) rfl (Or.inr ⟨by rfl, rfl⟩) h0_1 ?_
                  simp only [Act.put, sZ]
                  refine tkH (i := 28) (v := ?v41) rfl (Or.inl ⟨by rfl, ?hy41⟩) h0_1 ?rest41
                  case hy41 => (intro w' hS; (try dsimp only at hS); go_simp; try (with_reducible rfl))
                  simp only [Act.put, sZ]
                  refine wpAnyH_done (by kernel_rfl) ?_ _
                  have Q := Lib.hid qa
                  clear hba qa
                  go_wp2_with fail
                  go_roundw
                  case rel => exact ⟨t + 1, by omega, by go_num, HC, Q⟩
                  case measure => simp [intOf]; omega
                · have HFK := Lib.hid hfk
                  by_cases ei : t = i
                  · have D3 : ((t : Int) != (i : Int)) = false := by simp; omega
                    have HC := Lib.hid (HS.out (by rw [HA.out, KC.out]; simp [ei]))
                    clear hfk ei
                    refine wp_region_held_drew (S := (fun w' => w'.cell? ⟨w.heap.size, 0, none⟩ = some (.int .i64 n) ∧ w'.cell? ⟨w.heap.size, 1, none⟩ = some (.slice (some a) len cap))) (by kernel_rfl) (KS.out _ B6.out.drew) (fun h0 => ?_)
                    refine tkH (i := 0) (v := ?v42) rfl (Or.inl ⟨by rfl, ?hy42⟩) h0 ?rest42
                    case hy42 => (intro w' hS; (try dsimp only at hS); go_simp; try (with_reducible rfl))
                    simp only [Act.put, sA, sB, sD, sE, sF]
                    refine tkH (i := 1) (v := ?v43) rfl (Or.inl ⟨by rfl, ?hy43⟩) h0 ?rest43
                    case hy43 => (intro w' hS; (try dsimp only at hS); go_simp; try (with_reducible rfl))
                    simp only [Act.put, sZ]
                    refine wpAnyH_ready (rs := [2]) (by kernel_rfl) (by simp) (AllReadyH.cons rfl (fun K hK => ?_) AllReadyH.nil)
                    rw [if_pos (by rfl)]
                    go_simp
                    refine (made_as (FI.out t _ htn (below_on E0.out B6.out.drew)) HFK.out).mono ?_
                    rintro e wa ⟨rfl, hba⟩
                    have qa := below_on B6.out.drew hba
                    go_simp
                    refine hK.out _ _ (KS.out _ qa) (fun h0_1 => ?_)
                    clear hK K h0
                    refine tkH (i := 3) (v := ?v44) rfl (Or.inl ⟨by rfl, ?hy44⟩) h0_1 ?rest44
                    case hy44 => (intro w' hS; (try dsimp only at hS); go_simp; try (with_reducible rfl))
                    simp only [Act.put, sZ]
                    refine tkH (i := 4) (v := ?v45) rfl (Or.inl ⟨by rfl, ?hy45⟩) h0_1 ?rest45
                    case hy45 => (intro w' hS; (try dsimp only at hS); go_simp; try (with_reducible rfl))
                    simp only [Act.put, sZ]
                    refine tkH (i := 5) (v := ?v46) rfl (Or.inl ⟨by rfl, ?hy46⟩) h0_1 ?rest46
                    case hy46 => (intro w' hS; (try dsimp only at hS); go_simp; try (with_reducible rfl))
                    simp only [Act.put, sZ]
                    refine tkH (i := 6) (v := ?v47) rfl (Or.inl ⟨by rfl, ?hy47⟩) h0_1 ?rest47
                    case hy47 => (intro w' hS; (try dsimp only at hS); go_simp; try (with_reducible rfl))
                    simp only [Act.put, sZ]
                    refine tkH (i := 7) (v := ?v48) rfl (Or.inl ⟨by rfl, ?hy48⟩) h0_1 ?rest48
                    case hy48 => (intro w' hS; (try dsimp only at hS); go_simp; try (with_reducible rfl))
                    simp only [Act.put, sZ]
                    refine tkH (i := 8) (v := ?v49) rfl (Or.inl ⟨by rfl, ?hy49⟩) h0_1 ?rest49
                    case hy49 => (intro w' hS; (try dsimp only at hS); go_simp; try (with_reducible rfl))
                    simp only [Act.put, sZ]
                    refine tkH (i := 9) (v := undef) rfl (Or.inr ⟨by rfl, rfl⟩) h0_1 ?_
                    simp only [Act.put, sZ]
                    refine tkH (i := 10) (v := undef) rfl (Or.inr ⟨by rfl, rfl⟩) h0_1 ?_
                    simp only [Act.put, sZ]
                    refine tkH (i := 11) (v := undef) rfl (Or.inr ⟨by rfl, rfl⟩) h0_1 ?_
                    simp only [Act.put, sZ]
                    refine tkH (i := 12) (v := ?v50) rfl (Or.inl ⟨by rfl, ?hy50⟩) h0_1 ?rest50
                    case hy50 => (intro w' hS; (try dsimp only at hS); go_simp; try (with_reducible rfl))
                    simp only [Act.put, sZ]
                    refine tkH (i := 13) (v := ?v51) rfl (Or.inl ⟨by rfl, ?hy51⟩) h0_1 ?rest51
                    case hy51 => (intro w' hS; (try dsimp only at hS); go_simp; try (with_reducible rfl))
                    simp only [Act.put, sZ]
                    refine tkH (i := 14) (v := undef) rfl (Or.inr ⟨by rfl, rfl⟩) h0_1 ?_
                    simp only [Act.put, sZ]
                    refine tkH (i := 15) (v := undef) rfl (Or.inr ⟨by rfl, rfl⟩) h0_1 ?_
                    simp only [Act.put, sZ]
                    refine tkH (i := 16) (v := undef) rfl (Or.inr ⟨by rfl, rfl⟩) h0_1 ?_
                    simp only [Act.put, sZ]
                    refine tkH (i := 17) (v := undef) rfl (Or.inr ⟨by rfl, rfl⟩) h0_1 ?_
                    simp only [Act.put, sZ]
                    refine tkH (i := 18) (v := undef) rfl (Or.inr ⟨by rfl, rfl⟩) h0_1 ?_
                    simp only [Act.put, sZ]
                    refine tkH (i := 19) (v := undef) rfl (Or.inr ⟨by rfl, rfl⟩) h0_1 ?_
                    simp only [Act.put, sZ]
                    refine tkH (i := 20) (v := undef) rfl (Or.inr ⟨by rfl, rfl⟩) h0_1 ?_
                    simp only [Act.put, sZ]
                    refine tkH (i := 21) (v := undef) rfl (Or.inr ⟨by rfl, rfl⟩) h0_1 ?_
                    simp only [Act.put, sZ]
                    refine tkH (i := 22) (v := undef) rfl (Or.inr ⟨by rfl, rfl⟩) h0_1 ?_
                    simp only [Act.put, sZ]
                    refine tkH (i := 23) (v := undef) rfl (Or.inr ⟨by rfl, rfl⟩) h0_1 ?_
                    simp only [Act.put, sZ]
                    refine tkH (i := 24) (v := undef) rfl (Or.inr ⟨by rfl, rfl⟩) h0_1 ?_
                    simp only [Act.put, sZ]
                    refine tkH (i := 25) (v := undef) rfl (Or.inr ⟨by rfl, rfl⟩) h0_1 ?_
                    simp only [Act.put, sZ]
                    refine tkH (i := 26) (v := undef) rfl (Or.inr ⟨by rfl, rfl⟩) h0_1 ?_
                    simp only [Act.put, sZ]
                    refine tkH (i := 27) (v := undef) rfl (Or.inr ⟨by rfl, rfl⟩) h0_1 ?_
                    simp only [Act.put, sZ]
                    refine tkH (i := 28) (v := ?v52) rfl (Or.inl ⟨by rfl, ?hy52⟩) h0_1 ?rest52
                    case hy52 => (intro w' hS; (try dsimp only at hS); go_simp; try (with_reducible rfl))
                    simp only [Act.put, sZ]
                    refine wpAnyH_done (by kernel_rfl) ?_ _
                    have Q := Lib.hid qa
                    clear hba qa
                    go_wp2_with fail
                    go_roundw
                    case rel => exact ⟨t + 1, by omega, by go_num, HC, Q⟩
                    case measure => simp [intOf]; omega
                  have D3 : ((t : Int) != (i : Int)) = true := by simp; omega
                  by_cases ej : t = j
                  · have D4 : ((t : Int) != (j : Int)) = false := by simp; omega
                    have HC := Lib.hid (HS.out (by rw [HA.out, KC.out]; simp [ej]))
                    clear hfk ei ej
                    refine wp_region_held_drew (S := (fun w' => w'.cell? ⟨w.heap.size, 0, none⟩ = some (.int .i64 n) ∧ w'.cell? ⟨w.heap.size, 1, none⟩ = some (.slice (some a) len cap))) (by kernel_rfl) (KS.out _ B6.out.drew) (fun h0 => ?_)
                    refine tkH (i := 0) (v := ?v53) rfl (Or.inl ⟨by rfl, ?hy53⟩) h0 ?rest53
                    case hy53 => (intro w' hS; (try dsimp only at hS); go_simp; try (with_reducible rfl))
                    simp only [Act.put, sA, sB, sD, sE, sF]
                    refine tkH (i := 1) (v := ?v54) rfl (Or.inl ⟨by rfl, ?hy54⟩) h0 ?rest54
                    case hy54 => (intro w' hS; (try dsimp only at hS); go_simp; try (with_reducible rfl))
                    simp only [Act.put, sZ]
                    refine wpAnyH_ready (rs := [2]) (by kernel_rfl) (by simp) (AllReadyH.cons rfl (fun K hK => ?_) AllReadyH.nil)
                    rw [if_pos (by rfl)]
                    go_simp
                    refine (made_as (FI.out t _ htn (below_on E0.out B6.out.drew)) HFK.out).mono ?_
                    rintro e wa ⟨rfl, hba⟩
                    have qa := below_on B6.out.drew hba
                    go_simp
                    refine hK.out _ _ (KS.out _ qa) (fun h0_1 => ?_)
                    clear hK K h0
                    refine tkH (i := 3) (v := ?v55) rfl (Or.inl ⟨by rfl, ?hy55⟩) h0_1 ?rest55
                    case hy55 => (intro w' hS; (try dsimp only at hS); go_simp; try (with_reducible rfl))
                    simp only [Act.put, sZ]
                    refine tkH (i := 4) (v := ?v56) rfl (Or.inl ⟨by rfl, ?hy56⟩) h0_1 ?rest56
                    case hy56 => (intro w' hS; (try dsimp only at hS); go_simp; try (with_reducible rfl))
                    simp only [Act.put, sZ]
                    refine tkH (i := 5) (v := ?v57) rfl (Or.inl ⟨by rfl, ?hy57⟩) h0_1 ?rest57
                    case hy57 => (intro w' hS; (try dsimp only at hS); go_simp; try (with_reducible rfl))
                    simp only [Act.put, sZ]
                    refine tkH (i := 6) (v := ?v58) rfl (Or.inl ⟨by rfl, ?hy58⟩) h0_1 ?rest58
                    case hy58 => (intro w' hS; (try dsimp only at hS); go_simp; try (with_reducible rfl))
                    simp only [Act.put, sZ]
                    refine tkH (i := 7) (v := ?v59) rfl (Or.inl ⟨by rfl, ?hy59⟩) h0_1 ?rest59
                    case hy59 => (intro w' hS; (try dsimp only at hS); go_simp; try (with_reducible rfl))
                    simp only [Act.put, sZ]
                    refine tkH (i := 8) (v := ?v60) rfl (Or.inl ⟨by rfl, ?hy60⟩) h0_1 ?rest60
                    case hy60 => (intro w' hS; (try dsimp only at hS); go_simp; try (with_reducible rfl))
                    simp only [Act.put, sZ]
                    refine tkH (i := 9) (v := ?v61) rfl (Or.inl ⟨by rfl, ?hy61⟩) h0_1 ?rest61
                    case hy61 => (intro w' hS; (try dsimp only at hS); go_simp; try (with_reducible rfl))
                    simp only [Act.put, sZ]
                    refine tkH (i := 10) (v := ?v62) rfl (Or.inl ⟨by rfl, ?hy62⟩) h0_1 ?rest62
                    case hy62 => (intro w' hS; (try dsimp only at hS); go_simp; try (with_reducible rfl))
                    simp only [Act.put, sZ]
                    refine tkH (i := 11) (v := ?v63) rfl (Or.inl ⟨by rfl, ?hy63⟩) h0_1 ?rest63
                    case hy63 => (intro w' hS; (try dsimp only at hS); go_simp; try (with_reducible rfl))
                    simp only [Act.put, sZ]
                    refine tkH (i := 12) (v := ?v64) rfl (Or.inl ⟨by rfl, ?hy64⟩) h0_1 ?rest64
                    case hy64 => (intro w' hS; (try dsimp only at hS); go_simp; try (with_reducible rfl))
                    simp only [Act.put, sZ]
                    refine tkH (i := 13) (v := ?v65) rfl (Or.inl ⟨by rfl, ?hy65⟩) h0_1 ?rest65
                    case hy65 => (intro w' hS; (try dsimp only at hS); go_simp; try (with_reducible rfl))
                    simp only [Act.put, sZ]
                    refine tkH (i := 14) (v := undef) rfl (Or.inr ⟨by rfl, rfl⟩) h0_1 ?_
                    simp only [Act.put, sZ]
                    refine tkH (i := 15) (v := undef) rfl (Or.inr ⟨by rfl, rfl⟩) h0_1 ?_
                    simp only [Act.put, sZ]
                    refine tkH (i := 16) (v := undef) rfl (Or.inr ⟨by rfl, rfl⟩) h0_1 ?_
                    simp only [Act.put, sZ]
                    refine tkH (i := 17) (v := undef) rfl (Or.inr ⟨by rfl, rfl⟩) h0_1 ?_
                    simp only [Act.put, sZ]
                    refine tkH (i := 18) (v := undef) rfl (Or.inr ⟨by rfl, rfl⟩) h0_1 ?_
                    simp only [Act.put, sZ]
                    refine tkH (i := 19) (v := undef) rfl (Or.inr ⟨by rfl, rfl⟩) h0_1 ?_
                    simp only [Act.put, sZ]
                    refine tkH (i := 20) (v := undef) rfl (Or.inr ⟨by rfl, rfl⟩) h0_1 ?_
                    simp only [Act.put, sZ]
                    refine tkH (i := 21) (v := undef) rfl (Or.inr ⟨by rfl, rfl⟩) h0_1 ?_
                    simp only [Act.put, sZ]
                    refine tkH (i := 22) (v := undef) rfl (Or.inr ⟨by rfl, rfl⟩) h0_1 ?_
                    simp only [Act.put, sZ]
                    refine tkH (i := 23) (v := undef) rfl (Or.inr ⟨by rfl, rfl⟩) h0_1 ?_
                    simp only [Act.put, sZ]
                    refine tkH (i := 24) (v := undef) rfl (Or.inr ⟨by rfl, rfl⟩) h0_1 ?_
                    simp only [Act.put, sZ]
                    refine tkH (i := 25) (v := undef) rfl (Or.inr ⟨by rfl, rfl⟩) h0_1 ?_
                    simp only [Act.put, sZ]
                    refine tkH (i := 26) (v := undef) rfl (Or.inr ⟨by rfl, rfl⟩) h0_1 ?_
                    simp only [Act.put, sZ]
                    refine tkH (i := 27) (v := undef) rfl (Or.inr ⟨by rfl, rfl⟩) h0_1 ?_
                    simp only [Act.put, sZ]
                    refine tkH (i := 28) (v := ?v66) rfl (Or.inl ⟨by rfl, ?hy66⟩) h0_1 ?rest66
                    case hy66 => (intro w' hS; (try dsimp only at hS); go_simp; try (with_reducible rfl))
                    simp only [Act.put, sZ]
                    refine wpAnyH_done (by kernel_rfl) ?_ _
                    have Q := Lib.hid qa
                    clear hba qa
                    go_wp2_with fail
                    go_roundw
                    case rel => exact ⟨t + 1, by omega, by go_num, HC, Q⟩
                    case measure => simp [intOf]; omega
                  have D4 : ((t : Int) != (j : Int)) = true := by simp; omega
                  have HKS := Lib.hid (show kpC n l i j t = kpS n l i j t by rw [KC.out, hfk]; simp [ei, ej])
                  have HK4 := Lib.hid (show kpS n l i j t = decide (x = Zo.smW (Zo.At n l i t) (Zo.At n l t j)) by rw [HX.out]; rfl)
                  have A2 := Lib.hid (fun W h' => AT.out i t W hi htn h')
                  have A3 := Lib.hid (fun W h' => AT.out t j W htn hj h')
                  generalize Zo.At n l i t = y at *
                  generalize Zo.At n l t j = z at *
                  have SM := Lib.hid (fun W => sum2_any y z W)
                  generalize Zo.smW y z = s at *
                  clear hfk ei ej
                  have s1 : Below w0.heap.size w0 _ := B6.out.drew
                  go_region_held3 (fun w' => w'.cell? ⟨w.heap.size, 0, none⟩ = some (.int .i64 n) ∧ w'.cell? ⟨w.heap.size, 1, none⟩ = some (.slice (some a) len cap)) (first | exact KS.out _ s1 | exact KS.out _ s2 | exact KS.out _ s3 | exact KS.out _ s4 | exact KS.out _ s5)
                    (first | (go_at_call 163; refine (made_as (FI.out t _ htn (below_on E0.out s1)) HFK.out).mono ?_; rintro e wa ⟨rfl, hba⟩; have s2 := below_on s1 hba) | (go_at_call 138; ((with_reducible refine (A1.out _ (below_on E0.out s2)).mono ?_)); rintro e wb ⟨rfl, hbb⟩; have s3 := below_on s2 hbb) | (go_at_call 138; ((with_reducible refine (A2.out _ (below_on E0.out s3)).mono ?_)); rintro e wc ⟨rfl, hbc⟩; have s4 := below_on s3 hbc) | (go_at_call 138; ((with_reducible refine (A3.out _ (below_on E0.out s4)).mono ?_)); rintro e wd ⟨rfl, hbd⟩; have s5 := below_on s4 hbd) | (go_at_call 87; refine (SM.out _).mono ?_; rintro e we ⟨rfl, rfl⟩))
                  have Q := Lib.hid s5
                  clear s1 s2 s3 s4 s5 hba hbb hbc hbd
                  cases hxs : (x == s)
                  · have HC := Lib.hid (HS.out (by rw [HA.out, HKS.out, HK4.out]; have : x ≠ s := by simpa using hxs
                                                   simp [this]))
                    go_wp2_with fail
                    go_roundw
                    case rel => exact ⟨t + 1, by omega, by go_num, HC, Q⟩
                    case measure => simp [intOf]; omega
                  · have HC := Lib.hid (HNO.out (by rw [HA.out, HKS.out, HK4.out]; simp [show x = s by simpa using hxs]))
                    go_wp2_with fail
                    go_ret
                    exact ⟨ret_bool HC.out.symm, below_on E0.out Q.out⟩
              · have HA := Lib.hid (show kpB n l i j = false from HNO.out (by rw [KA.out, ← HY.out, hbt]; simp [hi0, show y = 1 by simpa using hy1]))
                have HY1 := Lib.hid hy1
                clear hbt hi0
                go_wp2_with fail
                refine (made_as (BD.out t j _ htn hj (below_on E0.out B1.out)) HBT.out).mono ?_
                rintro e w5 ⟨rfl, hb5⟩
                have B5 := Lib.hid (below_on B1.out hb5)
                clear hb5 b0 b1
                obtain ⟨b0, b1⟩ := KS.out _ B5.out
                go_wp2_with fail
                refine (A0.out _ (below_on E0.out B5.out)).mono ?_
                rintro e w6 ⟨rfl, hb6⟩
                have B6 := Lib.hid (below_on B5.out hb6)
                clear hb6 b0 b1
                obtain ⟨b0, b1⟩ := KS.out _ B6.out
                have HY2 := HY1.out
                clear b0 b1
                go_wp2_with fail
                go_ret
                exact ⟨ret_bool HA.out.symm, below_on E0.out B6.out⟩
          · have D0 : ((i : Int) == 0) = false := by simp; omega
            have HA := Lib.hid (show kpA n l i j t = false by rw [KA.out]; simp [hi0])
            clear hi0
            go_wp2_with fail
            clear b0 b1
            cases hfk : fiB n l t
            · have HFK := Lib.hid hfk
              have HC := Lib.hid (HS.out (by rw [HA.out, KC.out, hfk]; simp))
              clear hfk
              refine wp_region_held_drew (S := (fun w' => w'.cell? ⟨w.heap.size, 0, none⟩ = some (.int .i64 n) ∧ w'.cell? ⟨w.heap.size, 1, none⟩ = some (.slice (some a) len cap))) (by kernel_rfl) (KS.out _ B1.out.drew) (fun h0 => ?_)
              refine tkH (i := 0) (v := ?v67) rfl (Or.inl ⟨by rfl, ?hy67⟩) h0 ?rest67
              case hy67 => (intro w' hS; (try dsimp only at hS); go_simp; try (with_reducible rfl))
              simp only [Act.put, sA, sB, sD, sE, sF]
              refine tkH (i := 1) (v := ?v68) rfl (Or.inl ⟨by rfl, ?hy68⟩) h0 ?rest68
              case hy68 => (intro w' hS; (try dsimp only at hS); go_simp; try (with_reducible rfl))
              simp only [Act.put, sZ]
              refine wpAnyH_ready (rs := [2]) (by kernel_rfl) (by simp) (AllReadyH.cons rfl (fun K hK => ?_) AllReadyH.nil)
              rw [if_pos (by rfl)]
              go_simp
              refine (made_as (FI.out t _ htn (below_on E0.out B1.out.drew)) HFK.out).mono ?_
              rintro e wa ⟨rfl, hba⟩
              have qa := below_on B1.out.drew hba
              go_simp
              refine hK.out _ _ (KS.out _ qa) (fun h0_1 => ?_)
              clear hK K h0
              refine tkH (i := 3) (v := ?v69) rfl (Or.inl ⟨by rfl, ?hy69⟩) h0_1 ?rest69
              case hy69 => (intro w' hS; (try dsimp only at hS); go_simp; try (with_reducible rfl))
              simp only [Act.put, sZ]
              refine tkH (i := 4) (v := undef) rfl (Or.inr ⟨by rfl, rfl⟩) h0_1 ?_
              simp only [Act.put, sZ]
              refine tkH (i := 5) (v := undef) rfl (Or.inr ⟨by rfl, rfl⟩) h0_1 ?_
              simp only [Act.put, sZ]
              refine tkH (i := 6) (v := undef) rfl (Or.inr ⟨by rfl, rfl⟩) h0_1 ?_
              simp only [Act.put, sZ]
              refine tkH (i := 7) (v := ?v70) rfl (Or.inl ⟨by rfl, ?hy70⟩) h0_1 ?rest70
              case hy70 => (intro w' hS; (try dsimp only at hS); go_simp; try (with_reducible rfl))
              simp only [Act.put, sZ]
              refine tkH (i := 8) (v := ?v71) rfl (Or.inl ⟨by rfl, ?hy71⟩) h0_1 ?rest71
              case hy71 => (intro w' hS; (try dsimp only at hS); go_simp; try (with_reducible rfl))
              simp only [Act.put, sZ]
              refine tkH (i := 9) (v := undef) rfl (Or.inr ⟨by rfl, rfl⟩) h0_1 ?_
              simp only [Act.put, sZ]
              refine tkH (i := 10) (v := undef) rfl (Or.inr ⟨by rfl, rfl⟩) h0_1 ?_
              simp only [Act.put, sZ]
              refine tkH (i := 11) (v := undef) rfl (Or.inr ⟨by rfl, rfl⟩) h0_1 ?_
              simp only [Act.put, sZ]
              refine tkH (i := 12) (v := ?v72) rfl (Or.inl ⟨by rfl, ?hy72⟩) h0_1 ?rest72
              case hy72 => (intro w' hS; (try dsimp only at hS); go_simp; try (with_reducible rfl))
              simp only [Act.put, sZ]
              refine tkH (i := 13) (v := ?v73) rfl (Or.inl ⟨by rfl, ?hy73⟩) h0_1 ?rest73
              case hy73 => (intro w' hS; (try dsimp only at hS); go_simp; try (with_reducible rfl))
              simp only [Act.put, sZ]
              refine tkH (i := 14) (v := undef) rfl (Or.inr ⟨by rfl, rfl⟩) h0_1 ?_
              simp only [Act.put, sZ]
              refine tkH (i := 15) (v := undef) rfl (Or.inr ⟨by rfl, rfl⟩) h0_1 ?_
              simp only [Act.put, sZ]
              refine tkH (i := 16) (v := undef) rfl (Or.inr ⟨by rfl, rfl⟩) h0_1 ?_
              simp only [Act.put, sZ]
              refine tkH (i := 17) (v := undef) rfl (Or.inr ⟨by rfl, rfl⟩) h0_1 ?_
              simp only [Act.put, sZ]
              refine tkH (i := 18) (v := undef) rfl (Or.inr ⟨by rfl, rfl⟩) h0_1 ?_
              simp only [Act.put, sZ]
              refine tkH (i := 19) (v := undef) rfl (Or.inr ⟨by rfl, rfl⟩) h0_1 ?_
              simp only [Act.put, sZ]
              refine tkH (i := 20) (v := undef) rfl (Or.inr ⟨by rfl, rfl⟩) h0_1 ?_
              simp only [Act.put, sZ]
              refine tkH (i := 21) (v := undef) rfl (Or.inr ⟨by rfl, rfl⟩) h0_1 ?_
              simp only [Act.put, sZ]
              refine tkH (i := 22) (v := undef) rfl (Or.inr ⟨by rfl, rfl⟩) h0_1 ?_
              simp only [Act.put, sZ]
              refine tkH (i := 23) (v := undef) rfl (Or.inr ⟨by rfl, rfl⟩) h0_1 ?_
              simp only [Act.put, sZ]
              refine tkH (i := 24) (v := undef) rfl (Or.inr ⟨by rfl, rfl⟩) h0_1 ?_
              simp only [Act.put, sZ]
              refine tkH (i := 25) (v := undef) rfl (Or.inr ⟨by rfl, rfl⟩) h0_1 ?_
              simp only [Act.put, sZ]
              refine tkH (i := 26) (v := undef) rfl (Or.inr ⟨by rfl, rfl⟩) h0_1 ?_
              simp only [Act.put, sZ]
              refine tkH (i := 27) (v := undef) rfl (Or.inr ⟨by rfl, rfl⟩) h0_1 ?_
              simp only [Act.put, sZ]
              refine tkH (i := 28) (v := ?v74) rfl (Or.inl ⟨by rfl, ?hy74⟩) h0_1 ?rest74
              case hy74 => (intro w' hS; (try dsimp only at hS); go_simp; try (with_reducible rfl))
              simp only [Act.put, sZ]
              refine wpAnyH_done (by kernel_rfl) ?_ _
              have Q := Lib.hid qa
              clear hba qa
              go_wp2_with fail
              go_roundw
              case rel => exact ⟨t + 1, by omega, by go_num, HC, Q⟩
              case measure => simp [intOf]; omega
            · have HFK := Lib.hid hfk
              by_cases ei : t = i
              · have D3 : ((t : Int) != (i : Int)) = false := by simp; omega
                have HC := Lib.hid (HS.out (by rw [HA.out, KC.out]; simp [ei]))
                clear hfk ei
                refine wp_region_held_drew (S := (fun w' => w'.cell? ⟨w.heap.size, 0, none⟩ = some (.int .i64 n) ∧ w'.cell? ⟨w.heap.size, 1, none⟩ = some (.slice (some a) len cap))) (by kernel_rfl) (KS.out _ B1.out.drew) (fun h0 => ?_)
                refine tkH (i := 0) (v := ?v75) rfl (Or.inl ⟨by rfl, ?hy75⟩) h0 ?rest75
                case hy75 => (intro w' hS; (try dsimp only at hS); go_simp; try (with_reducible rfl))
                simp only [Act.put, sA, sB, sD, sE, sF]
                refine tkH (i := 1) (v := ?v76) rfl (Or.inl ⟨by rfl, ?hy76⟩) h0 ?rest76
                case hy76 => (intro w' hS; (try dsimp only at hS); go_simp; try (with_reducible rfl))
                simp only [Act.put, sZ]
                refine wpAnyH_ready (rs := [2]) (by kernel_rfl) (by simp) (AllReadyH.cons rfl (fun K hK => ?_) AllReadyH.nil)
                rw [if_pos (by rfl)]
                go_simp
                refine (made_as (FI.out t _ htn (below_on E0.out B1.out.drew)) HFK.out).mono ?_
                rintro e wa ⟨rfl, hba⟩
                have qa := below_on B1.out.drew hba
                go_simp
                refine hK.out _ _ (KS.out _ qa) (fun h0_1 => ?_)
                clear hK K h0
                refine tkH (i := 3) (v := ?v77) rfl (Or.inl ⟨by rfl, ?hy77⟩) h0_1 ?rest77
                case hy77 => (intro w' hS; (try dsimp only at hS); go_simp; try (with_reducible rfl))
                simp only [Act.put, sZ]
                refine tkH (i := 4) (v := ?v78) rfl (Or.inl ⟨by rfl, ?hy78⟩) h0_1 ?rest78
                case hy78 => (intro w' hS; (try dsimp only at hS); go_simp; try (with_reducible rfl))
                simp only [Act.put, sZ]
                refine tkH (i := 5) (v := ?v79) rfl (Or.inl ⟨by rfl, ?hy79⟩) h0_1 ?rest79
                case hy79 => (intro w' hS; (try dsimp only at hS); go_simp; try (with_reducible rfl))
                simp only [Act.put, sZ]
                refine tkH (i := 6) (v := ?v80) rfl (Or.inl ⟨by rfl, ?hy80⟩) h0_1 ?rest80
                case hy80 => (intro w' hS; (try dsimp only at hS); go_simp; try (with_reducible rfl))
                simp only [Act.put, sZ]
                refine tkH (i := 7) (v := ?v81) rfl (Or.inl ⟨by rfl, ?hy81⟩) h0_1 ?rest81
                case hy81 => (intro w' hS; (try dsimp only at hS); go_simp; try (with_reducible rfl))
                simp only [Act.put, sZ]
                refine tkH (i := 8) (v := ?v82) rfl (Or.inl ⟨by rfl, ?hy82⟩) h0_1 ?rest82
                case hy82 => (intro w' hS; (try dsimp only at hS); go_simp; try (with_reducible rfl))
                simp only [Act.put, sZ]
                refine tkH (i := 9) (v := undef) rfl (Or.inr ⟨by rfl, rfl⟩) h0_1 ?_
                simp only [Act.put, sZ]
                refine tkH (i := 10) (v := undef) rfl (Or.inr ⟨by rfl, rfl⟩) h0_1 ?_
                simp only [Act.put, sZ]
                refine tkH (i := 11) (v := undef) rfl (Or.inr ⟨by rfl, rfl⟩) h0_1 ?_
                simp only [Act.put, sZ]
                refine tkH (i := 12) (v := ?v83) rfl (Or.inl ⟨by rfl, ?hy83⟩) h0_1 ?rest83
                case hy83 => (intro w' hS; (try dsimp only at hS); go_simp; try (with_reducible rfl))
                simp only [Act.put, sZ]
                refine tkH (i := 13) (v := ?v84) rfl (Or.inl ⟨by rfl, ?hy84⟩) h0_1 ?rest84
                case hy84 => (intro w' hS; (try dsimp only at hS); go_simp; try (with_reducible rfl))
                simp only [Act.put, sZ]
                refine tkH (i := 14) (v := undef) rfl (Or.inr ⟨by rfl, rfl⟩) h0_1 ?_
                simp only [Act.put, sZ]
                refine tkH (i := 15) (v := undef) rfl (Or.inr ⟨by rfl, rfl⟩) h0_1 ?_
                simp only [Act.put, sZ]
                refine tkH (i := 16) (v := undef) rfl (Or.inr ⟨by rfl, rfl⟩) h0_1 ?_
                simp only [Act.put, sZ]
                refine tkH (i := 17) (v := undef) rfl (Or.inr ⟨by rfl, rfl⟩) h0_1 ?_
                simp only [Act.put, sZ]
                refine tkH (i := 18) (v := undef) rfl (Or.inr ⟨by rfl, rfl⟩) h0_1 ?_
                simp only [Act.put, sZ]
                refine tkH (i := 19) (v := undef) rfl (Or.inr ⟨by rfl, rfl⟩) h0_1 ?_
                simp only [Act.put, sZ]
                refine tkH (i := 20) (v := undef) rfl (Or.inr ⟨by rfl, rfl⟩) h0_1 ?_
                simp only [Act.put, sZ]
                refine tkH (i := 21) (v := undef) rfl (Or.inr ⟨by rfl, rfl⟩) h0_1 ?_
                simp only [Act.put, sZ]
                refine tkH (i := 22) (v := undef) rfl (Or.inr ⟨by rfl, rfl⟩) h0_1 ?_
                simp only [Act.put, sZ]
                refine tkH (i := 23) (v := undef) rfl (Or.inr ⟨by rfl, rfl⟩) h0_1 ?_
                simp only [Act.put, sZ]
                refine tkH (i := 24) (v := undef) rfl (Or.inr ⟨by rfl, rfl⟩) h0_1 ?_
                simp only [Act.put, sZ]
                refine tkH (i := 25) (v := undef) rfl (Or.inr ⟨by rfl, rfl⟩) h0_1 ?_
                simp only [Act.put, sZ]
                refine tkH (i := 26) (v := undef) rfl (Or.inr ⟨by rfl, rfl⟩) h0_1 ?_
                simp only [Act.put, sZ]
                refine tkH (i := 27) (v := undef) rfl (Or.inr ⟨by rfl, rfl⟩) h0_1 ?_
                simp only [Act.put, sZ]
                refine tkH (i := 28) (v := ?v85) rfl (Or.inl ⟨by rfl, ?hy85⟩) h0_1 ?rest85
                case hy85 => (intro w' hS; (try dsimp only at hS); go_simp; try (with_reducible rfl))
                simp only [Act.put, sZ]
                refine wpAnyH_done (by kernel_rfl) ?_ _
                have Q := Lib.hid qa
                clear hba qa
                go_wp2_with fail
                go_roundw
                case rel => exact ⟨t + 1, by omega, by go_num, HC, Q⟩
                case measure => simp [intOf]; omega
              have D3 : ((t : Int) != (i : Int)) = true := by simp; omega
              by_cases ej : t = j
              · have D4 : ((t : Int) != (j : Int)) = false := by simp; omega
                have HC := Lib.hid (HS.out (by rw [HA.out, KC.out]; simp [ej]))
                clear hfk ei ej
                refine wp_region_held_drew (S := (fun w' => w'.cell? ⟨w.heap.size, 0, none⟩ = some (.int .i64 n) ∧ w'.cell? ⟨w.heap.size, 1, none⟩ = some (.slice (some a) len cap))) (by kernel_rfl) (KS.out _ B1.out.drew) (fun h0 => ?_)
                refine tkH (i := 0) (v := ?v86) rfl (Or.inl ⟨by rfl, ?hy86⟩) h0 ?rest86
                case hy86 => (intro w' hS; (try dsimp only at hS); go_simp; try (with_reducible rfl))
                simp only [Act.put, sA, sB, sD, sE, sF]
                refine tkH (i := 1) (v := ?v87) rfl (Or.inl ⟨by rfl, ?hy87⟩) h0 ?rest87
                case hy87 => (intro w' hS; (try dsimp only at hS); go_simp; try (with_reducible rfl))
                simp only [Act.put, sZ]
                refine wpAnyH_ready (rs := [2]) (by kernel_rfl) (by simp) (AllReadyH.cons rfl (fun K hK => ?_) AllReadyH.nil)
                rw [if_pos (by rfl)]
                go_simp
                refine (made_as (FI.out t _ htn (below_on E0.out B1.out.drew)) HFK.out).mono ?_
                rintro e wa ⟨rfl, hba⟩
                have qa := below_on B1.out.drew hba
                go_simp
                refine hK.out _ _ (KS.out _ qa) (fun h0_1 => ?_)
                clear hK K h0
                refine tkH (i := 3) (v := ?v88) rfl (Or.inl ⟨by rfl, ?hy88⟩) h0_1 ?rest88
                case hy88 => (intro w' hS; (try dsimp only at hS); go_simp; try (with_reducible rfl))
                simp only [Act.put, sZ]
                refine tkH (i := 4) (v := ?v89) rfl (Or.inl ⟨by rfl, ?hy89⟩) h0_1 ?rest89
                case hy89 => (intro w' hS; (try dsimp only at hS); go_simp; try (with_reducible rfl))
                simp only [Act.put, sZ]
                refine tkH (i := 5) (v := ?v90) rfl (Or.inl ⟨by rfl, ?hy90⟩) h0_1 ?rest90
                case hy90 => (intro w' hS; (try dsimp only at hS); go_simp; try (with_reducible rfl))
                simp only [Act.put, sZ]
                refine tkH (i := 6) (v := ?v91) rfl (Or.inl ⟨by rfl, ?hy91⟩) h0_1 ?rest91
                case hy91 => (intro w' hS; (try dsimp only at hS); go_simp; try (with_reducible rfl))
                simp only [Act.put, sZ]
                refine tkH (i := 7) (v := ?v92) rfl (Or.inl ⟨by rfl, ?hy92⟩) h0_1 ?rest92
                case hy92 => (intro w' hS; (try dsimp only at hS); go_simp; try (with_reducible rfl))
                simp only [Act.put, sZ]
                refine tkH (i := 8) (v := ?v93) rfl (Or.inl ⟨by rfl, ?hy93⟩) h0_1 ?rest93
                case hy93 => (intro w' hS; (try dsimp only at hS); go_simp; try (with_reducible rfl))
                simp only [Act.put, sZ]
                refine tkH (i := 9) (v := ?v94) rfl (Or.inl ⟨by rfl, ?hy94⟩) h0_1 ?rest94
                case hy94 => (intro w' hS; (try dsimp only at hS); go_simp; try (with_reducible rfl))
                simp only [Act.put, sZ]
                refine tkH (i := 10) (v := ?v95) rfl (Or.inl ⟨by rfl, ?hy95⟩) h0_1 ?rest95
                case hy95 => (intro w' hS; (try dsimp only at hS); go_simp; try (with_reducible rfl))
                simp only [Act.put, sZ]
                refine tkH (i := 11) (v := ?v96) rfl (Or.inl ⟨by rfl, ?hy96⟩) h0_1 ?rest96
                case hy96 => (intro w' hS; (try dsimp only at hS); go_simp; try (with_reducible rfl))
                simp only [Act.put, sZ]
                refine tkH (i := 12) (v := ?v97) rfl (Or.inl ⟨by rfl, ?hy97⟩) h0_1 ?rest97
                case hy97 => (intro w' hS; (try dsimp only at hS); go_simp; try (with_reducible rfl))
                simp only [Act.put, sZ]
                refine tkH (i := 13) (v := ?v98) rfl (Or.inl ⟨by rfl, ?hy98⟩) h0_1 ?rest98
                case hy98 => (intro w' hS; (try dsimp only at hS); go_simp; try (with_reducible rfl))
                simp only [Act.put, sZ]
                refine tkH (i := 14) (v := undef) rfl (Or.inr ⟨by rfl, rfl⟩) h0_1 ?_
                simp only [Act.put, sZ]
                refine tkH (i := 15) (v := undef) rfl (Or.inr ⟨by rfl, rfl⟩) h0_1 ?_
                simp only [Act.put, sZ]
                refine tkH (i := 16) (v := undef) rfl (Or.inr ⟨by rfl, rfl⟩) h0_1 ?_
                simp only [Act.put, sZ]
                refine tkH (i := 17) (v := undef) rfl (Or.inr ⟨by rfl, rfl⟩) h0_1 ?_
                simp only [Act.put, sZ]
                refine tkH (i := 18) (v := undef) rfl (Or.inr ⟨by rfl, rfl⟩) h0_1 ?_
                simp only [Act.put, sZ]
                refine tkH (i := 19) (v := undef) rfl (Or.inr ⟨by rfl, rfl⟩) h0_1 ?_
                simp only [Act.put, sZ]
                refine tkH (i := 20) (v := undef) rfl (Or.inr ⟨by rfl, rfl⟩) h0_1 ?_
                simp only [Act.put, sZ]
                refine tkH (i := 21) (v := undef) rfl (Or.inr ⟨by rfl, rfl⟩) h0_1 ?_
                simp only [Act.put, sZ]
                refine tkH (i := 22) (v := undef) rfl (Or.inr ⟨by rfl, rfl⟩) h0_1 ?_
                simp only [Act.put, sZ]
                refine tkH (i := 23) (v := undef) rfl (Or.inr ⟨by rfl, rfl⟩) h0_1 ?_
                simp only [Act.put, sZ]
                refine tkH (i := 24) (v := undef) rfl (Or.inr ⟨by rfl, rfl⟩) h0_1 ?_
                simp only [Act.put, sZ]
                refine tkH (i := 25) (v := undef) rfl (Or.inr ⟨by rfl, rfl⟩) h0_1 ?_
                simp only [Act.put, sZ]
                refine tkH (i := 26) (v := undef) rfl (Or.inr ⟨by rfl, rfl⟩) h0_1 ?_
                simp only [Act.put, sZ]
                refine tkH (i := 27) (v := undef) rfl (Or.inr ⟨by rfl, rfl⟩) h0_1 ?_
                simp only [Act.put, sZ]
                refine tkH (i := 28) (v := ?v99) rfl (Or.inl ⟨by rfl, ?hy99⟩) h0_1 ?rest99
                case hy99 => (intro w' hS; (try dsimp only at hS); go_simp; try (with_reducible rfl))
                simp only [Act.put, sZ]
                refine wpAnyH_done (by kernel_rfl) ?_ _
                have Q := Lib.hid qa
                clear hba qa
                go_wp2_with fail
                go_roundw
                case rel => exact ⟨t + 1, by omega, by go_num, HC, Q⟩
                case measure => simp [intOf]; omega
              have D4 : ((t : Int) != (j : Int)) = true := by simp; omega
              have HKS := Lib.hid (show kpC n l i j t = kpS n l i j t by rw [KC.out, hfk]; simp [ei, ej])
              have HK4 := Lib.hid (show kpS n l i j t = decide (x = Zo.smW (Zo.At n l i t) (Zo.At n l t j)) by rw [HX.out]; rfl)
              have A2 := Lib.hid (fun W h' => AT.out i t W hi htn h')
              have A3 := Lib.hid (fun W h' => AT.out t j W htn hj h')
              generalize Zo.At n l i t = y at *
              generalize Zo.At n l t j = z at *
              have SM := Lib.hid (fun W => sum2_any y z W)
              generalize Zo.smW y z = s at *
              clear hfk ei ej
              have s1 : Below w0.heap.size w0 _ := B1.out.drew
              go_region_held3 (fun w' => w'.cell? ⟨w.heap.size, 0, none⟩ = some (.int .i64 n) ∧ w'.cell? ⟨w.heap.size, 1, none⟩ = some (.slice (some a) len cap)) (first | exact KS.out _ s1 | exact KS.out _ s2 | exact KS.out _ s3 | exact KS.out _ s4 | exact KS.out _ s5)
                (first | (go_at_call 163; refine (made_as (FI.out t _ htn (below_on E0.out s1)) HFK.out).mono ?_; rintro e wa ⟨rfl, hba⟩; have s2 := below_on s1 hba) | (go_at_call 138; ((with_reducible refine (A1.out _ (below_on E0.out s2)).mono ?_)); rintro e wb ⟨rfl, hbb⟩; have s3 := below_on s2 hbb) | (go_at_call 138; ((with_reducible refine (A2.out _ (below_on E0.out s3)).mono ?_)); rintro e wc ⟨rfl, hbc⟩; have s4 := below_on s3 hbc) | (go_at_call 138; ((with_reducible refine (A3.out _ (below_on E0.out s4)).mono ?_)); rintro e wd ⟨rfl, hbd⟩; have s5 := below_on s4 hbd) | (go_at_call 87; refine (SM.out _).mono ?_; rintro e we ⟨rfl, rfl⟩))
              have Q := Lib.hid s5
              clear s1 s2 s3 s4 s5 hba hbb hbc hbd
              cases hxs : (x == s)
              · have HC := Lib.hid (HS.out (by rw [HA.out, HKS.out, HK4.out]; have : x ≠ s := by simpa using hxs
                                               simp [this]))
                go_wp2_with fail
                go_roundw
                case rel => exact ⟨t + 1, by omega, by go_num, HC, Q⟩
                case measure => simp [intOf]; omega
              · have HC := Lib.hid (HNO.out (by rw [HA.out, HKS.out, HK4.out]; simp [show x = s by simpa using hxs]))
                go_wp2_with fail
                go_ret
                exact ⟨ret_bool HC.out.symm, below_on E0.out Q.out⟩
        · have HF := Lib.hid (show kpB n l i j = true by rw [HK3.out]; exact kpM_yes HFI.out HFJ.out (fun k hk => HT.out k (by omega)))
          go_wp2_with fail
          go_ret
          exact ⟨ret_bool HF.out.symm, below_on E0.out B1.out⟩
end Go.Proofs.YtaegiihkgicdnaaGreat
