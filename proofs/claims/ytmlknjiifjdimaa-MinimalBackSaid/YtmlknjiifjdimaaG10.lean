/- Contracts of layer 4's keepsBetween, keeps.; The contract of layer 4's keeps.; Plain mathematics: what is closed, tightened and closed again is what is tightened and closed once.; Plain mathematics: constraints tighten; what Free makes is a zone.; Plain mathematics of layer 4: clocks that are bound are a relation of equivalence; the program's rules by classes are those of the reference. -/
import Derived.Test.YtmlknjiifjdimaaG9
import Derived.Test.YtmlknjiifjdimaaG7

namespace Go.Proofs.Ytmlknjiifjdimaa
open Go.RowKit

set_option maxHeartbeats 6400000 in
theorem between_any (n i j : Nat) (l : List Int) (a : Addr) (cap : Nat) (A : Array Value) (f : Nat → Nat) (w : World) (hn : n ≤ 10) (hi : i ≤ n) (hj : j ≤ n) (hl : l.length = (n + 1) * (n + 1)) (hv : ∀ i j, i ≤ n → j ≤ n → I64 (Zo.At n l i j)) (h : Rd w a l) (hA : Cls A n f) :
    Calls Try.prog 135 #[.agg A, .agg #[.int .i64 n, .slice (some a) l.length cap], .int .i64 i, .int .i64 j] w (Made (.bool (kbB n l f i j)) w) := by
  obtain ⟨len, hlen⟩ : ∃ len, len = l.length := ⟨_, rfl⟩
  have PL := Lib.hid (plain_len (cap := cap) hn hl h hlen)
  have SU := Lib.hid (issum_len (cap := cap) hn hl hv h hlen)
  rw [← hlen]
  obtain ⟨w0, hw0, e0, ks, kr, kc⟩ := czbox n a len cap A f hA w
  have KS := Lib.hid ks
  have KC := Lib.hid kc
  have E0 := Lib.hid e0
  have HW0 := Lib.hid hw0
  have HK := Lib.hid (show kbB n l f i j = (decide (f i = i) && decide (f j = j) && (List.range (n + 1)).all fun k => !(kbX n l f i j k || kbY n l f i j k)) from rfl)
  have ci := kc w0 (Below.refl _ _) i hi
  have cj := kc w0 (Below.refl _ _) j hj
  obtain ⟨b0, b1⟩ := ks w0 (Below.refl _ _)
  clear ks kr kc e0 hw0 hlen hl h hA hv
  by_cases hfi : f i = i
  case neg =>
    have D : (((f i : Nat) : Int) != (i : Int)) = true := by simp; omega
    have HF := Lib.hid (show kbB n l f i j = false by rw [HK.out, decide_eq_false hfi]; rfl)
    clear hfi cj
    generalize f i = y at ci D
    go_enter Try.func135, Try.ntmps135
    go_upto_region 1 with (fail)
    rw [← HW0.out]
    go_wp2_with fail
    go_ret
    exact ⟨ret_bool HF.out.symm, E0.out⟩
  case pos =>
  by_cases hfj : f j = j
  case neg =>
    have D : (((f i : Nat) : Int) != (i : Int)) = false := by simp; omega
    have D2 : (((f j : Nat) : Int) != (j : Int)) = true := by simp; omega
    have HF := Lib.hid (show kbB n l f i j = false by rw [HK.out, decide_eq_false hfj]; simp)
    clear hfi hfj
    generalize f i = y at ci D
    generalize f j = z at cj D2
    go_enter Try.func135, Try.ntmps135
    go_upto_region 1 with (fail)
    rw [← HW0.out]
    go_wp2_with fail
    go_ret
    exact ⟨ret_bool HF.out.symm, E0.out⟩
  case pos =>
  have HFI := Lib.hid hfi
  have HFJ := Lib.hid hfj
  rw [hfi] at ci
  rw [hfj] at cj
  have D : (((i : Nat) : Int) != (i : Int)) = false := by simp
  have D2 : (((j : Nat) : Int) != (j : Int)) = false := by simp
  clear hfi hfj
  have HX := Lib.hid (show ∀ k, kbX n l f i j k = (decide (f k = j) && plB n l i k) from fun k => rfl)
  have HY := Lib.hid (show ∀ k, kbY n l f i j k = (decide (f k = k) && !decide (k = i) && !decide (k = j) && suB (Zo.At n l i k) (Zo.At n l k j) (Zo.At n l i j)) from fun k => rfl)
  go_enter Try.func135, Try.ntmps135
  go_upto_region 1 with (fail)
  rw [← HW0.out]
  go_wp2_with fail
  clear ci cj b0 b1 D D2
  go_loopw [25] (fun s wr => ∃ t : Nat, t ≤ n + 1 ∧ s = .int .i64 t ∧ Hid (∀ k, k < t → (kbX n l f i j k || kbY n l f i j k) = false) ∧ Hid (Below w0.heap.size w0 wr)) (fun s _ => n + 1 - (intOf s).toNat)
  case atStart => exact ⟨0, by omega, rfl, Lib.hid (fun k hk => by omega), Lib.hid (Below.refl _ _)⟩
  case round =>
    obtain ⟨t, ht, rfl, HT, B0⟩ := hrel
    by_cases htn : t ≤ n
    case pos =>
      obtain ⟨b0, b1⟩ := KS.out _ B0.out
      have ct := KC.out _ B0.out t htn
      have HS := Lib.hid (show (kbX n l f i j t || kbY n l f i j t) = false → ∀ k, k < t + 1 → (kbX n l f i j k || kbY n l f i j k) = false from fun h k hk => by
        by_cases e : k = t
        · rw [e]; exact h
        · exact HT.out k (by omega))
      have HNO := Lib.hid (show (kbX n l f i j t || kbY n l f i j t) = true → kbB n l f i j = false from fun h => kbB_no (by omega) h)
      by_cases hx : f t = j
      · have D : (((f t : Nat) : Int) == (j : Int)) = true := by simp; omega
        have HFT := Lib.hid hx
        cases hp : plB n l i t
        · have HP := Lib.hid hp
          have HA := Lib.hid (show kbX n l f i j t = false by rw [HX.out, hp]; simp)
          clear hx hp
          generalize hft : f t = y at ct D
          have HFY := Lib.hid hft
          clear hft
          go_wp2_with fail
          refine (made_as (PL.out i t _ hi htn (below_on E0.out B0.out)) HP.out).mono ?_
          rintro e w1 ⟨rfl, hb1⟩
          have B1 := Lib.hid (below_on B0.out hb1)
          clear hb1 b0 b1 ct
          obtain ⟨b0, b1⟩ := KS.out _ B1.out
          have ct := KC.out _ B1.out t htn
          clear D
          by_cases h1 : f t = t
          case neg =>
            have D1 : (((f t : Nat) : Int) == (t : Int)) = false := by simp; omega
            have HC := Lib.hid (HS.out (by rw [HA.out, HY.out, decide_eq_false h1]; rfl))
            clear h1
            go_wp2_with fail
            go_roundw
            case rel => exact ⟨t + 1, by omega, by go_num, HC, B1⟩
            case measure => simp [intOf]; omega
          case pos =>
            have D1 : (((f t : Nat) : Int) == (t : Int)) = true := by simp; omega
            have H1 := Lib.hid h1
            clear h1
            by_cases h2 : t = i
            case pos =>
              have D2 : ((t : Int) != (i : Int)) = false := by simp; omega
              have HC := Lib.hid (HS.out (by rw [HA.out, HY.out, decide_eq_true h2]; simp))
              clear h2
              go_wp2_with fail
              go_roundw
              case rel => exact ⟨t + 1, by omega, by go_num, HC, B1⟩
              case measure => simp [intOf]; omega
            case neg =>
              have D2 : ((t : Int) != (i : Int)) = true := by simp; omega
              have H2 := Lib.hid h2
              clear h2
              by_cases h3 : t = j
              case pos =>
                have D3 : ((t : Int) != (j : Int)) = false := by simp; omega
                have HC := Lib.hid (HS.out (by rw [HA.out, HY.out, decide_eq_true h3]; simp))
                clear h3
                go_wp2_with fail
                go_roundw
                case rel => exact ⟨t + 1, by omega, by go_num, HC, B1⟩
                case measure => simp [intOf]; omega
              case neg =>
                have D3 : ((t : Int) != (j : Int)) = true := by simp; omega
                have HY2 := Lib.hid (show kbY n l f i j t = suB (Zo.At n l i t) (Zo.At n l t j) (Zo.At n l i j) by rw [HY.out, decide_eq_true H1.out, decide_eq_false H2.out, decide_eq_false h3]; rfl)
                clear h3
                have SU2 := Lib.hid (fun W h' => SU.out i t j W hi htn hj h')
                generalize suB (Zo.At n l i t) (Zo.At n l t j) (Zo.At n l i j) = sb at *
                cases sb
                · have HC := Lib.hid (HS.out (by rw [HA.out, HY2.out]; rfl))
                  go_wp2_with fail
                  refine (SU2.out _ (below_on E0.out B1.out)).mono ?_
                  rintro e w2 ⟨rfl, hb2⟩
                  have B2 := Lib.hid (below_on B1.out hb2)
                  clear hb2 b0 b1 ct
                  go_wp2_with fail
                  go_roundw
                  case rel => exact ⟨t + 1, by omega, by go_num, HC, B2⟩
                  case measure => simp [intOf]; omega
                · have HC := Lib.hid (HNO.out (by rw [HA.out, HY2.out]; rfl))
                  go_wp2_with fail
                  refine (SU2.out _ (below_on E0.out B1.out)).mono ?_
                  rintro e w2 ⟨rfl, hb2⟩
                  have B2 := Lib.hid (below_on B1.out hb2)
                  clear hb2 b0 b1 ct
                  go_wp2_with fail
                  go_ret
                  exact ⟨ret_bool HC.out.symm, below_on E0.out B2.out⟩
        · have HP := Lib.hid hp
          have HF := Lib.hid (HNO.out (by rw [HX.out, hp, decide_eq_true hx]; rfl))
          clear hx hp
          generalize hft : f t = y at ct D
          have HFY := Lib.hid hft
          clear hft
          go_wp2_with fail
          refine (made_as (PL.out i t _ hi htn (below_on E0.out B0.out)) HP.out).mono ?_
          rintro e w1 ⟨rfl, hb1⟩
          have B1 := Lib.hid (below_on B0.out hb1)
          clear hb1 b0 b1 ct
          obtain ⟨b0, b1⟩ := KS.out _ B1.out
          have ct := KC.out _ B1.out t htn
          clear D
          go_wp2_with fail
          go_ret
          exact ⟨ret_bool HF.out.symm, below_on E0.out B1.out⟩
      · have D : (((f t : Nat) : Int) == (j : Int)) = false := by simp; omega
        have HA := Lib.hid (show kbX n l f i j t = false by rw [HX.out, decide_eq_false hx]; rfl)
        clear hx
        by_cases h1 : f t = t
        case neg =>
          have D1 : (((f t : Nat) : Int) == (t : Int)) = false := by simp; omega
          have HC := Lib.hid (HS.out (by rw [HA.out, HY.out, decide_eq_false h1]; rfl))
          clear h1
          go_wp2_with fail
          go_roundw
          case rel => exact ⟨t + 1, by omega, by go_num, HC, B0⟩
          case measure => simp [intOf]; omega
        case pos =>
          have D1 : (((f t : Nat) : Int) == (t : Int)) = true := by simp; omega
          have H1 := Lib.hid h1
          clear h1
          by_cases h2 : t = i
          case pos =>
            have D2 : ((t : Int) != (i : Int)) = false := by simp; omega
            have HC := Lib.hid (HS.out (by rw [HA.out, HY.out, decide_eq_true h2]; simp))
            clear h2
            go_wp2_with fail
            go_roundw
            case rel => exact ⟨t + 1, by omega, by go_num, HC, B0⟩
            case measure => simp [intOf]; omega
          case neg =>
            have D2 : ((t : Int) != (i : Int)) = true := by simp; omega
            have H2 := Lib.hid h2
            clear h2
            by_cases h3 : t = j
            case pos =>
              have D3 : ((t : Int) != (j : Int)) = false := by simp; omega
              have HC := Lib.hid (HS.out (by rw [HA.out, HY.out, decide_eq_true h3]; simp))
              clear h3
              go_wp2_with fail
              go_roundw
              case rel => exact ⟨t + 1, by omega, by go_num, HC, B0⟩
              case measure => simp [intOf]; omega
            case neg =>
              have D3 : ((t : Int) != (j : Int)) = true := by simp; omega
              have HY2 := Lib.hid (show kbY n l f i j t = suB (Zo.At n l i t) (Zo.At n l t j) (Zo.At n l i j) by rw [HY.out, decide_eq_true H1.out, decide_eq_false H2.out, decide_eq_false h3]; rfl)
              clear h3
              have SU2 := Lib.hid (fun W h' => SU.out i t j W hi htn hj h')
              generalize suB (Zo.At n l i t) (Zo.At n l t j) (Zo.At n l i j) = sb at *
              cases sb
              · have HC := Lib.hid (HS.out (by rw [HA.out, HY2.out]; rfl))
                go_wp2_with fail
                refine (SU2.out _ (below_on E0.out B0.out)).mono ?_
                rintro e w2 ⟨rfl, hb2⟩
                have B2 := Lib.hid (below_on B0.out hb2)
                clear hb2 b0 b1 ct
                go_wp2_with fail
                go_roundw
                case rel => exact ⟨t + 1, by omega, by go_num, HC, B2⟩
                case measure => simp [intOf]; omega
              · have HC := Lib.hid (HNO.out (by rw [HA.out, HY2.out]; rfl))
                go_wp2_with fail
                refine (SU2.out _ (below_on E0.out B0.out)).mono ?_
                rintro e w2 ⟨rfl, hb2⟩
                have B2 := Lib.hid (below_on B0.out hb2)
                clear hb2 b0 b1 ct
                go_wp2_with fail
                go_ret
                exact ⟨ret_bool HC.out.symm, below_on E0.out B2.out⟩
    case neg =>
      have HF := Lib.hid (show kbB n l f i j = true from kbB_yes HFI.out HFJ.out (fun k hk => HT.out k (by omega)))
      go_wp2_with fail
      go_ret
      exact ⟨ret_bool HF.out.symm, below_on E0.out B0.out⟩
end Go.Proofs.Ytmlknjiifjdimaa

namespace Go.Proofs.Ytmlknjiifjdimaa
open Go.RowKit

set_option maxHeartbeats 6400000 in
theorem keeps_any (n i j : Nat) (l : List Int) (a : Addr) (cap : Nat) (A : Array Value) (f : Nat → Nat) (w : World) (hn : n ≤ 10) (hi : i ≤ n) (hj : j ≤ n) (hl : l.length = (n + 1) * (n + 1)) (hv : ∀ i j, i ≤ n → j ≤ n → I64 (Zo.At n l i j)) (h : Rd w a l) (hA : Cls A n f) :
    Calls Try.prog 111 #[.agg A, .agg #[.int .i64 n, .slice (some a) l.length cap], .int .i64 i, .int .i64 j] w (Made (.bool (ksB n l f i j)) w) := by
  obtain ⟨len, hlen⟩ : ∃ len, len = l.length := ⟨_, rfl⟩
  have AT := Lib.hid (fun W h' => miat_len (cap := cap) hn hl h hlen i j W hi hj h')
  have WI := Lib.hid (show ∀ W, Below w.heap.size w W → Calls Try.prog 134 #[.agg A, .agg #[.int .i64 n, .slice (some a) len cap], .int .i64 i, .int .i64 j] W (Made (.bool (kwB n l f i j)) W) from fun W h' => by have := within_any n i j l a cap A f W hn hi hj hl (h.on h') hA; rw [← hlen] at this; exact this)
  have BE := Lib.hid (show ∀ W, Below w.heap.size w W → Calls Try.prog 135 #[.agg A, .agg #[.int .i64 n, .slice (some a) len cap], .int .i64 i, .int .i64 j] W (Made (.bool (kbB n l f i j)) W) from fun W h' => by have := between_any n i j l a cap A f W hn hi hj hl hv (h.on h') hA; rw [← hlen] at this; exact this)
  rw [← hlen]
  obtain ⟨w0, hw0, e0, ks, kr, kc⟩ := czbox n a len cap A f hA w
  have KS := Lib.hid ks
  have KC := Lib.hid kc
  have KR := Lib.hid kr
  have E0 := Lib.hid e0
  have HW0 := Lib.hid hw0
  have HK := Lib.hid (show ksB n l f i j = (!decide (i = j) && !decide (Zo.At n l i j = 1099511627776) && (if f i = f j then kwB n l f i j else kbB n l f i j)) from rfl)
  obtain ⟨b0, b1⟩ := ks w0 (Below.refl _ _)
  clear ks kr kc e0 hw0 hlen hl h hA hv
  by_cases hij : i = j
  case pos =>
    have D : ((i : Int) == (j : Int)) = true := by simp; omega
    have HF := Lib.hid (show ksB n l f i j = false by rw [HK.out, decide_eq_true hij]; rfl)
    clear hij
    go_enter Try.func111, Try.ntmps111
    go_upto_region 1 with (fail)
    rw [← HW0.out]
    go_wp2_with fail
    go_ret
    exact ⟨ret_bool HF.out.symm, E0.out⟩
  case neg =>
  have D : ((i : Int) == (j : Int)) = false := by simp; omega
  have HIJ := Lib.hid (decide_eq_false hij)
  clear hij
  generalize Zo.At n l i j = x at AT HK
  cases hno : (x == 1099511627776)
  case true =>
    have HF := Lib.hid (show ksB n l f i j = false by rw [HK.out]; simp [show x = 1099511627776 by simpa using hno])
    go_enter Try.func111, Try.ntmps111
    go_upto_region 1 with (fail)
    rw [← HW0.out]
    go_wp2_with fail
    refine (AT.out _ E0.out).mono ?_
    rintro e w1 ⟨rfl, hb1⟩
    have B1 := Lib.hid hb1
    clear hb1 b0 b1
    go_wp2_with fail
    go_ret
    exact ⟨ret_bool HF.out.symm, below_on E0.out B1.out⟩
  case false =>
    have HK2 := Lib.hid (show ksB n l f i j = (if f i = f j then kwB n l f i j else kbB n l f i j) by
      rw [HK.out, HIJ.out]
      have : x ≠ 1099511627776 := by simpa using hno
      simp [this])
    go_enter Try.func111, Try.ntmps111
    go_upto_region 1 with (fail)
    rw [← HW0.out]
    go_wp2_with fail
    refine (AT.out _ E0.out).mono ?_
    rintro e w1 ⟨rfl, hb1⟩
    have B1 := Lib.hid hb1
    clear hb1 b0 b1
    have ci := KC.out _ B1.out i hi
    have cj := KC.out _ B1.out j hj
    by_cases hf : f i = f j
    case pos =>
      have HF := Lib.hid (show kwB n l f i j = ksB n l f i j by rw [HK2.out, if_pos hf])
      have DF : (((f i : Nat) : Int) == ((f j : Nat) : Int)) = true := by simp [hf]
      clear hf
      generalize kwB n l f i j = r at *
      generalize f i = y at *
      generalize f j = z at *
      go_wp2_with fail
      go_quiet (fail)
      clear ci cj
      have B2 := Lib.hid (below_drewN B1.out nq)
      obtain ⟨b0, b1⟩ := KS.out _ B2.out
      go_wp2_with (refine wplc_load rfl _ rfl _ rfl _ (KR.out _ B2.out) ?_)
      refine (WI.out _ (below_on E0.out B2.out)).mono ?_
      rintro e w3 ⟨rfl, hb3⟩
      clear b0 b1
      have B3 := Lib.hid (below_on B2.out hb3)
      clear hb3
      go_wp2_with fail
      go_ret
      exact ⟨ret_bool HF.out, below_on E0.out B3.out⟩
    case neg =>
      have HF := Lib.hid (show kbB n l f i j = ksB n l f i j by rw [HK2.out, if_neg hf])
      have DF : (((f i : Nat) : Int) == ((f j : Nat) : Int)) = false := by simp; omega
      clear hf
      generalize kbB n l f i j = r at *
      generalize f i = y at *
      generalize f j = z at *
      go_wp2_with fail
      go_quiet (fail)
      clear ci cj
      have B2 := Lib.hid (below_drewN B1.out nq)
      obtain ⟨b0, b1⟩ := KS.out _ B2.out
      go_wp2_with (refine wplc_load rfl _ rfl _ rfl _ (KR.out _ B2.out) ?_)
      refine (BE.out _ (below_on E0.out B2.out)).mono ?_
      rintro e w3 ⟨rfl, hb3⟩
      clear b0 b1
      have B3 := Lib.hid (below_on B2.out hb3)
      clear hb3
      go_wp2_with fail
      go_ret
      exact ⟨ret_bool HF.out, below_on E0.out B3.out⟩
end Go.Proofs.Ytmlknjiifjdimaa

namespace Go.Proofs.Ytmlknjiifjdimaa.Zo

theorem le_dec {a b : Int} (ha : a ≤ 1099511627776) (hb : b ≤ 1099511627776) : le (dec a) (dec b) ↔ a ≤ b := by
  unfold dec
  by_cases h1 : a = 1099511627776
  · by_cases h2 : b = 1099511627776
    · simp [h1, h2, le]
    · rw [if_pos h1, if_neg h2]; simp [le]; omega
  · by_cases h2 : b = 1099511627776
    · rw [if_neg h1, if_pos h2]; simp [le]; omega
    · rw [if_neg h1, if_neg h2]; simp [le]

/-- A closed matrix: it keeps to the inequality of triangles, and its diagonal is 'at most 0'. -/
structure Cl (n : Nat) (c : List Int) (D : Nat → Nat → Lm) : Prop where
  rep : Rep n c D
  tri : Tri (n + 1) D
  bd : Bd D
  dg : ∀ k, k ≤ n → D k k = some 1
  row : ∀ a, a ≤ n → At n c 0 a ≤ 1

theorem Cl.top {n : Nat} {c : List Int} {D : Nat → Nat → Lm} (h : Cl n c D) {a b : Nat} (ha : a ≤ n) (hb : b ≤ n) : At n c a b ≤ 1099511627776 := by
  rw [h.rep.2 a b ha hb]
  cases e : D a b with
  | none => simp [enc]
  | some x => have := h.bd a b x e; simp [enc]; omega

theorem Cl.dec {n : Nat} {c : List Int} {D : Nat → Nat → Lm} (h : Cl n c D) {a b : Nat} (ha : a ≤ n) (hb : b ≤ n) : D a b = dec (At n c a b) := by
  rw [h.rep.2 a b ha hb]
  cases e : D a b with
  | none => simp [enc, Zo.dec]
  | some x =>
    have := h.bd a b x e
    show some x = Zo.dec x
    unfold Zo.dec
    rw [if_neg (by omega)]

theorem Cl.one {n : Nat} {c : List Int} {D : Nat → Nat → Lm} (h : Cl n c D) {a : Nat} (ha : a ≤ n) : At n c a a = 1 := by
  rw [h.rep.2 a a ha ha, h.dg a ha]; rfl

theorem clo_lows {n : Nat} {l : List Int} (hl : l.length = (n + 1) * (n + 1)) : ∀ a, a ≤ n → At n (clo n l) a a ≤ 1 ∧ At n (clo n l) 0 a ≤ 1 := by
  intro a ha
  have h := pre_low hl a ha
  have b1 := clo_below hl (k := 0) (i := 0) (by omega) (by omega) ha ha
  have b2 := clo_below hl (k := 0) (i := 0) (by omega) (by omega) (show 0 ≤ n by omega) ha
  have e : (List.range 0).foldl (rlxJ n 0) (rnd n l 0) = pre n l := rfl
  rw [e] at b1 b2
  exact ⟨Int.le_trans b1 h.1, Int.le_trans b2 h.2⟩

theorem Cl.of {n : Nat} {l : List Int} (hn : n ≤ 10) (hl : l.length = (n + 1) * (n + 1)) (hv : ∀ a b, a ≤ n → b ≤ n → Wl (At n l a b)) (hd : ∀ i, i ≤ n → 1 ≤ At n (clo n l) i i) : Cl n (clo n l) (fw (mat n l) (n + 1)) := by
  obtain ⟨h1, h2, h3, h4⟩ := fw_bd hn hl hv hd
  exact ⟨h1, h2, h3, h4, fun a ha => (clo_lows hl a ha).2⟩

/-- What lies below a matrix and is closed lies below its closing, which has no short cycle. -/
theorem clo_over {n : Nat} {l c : List Int} {C : Nat → Nat → Lm} (hn : n ≤ 10) (hl : l.length = (n + 1) * (n + 1)) (hv : ∀ a b, a ≤ n → b ≤ n → Wl (At n l a b)) (hC : Cl n c C) (h : ∀ a b, a ≤ n → b ≤ n → At n c a b ≤ At n l a b) :
    (∀ i, i ≤ n → 1 ≤ At n (clo n l) i i) ∧ ∀ a b, a ≤ n → b ≤ n → At n c a b ≤ At n (clo n l) a b := by
  have pv := pre_wl hl hv
  have hp : ∀ a b, a ≤ n → b ≤ n → At n c a b ≤ At n (pre n l) a b := by
    intro a b ha hb
    rw [pre_at hl ha hb]
    have := h a b ha hb
    by_cases e : a = 0 ∨ a = b
    · rw [if_pos e]
      have h1 : At n c a b ≤ 1 := by
        rcases e with rfl | rfl
        · exact hC.row b hb
        · rw [hC.one ha]; omega
      omega
    · rw [if_neg e]; exact this
  have hle : ∀ a b, le (C a b) (mat n l a b) := by
    intro a b
    unfold mat
    by_cases e : a ≤ n ∧ b ≤ n
    · rw [if_pos e, hC.dec e.1 e.2, le_dec (hC.top e.1 e.2) (by have := pv a b e.1 e.2; unfold Wl at this; omega)]
      exact hp a b e.1 e.2
    · rw [if_neg e]; exact le_none _
  have below := below_fw hC.tri hle
  have hm : ∀ i j x, mat n l i j = some x → x ≤ 4294967297 ∧ -4294967297 + 1 ≤ x := by
    intro i j x h
    unfold mat at h
    split at h
    · rename_i c
      have := pv i j c.1 c.2
      unfold Zo.dec at h
      unfold Wl at this
      split at h
      · simp at h
      · simp at h; omega
    · simp at h
  have dg : ∀ t, t ≤ n + 1 → ∀ k, k ≤ n → fw (mat n l) t k k = some 1 := by
    intro t ht k hk
    have h1 := below t ht k k
    rw [hC.dg k hk] at h1
    have h2 := fw_le_m (mat n l) t k k
    have h3 : le (mat n l k k) (some 1) := by
      unfold mat
      rw [if_pos ⟨hk, hk⟩, show (some (1 : Int) : Lm) = Zo.dec 1 from rfl, le_dec (by have := pv k k hk hk; unfold Wl at this; omega) (by omega)]
      exact (pre_low hl k hk).1
    exact le_antisymm (le_trans h2 h3) h1
  have rep : ∀ t, t ≤ n + 1 → Rep n (rnd n l t) (fw (mat n l) t) := by
    intro t
    induction t with
    | zero =>
      intro _
      refine ⟨rnd_length hl 0 (by omega), fun a b ha hb => ?_⟩
      show At n (pre n l) a b = enc (mat n l a b)
      unfold mat
      rw [if_pos ⟨ha, hb⟩, enc_dec]
    | succ t ih =>
      intro ht
      have hr := ih (by omega)
      have hdg : ∀ k, k < t → fw (mat n l) k k k = some 1 := fun k hk => dg k (by omega) k (by omega)
      have hB : Bd (fw (mat n l) t) := by
        intro i j x h
        constructor
        · have := fw_low (c := 4294967297) (by omega) (fun i j x h => (hm i j x h).2) t i j x h
          have p : (2 : Int) ^ t ≤ 2 ^ 11 := by
            have : (2 : Nat) ^ t ≤ 2 ^ 11 := Nat.pow_le_pow_right (by omega) (by omega)
            exact_mod_cast this
          omega
        · obtain ⟨S, _, hx⟩ := fw_bound (U := 4294967297) (fun i j x h => (hm i j x h).1) t hdg i j x h
          have := cnt_le S t
          omega
      rw [rnd_succ]
      exact round_rep hB (dg t (by omega) t (by omega)) (by omega) hr
  have hr := rep (n + 1) (Nat.le_refl _)
  have hd : ∀ i, i ≤ n → 1 ≤ At n (clo n l) i i := by
    intro i hi
    rw [show clo n l = rnd n l (n + 1) from rfl, hr.2 i i hi hi, dg (n + 1) (Nat.le_refl _) i hi]
    simp [enc]
  refine ⟨hd, fun a b ha hb => ?_⟩
  have hc2 := Cl.of hn hl hv hd
  have h1 := below (n + 1) (Nat.le_refl _) a b
  rw [hC.dec ha hb, hc2.dec ha hb, le_dec (hC.top ha hb) (hc2.top ha hb)] at h1
  exact h1

/-- One matrix is below another one. -/
def Le (n : Nat) (c l : List Int) : Prop := ∀ a b, a ≤ n → b ≤ n → At n c a b ≤ At n l a b

theorem Le.trans {n : Nat} {a b c : List Int} (h : Le n a b) (g : Le n b c) : Le n a c := fun i j hi hj => Int.le_trans (h i j hi hj) (g i j hi hj)

theorem Le.anti {n : Nat} {x y : List Int} (hx : x.length = (n + 1) * (n + 1)) (hy : y.length = (n + 1) * (n + 1)) (h : Le n x y) (g : Le n y x) : x = y :=
  At_ext hx hy fun a b ha hb => Int.le_antisymm (h a b ha hb) (g a b ha hb)

theorem le_clo {n : Nat} {l : List Int} (hl : l.length = (n + 1) * (n + 1)) : Le n (clo n l) l := by
  intro a b ha hb
  have b1 := clo_below hl (k := 0) (i := 0) (by omega) (by omega) ha hb
  have e : (List.range 0).foldl (rlxJ n 0) (rnd n l 0) = pre n l := rfl
  rw [e, pre_at hl ha hb] at b1
  split at b1 <;> omega

/-- Closed, tightened and closed again: the same as tightened and closed. T: what tightens. -/
theorem clo_twice {n : Nat} {x : List Int} {T : List Int → List Int} (hn : n ≤ 10) (hx : x.length = (n + 1) * (n + 1)) (hvx : ∀ a b, a ≤ n → b ≤ n → Wl (At n x a b)) (hTl : ∀ u : List Int, (T u).length = u.length)
    (hTle : ∀ u : List Int, u.length = (n + 1) * (n + 1) → Le n (T u) u) (hT : ∀ u v c : List Int, u.length = (n + 1) * (n + 1) → v.length = (n + 1) * (n + 1) → Le n c u → Le n c (T v) → Le n c (T u))
    (hv1 : ∀ a b, a ≤ n → b ≤ n → Wl (At n (T x) a b)) (hv2 : ∀ a b, a ≤ n → b ≤ n → Wl (At n (T (clo n x)) a b)) :
    ((∀ i, i ≤ n → 1 ≤ At n (clo n (T x)) i i) ↔ ∀ i, i ≤ n → 1 ≤ At n (clo n (T (clo n x))) i i) ∧ ((∀ i, i ≤ n → 1 ≤ At n (clo n (T x)) i i) → clo n (T x) = clo n (T (clo n x))) := by
  have lx : (clo n x).length = (n + 1) * (n + 1) := by rw [clo_length, hx]
  have l1 : (T x).length = (n + 1) * (n + 1) := by rw [hTl, hx]
  have l2 : (T (clo n x)).length = (n + 1) * (n + 1) := by rw [hTl, lx]
  -- from the tightened one to the one that was closed first
  have A : (∀ i, i ≤ n → 1 ≤ At n (clo n (T x)) i i) → (∀ i, i ≤ n → 1 ≤ At n (clo n (T (clo n x))) i i) ∧ Le n (clo n (T x)) (clo n (T (clo n x))) := by
    intro hd
    have c := Cl.of hn l1 hv1 hd
    have g1 : Le n (clo n (T x)) x := (le_clo l1).trans (hTle x hx)
    have g2 : Le n (clo n (T x)) (clo n x) := (clo_over hn hx hvx c g1).2
    exact clo_over hn l2 hv2 c (hT _ x _ lx hx g2 (le_clo l1))
  have B : (∀ i, i ≤ n → 1 ≤ At n (clo n (T (clo n x))) i i) → (∀ i, i ≤ n → 1 ≤ At n (clo n (T x)) i i) ∧ Le n (clo n (T (clo n x))) (clo n (T x)) := by
    intro hd
    have c := Cl.of hn l2 hv2 hd
    have g1 : Le n (clo n (T (clo n x))) x := ((le_clo l2).trans (hTle _ lx)).trans (le_clo hx)
    exact clo_over hn l1 hv1 c (hT x _ _ hx lx g1 (le_clo l2))
  refine ⟨⟨fun h => (A h).1, fun h => (B h).1⟩, fun h => ?_⟩
  obtain ⟨h1, h2⟩ := A h
  exact Le.anti (by rw [clo_length, l1]) (by rw [clo_length, l2]) h2 (B h1).2
end Go.Proofs.Ytmlknjiifjdimaa.Zo

namespace Go.Proofs.Ytmlknjiifjdimaa
open Go.RowKit

theorem wl_of {n : Nat} {l : List Int} (hl : l.length = (n + 1) * (n + 1)) (hv : rdL l = true) : ∀ a b, a ≤ n → b ≤ n → Zo.Wl (Zo.At n l a b) := fun a b ha hb => (vl_of hl hv a b ha hb).wl

theorem cloB_iff {n : Nat} {l : List Int} : cloB n l = false ↔ ∀ i, i ≤ n → 1 ≤ Zo.At n (Zo.clo n l) i i :=
  ⟨diag_of, fun h => cloB_no fun i hi => by have := h i (by omega); omega⟩

theorem cloE_zero {n : Nat} {l : List Int} : cloE n l = 0 ↔ cloB n l = false ∧ rdL (Zo.clo n l) = true := by
  unfold cloE rdL
  cases cloB n l <;> cases (Zo.clo n l).all lvB <;> simp

/-- What is closed without an error is a valid zone. -/
theorem clo_chk {n : Nat} {l : List Int} (hn : n ≤ 10) (hl : l.length = (n + 1) * (n + 1)) (hv : ∀ a b, a ≤ n → b ≤ n → Zo.Wl (Zo.At n l a b)) (h : cloE n l = 0) : chkE n (Zo.clo n l) = 0 := by
  obtain ⟨hB, hr⟩ := cloE_zero.1 h
  have hd := diag_of hB
  have lo := Zo.clo_lows hl
  have hcl : (Zo.clo n l).length = (n + 1) * (n + 1) := by rw [Zo.clo_length, hl]
  have tr := Zo.clo_sums hn hl hv hd
  refine chkE_ok hn hcl (fun i hi j hj => ?_) (fun i hi j hj k hk => ?_)
  · unfold okI
    rw [lv_of_all hcl hr i j (by omega) (by omega)]
    simp only [Bool.true_and, Bool.and_eq_true, Bool.or_eq_true, decide_eq_true_eq]
    constructor
    · by_cases c : i = j
      · right
        subst c
        have := hd i (by omega)
        have := (lo i (by omega)).1
        omega
      · exact Or.inl c
    · by_cases c : i = 0
      · right
        subst c
        exact (lo j (by omega)).2
      · exact Or.inl c
  · unfold okT
    simpa using tr i j k (by omega) (by omega) (by omega)

theorem chk_tri {n : Nat} {l : List Int} (h : chkE n l = 0) : ∀ i j k, i ≤ n → j ≤ n → k ≤ n → Zo.At n l i j ≤ Zo.smW (Zo.At n l i k) (Zo.At n l k j) := by
  have hc : chkB n l = true := by
    unfold chkE at h
    cases e : chkB n l
    · rw [e] at h; simp at h
    · rfl
  unfold chkB at hc
  simp only [Bool.and_eq_true, Int.toNat_natCast] at hc
  have h2 := chk2_iff.1 hc.2
  intro i j k hi hj hk
  have := h2 i (by omega) j (by omega) k (by omega)
  unfold okT at this
  simpa using this

theorem chk_cl {n : Nat} {l : List Int} (hn : n ≤ 10) (hl : l.length = (n + 1) * (n + 1)) (h : chkE n l = 0) : ∃ D, Zo.Cl n l D := by
  have hv := (chk_64 h).2
  obtain ⟨hB, e⟩ := (chk_iff hn hl hv).1 h
  have := Zo.Cl.of hn hl (wl_of hl hv) (diag_of hB)
  rw [e] at this
  exact ⟨_, this⟩

/-- A matrix from its elements. -/
def mk (n : Nat) (G : Nat → Nat → Int) : List Int := (List.range ((n + 1) * (n + 1))).map fun k => G (k / (n + 1)) (k % (n + 1))

theorem mk_len (n : Nat) (G : Nat → Nat → Int) : (mk n G).length = (n + 1) * (n + 1) := by simp [mk]

theorem mk_at {n : Nat} (G : Nat → Nat → Int) {a b : Nat} (ha : a ≤ n) (hb : b ≤ n) : Zo.At n (mk n G) a b = G a b := by
  have h := Zo.ix_lt ha hb
  unfold Zo.At Zo.gt mk
  simp only [List.getD_eq_getElem?_getD, List.getElem?_map, List.getElem?_range h, Option.map_some, Option.getD_some]
  unfold Zo.ix
  have h1 : (a * (n + 1) + b) / (n + 1) = a := by
    rw [Nat.mul_comm, Nat.mul_add_div (by omega), Nat.div_eq_of_lt (by omega)]; rfl
  have h2 : (a * (n + 1) + b) % (n + 1) = b := by
    rw [Nat.mul_comm, Nat.mul_add_mod, Nat.mod_eq_of_lt (by omega)]
  rw [h1, h2]

theorem smW_no (a : Int) : Zo.smW a 1099511627776 = 1099511627776 := by unfold Zo.smW; rw [if_pos (Or.inr rfl)]

theorem no_smW (a : Int) : Zo.smW 1099511627776 a = 1099511627776 := by unfold Zo.smW; rw [if_pos (Or.inl rfl)]

def frG (n i : Nat) (l : List Int) (a b : Nat) : Int := if b = i then (if a = i then 1 else Zo.At n l a 0) else if a = i then 1099511627776 else Zo.At n l a b

theorem vl_top {x : Int} (h : Zo.Vl x) : x ≤ 1099511627776 := by unfold Zo.Vl at h; omega

theorem vl_one {x : Int} (h : Zo.Vl x) : Zo.smW x 1 = x := Zo.smW_one (by unfold Zo.Vl at h; omega) (by unfold Zo.Vl at h; omega)

theorem frG_ii {n i a b : Nat} {l : List Int} (ha : a = i) (hb : b = i) : frG n i l a b = 1 := by unfold frG; rw [if_pos hb, if_pos ha]

theorem frG_ai {n i a b : Nat} {l : List Int} (ha : ¬ a = i) (hb : b = i) : frG n i l a b = Zo.At n l a 0 := by unfold frG; rw [if_pos hb, if_neg ha]

theorem frG_ib {n i a b : Nat} {l : List Int} (ha : a = i) (hb : ¬ b = i) : frG n i l a b = 1099511627776 := by unfold frG; rw [if_neg hb, if_pos ha]

theorem frG_ab {n i a b : Nat} {l : List Int} (ha : ¬ a = i) (hb : ¬ b = i) : frG n i l a b = Zo.At n l a b := by unfold frG; rw [if_neg hb, if_neg ha]

theorem frG_chk {n i : Nat} {l : List Int} (hn : n ≤ 10) (hl : l.length = (n + 1) * (n + 1)) (hc : chkE n l = 0) (h1 : 1 ≤ i) : chkE n (mk n (frG n i l)) = 0 := by
  have hv := (chk_64 hc).2
  have vl := vl_of hl hv
  have lv := lv_of_all hl hv
  obtain ⟨dg, r0⟩ := chk_diag hc
  have tr := chk_tri hc
  refine chkE_ok hn (mk_len _ _) (fun a ha b hb => ?_) (fun a ha b hb k hk => ?_)
  · unfold okI
    rw [mk_at _ (by omega) (by omega)]
    unfold frG
    simp only [Bool.and_eq_true, Bool.or_eq_true, decide_eq_true_eq]
    by_cases cb : b = i
    · rw [if_pos cb]
      by_cases ca : a = i
      · rw [if_pos ca]; exact ⟨⟨by decide, Or.inr rfl⟩, Or.inr (by omega)⟩
      · rw [if_neg ca]
        refine ⟨⟨lv a 0 (by omega) (by omega), Or.inl (by omega)⟩, ?_⟩
        by_cases c : a = 0
        · right; subst c; rw [dg 0 (by omega)]; omega
        · exact Or.inl c
    · rw [if_neg cb]
      by_cases ca : a = i
      · rw [if_pos ca]; exact ⟨⟨by decide, Or.inl (by omega)⟩, Or.inl (by omega)⟩
      · rw [if_neg ca]
        refine ⟨⟨lv a b (by omega) (by omega), ?_⟩, ?_⟩
        · by_cases c : a = b
          · right; subst c; exact dg a (by omega)
          · exact Or.inl c
        · by_cases c : a = 0
          · right; subst c; exact r0 b (by omega)
          · exact Or.inl c
  · unfold okT
    rw [mk_at _ (by omega) (by omega), mk_at _ (by omega) (by omega), mk_at _ (by omega) (by omega), decide_eq_true_eq]
    by_cases ca : a = i
    · by_cases cb : b = i
      · rw [frG_ii ca cb]
        by_cases ck : k = i
        · rw [frG_ii ca ck, frG_ii ck cb]; decide
        · rw [frG_ib ca ck, no_smW]; omega
      · rw [frG_ib ca cb]
        by_cases ck : k = i
        · rw [frG_ii ca ck, frG_ib ck cb, smW_no]; omega
        · rw [frG_ib ca ck, no_smW]; omega
    · by_cases cb : b = i
      · rw [frG_ai ca cb]
        by_cases ck : k = i
        · rw [frG_ai ca ck, frG_ii ck cb, vl_one (vl a 0 (by omega) (by omega))]; omega
        · rw [frG_ab ca ck, frG_ai ck cb]
          exact tr a 0 k (by omega) (by omega) (by omega)
      · rw [frG_ab ca cb]
        by_cases ck : k = i
        · rw [frG_ai ca ck, frG_ib ck cb, smW_no]; exact vl_top (vl a b (by omega) (by omega))
        · rw [frG_ab ca ck, frG_ab ck cb]
          exact tr a b k (by omega) (by omega) (by omega)

/-- What Free makes of a zone: never an error. -/
theorem fr_zone {n i : Nat} {l : List Int} (hn : n ≤ 10) (hl : l.length = (n + 1) * (n + 1)) (hc : chkE n l = 0) (h1 : 1 ≤ i) (hi : i ≤ n) :
    Zo.clo n (frL n i l) = mk n (frG n i l) ∧ cloE n (frL n i l) = 0 := by
  have hv := (chk_64 hc).2
  have vl := vl_of hl hv
  obtain ⟨dg, r0⟩ := chk_diag hc
  have hg := frG_chk hn hl hc h1
  obtain ⟨D, hD⟩ := chk_cl hn (mk_len _ _) hg
  have lf : (frL n i l).length = (n + 1) * (n + 1) := by rw [frL_len, hl]
  have fv : ∀ a b, a ≤ n → b ≤ n → Zo.Wl (Zo.At n (frL n i l) a b) := by
    intro a b ha hb
    rw [frL_at hl hi ha hb]
    split
    · exact Or.inl rfl
    · exact (vl a b ha hb).wl
  have hle : Zo.Le n (mk n (frG n i l)) (frL n i l) := by
    intro a b ha hb
    rw [mk_at _ ha hb, frL_at hl hi ha hb]
    by_cases ca : a = i
    · by_cases cb : b = i
      · rw [frG_ii ca cb, if_neg (by omega), ca, cb, dg i hi]; omega
      · rw [frG_ib ca cb, if_pos (by omega)]; omega
    · by_cases cb : b = i
      · rw [frG_ai ca cb, if_pos (by omega)]; exact vl_top (vl a 0 ha (by omega))
      · rw [frG_ab ca cb, if_neg (by omega)]; omega
  obtain ⟨hd, hov⟩ := Zo.clo_over hn lf fv hD hle
  have hcl := Zo.le_clo lf
  have tr := Zo.clo_sums hn lf fv hd
  have lo := Zo.clo_lows lf
  have same : ∀ a b, a ≤ n → b ≤ n → a ≠ i → b ≠ i → Zo.At n (Zo.clo n (frL n i l)) a b = Zo.At n l a b := by
    intro a b ha hb ca cb
    have h2 := hov a b ha hb
    have h3 := hcl a b ha hb
    rw [mk_at _ ha hb, frG_ab ca cb] at h2
    rw [frL_at hl hi ha hb, if_neg (by omega)] at h3
    omega
  have e : Zo.clo n (frL n i l) = mk n (frG n i l) := by
    refine Zo.Le.anti (by rw [Zo.clo_length, lf]) (mk_len _ _) ?_ hov
    intro a b ha hb
    rw [mk_at _ ha hb]
    by_cases ca : a = i
    · by_cases cb : b = i
      · rw [frG_ii ca cb, ca, cb]; exact (lo i hi).1
      · rw [frG_ib ca cb]
        have := hcl a b ha hb
        rw [frL_at hl hi ha hb, if_pos (by omega)] at this
        exact this
    · by_cases cb : b = i
      · rw [frG_ai ca cb, cb]
        have h2 := tr a i 0 ha hi (by omega)
        have h4 := hov 0 i (by omega) hi
        rw [mk_at _ (by omega) hi, frG_ai (by omega) rfl, dg 0 (by omega)] at h4
        have h5 := (lo i hi).2
        rw [show Zo.At n (Zo.clo n (frL n i l)) 0 i = 1 by omega, same a 0 ha (by omega) ca (by omega), vl_one (vl a 0 ha (by omega))] at h2
        exact h2
      · rw [frG_ab ca cb, same a b ha hb ca cb]; omega
  refine ⟨e, cloE_zero.2 ⟨cloB_iff.2 hd, ?_⟩⟩
  rw [e]
  exact (chk_64 hg).2
end Go.Proofs.Ytmlknjiifjdimaa

namespace Go.Proofs.Ytmlknjiifjdimaa
open Go.RowKit

theorem smW_fin {a b : Int} (ha : -2147483648 ≤ a ∧ a ≤ 2147483649) (hb : -2147483648 ≤ b ∧ b ≤ 2147483649) : Zo.smW a b = if a % 2 = 0 ∧ b % 2 = 0 then a + b else a + b - 1 := by
  unfold Zo.smW Zo.w64
  rw [if_neg (by omega)]
  split <;> omega

theorem lv_two {a : Int} (h : lvB a = true) : a = 1099511627776 ∨ (-2147483648 ≤ a ∧ a ≤ 2147483649) := by unfold lvB at h; simpa using h

/-- The sum by layer 2 is the sum. -/
theorem su_eq {x y z : Int} (hx : lvB x = true) (hy : lvB y = true) (hz : lvB z = true) : suB x y z = decide (z = Zo.smW x y) := by
  rw [Bool.eq_iff_iff]
  unfold suB adE adL
  rw [hx, hy]
  simp only [Bool.and_true, if_true, Bool.and_eq_true, decide_eq_true_eq]
  have hz2 := lv_two hz
  rcases lv_two hx with rfl | fx
  · have n1 : noB 1099511627776 = true := rfl
    rw [n1, no_smW]; simp; omega
  rcases lv_two hy with rfl | fy
  · have n1 : noB 1099511627776 = true := rfl
    rw [n1, smW_no]; simp; omega
  have nx : noB x = false := by unfold noB; simp; omega
  have ny : noB y = false := by unfold noB; simp; omega
  rw [nx, ny, smW_fin fx fy]
  simp only [Bool.or_self, Bool.false_eq_true, if_false]
  unfold jnE jnL evB
  constructor
  · intro ⟨h1, h2⟩
    split at h1
    · rename_i c
      rw [if_pos c] at h2
      split at h2
      · rename_i d
        simp at d
        split <;> omega
      · rename_i d
        simp at d
        split <;> omega
    · omega
  · intro h
    have c : -1073741824 ≤ x / 2 + y / 2 ∧ x / 2 + y / 2 ≤ 1073741824 := by
      split at h <;> omega
    rw [if_pos c, if_pos c]
    refine ⟨rfl, ?_⟩
    split at h
    · rename_i d
      rw [if_pos (by simp; omega)]; omega
    · rename_i d
      split
      · rename_i e
        simp at e; omega
      · rename_i e
        simp at e; omega

/-- A zone that passes Check. -/
structure Vz (n : Nat) (l : List Int) : Prop where
  hn : n ≤ 10
  hl : l.length = (n + 1) * (n + 1)
  hc : chkE n l = 0

theorem Vz.lv {n : Nat} {l : List Int} (h : Vz n l) {i j : Nat} (hi : i ≤ n) (hj : j ≤ n) : lvB (Zo.At n l i j) = true ∧ (i = j → Zo.At n l i j = 1) ∧ (i = 0 → Zo.At n l i j ≤ 1) := by
  have hc : chkB n l = true := by
    have := h.hc
    unfold chkE at this
    cases e : chkB n l
    · rw [e] at this; simp at this
    · rfl
  unfold chkB at hc
  simp only [Bool.and_eq_true, Int.toNat_natCast] at hc
  have := chk1_iff.1 hc.1.2 i (by omega) j (by omega)
  unfold okI at this
  simp only [Bool.and_eq_true, Bool.or_eq_true, decide_eq_true_eq] at this
  obtain ⟨⟨h1, h2⟩, h3⟩ := this
  exact ⟨h1, fun e => by rcases h2 with c | c <;> simp_all, fun e => by rcases h3 with c | c <;> simp_all⟩

theorem Vz.tri {n : Nat} {l : List Int} (h : Vz n l) {i j k : Nat} (hi : i ≤ n) (hj : j ≤ n) (hk : k ≤ n) : Zo.At n l i j ≤ Zo.smW (Zo.At n l i k) (Zo.At n l k j) := chk_tri h.hc i j k hi hj hk

theorem bd_fin {n : Nat} {l : List Int} (h : Vz n l) {i j : Nat} (hi : i ≤ n) (hj : j ≤ n) (hb : bdB n l i j = true) :
    (-2147483648 ≤ Zo.At n l i j ∧ Zo.At n l i j ≤ 2147483649) ∧ (-2147483648 ≤ Zo.At n l j i ∧ Zo.At n l j i ≤ 2147483649) ∧ Zo.At n l i j + Zo.At n l j i = 2 ∧ Zo.At n l i j % 2 = 1 := by
  unfold bdB at hb
  simp only [decide_eq_true_eq] at hb
  have a := lv_two (h.lv hi hj).1
  have b := lv_two (h.lv hj hi).1
  generalize Zo.At n l i j = x at *
  generalize Zo.At n l j i = y at *
  rcases a with rfl | fa
  · rw [no_smW] at hb; omega
  rcases b with rfl | fb
  · rw [smW_no] at hb; omega
  rw [smW_fin fa fb] at hb
  split at hb <;> omega

theorem bd_of {n : Nat} {l : List Int} {i j : Nat} (ha : -2147483648 ≤ Zo.At n l i j ∧ Zo.At n l i j ≤ 2147483649) (hb : -2147483648 ≤ Zo.At n l j i ∧ Zo.At n l j i ≤ 2147483649) (h : Zo.At n l i j + Zo.At n l j i = 2) (ho : Zo.At n l i j % 2 = 1) : bdB n l i j = true := by
  unfold bdB
  rw [smW_fin ha hb, if_neg (by omega)]
  simp; omega

theorem bd_self {n : Nat} {l : List Int} (h : Vz n l) {i : Nat} (hi : i ≤ n) : bdB n l i i = true := by
  have := (h.lv hi hi).2.1 rfl
  exact bd_of (by omega) (by omega) (by omega) (by omega)

theorem bd_symm {n : Nat} {l : List Int} (h : Vz n l) {i j : Nat} (hi : i ≤ n) (hj : j ≤ n) (hb : bdB n l i j = true) : bdB n l j i = true := by
  obtain ⟨h1, h2, h3, h4⟩ := bd_fin h hi hj hb
  exact bd_of h2 h1 (by omega) (by omega)

theorem bd_trans {n : Nat} {l : List Int} (h : Vz n l) {i j k : Nat} (hi : i ≤ n) (hj : j ≤ n) (hk : k ≤ n) (h1 : bdB n l i j = true) (h2 : bdB n l j k = true) : bdB n l i k = true := by
  obtain ⟨a1, a2, a3, a4⟩ := bd_fin h hi hj h1
  obtain ⟨b1, b2, b3, b4⟩ := bd_fin h hj hk h2
  have e := h.tri hi hk hj
  have f := h.tri hk hi hj
  have g := h.tri hi hi hk
  rw [(h.lv hi hi).2.1 rfl] at g
  have le := lv_two (h.lv hi hk).1
  have lf := lv_two (h.lv hk hi).1
  rw [smW_fin a1 b1] at e
  rw [smW_fin b2 a2] at f
  rw [if_neg (by omega)] at e f
  generalize Zo.At n l i j = a at *
  generalize Zo.At n l j i = b at *
  generalize Zo.At n l j k = c at *
  generalize Zo.At n l k j = d at *
  have fe : -2147483648 ≤ Zo.At n l i k ∧ Zo.At n l i k ≤ 2147483649 := by
    rcases le with q | q
    · omega
    · exact q
  have ff : -2147483648 ≤ Zo.At n l k i ∧ Zo.At n l k i ≤ 2147483649 := by
    rcases lf with q | q
    · omega
    · exact q
  rw [smW_fin fe ff] at g
  split at g
  · exfalso; omega
  · exact bd_of fe ff (by omega) (by omega)

theorem bd_comm {n : Nat} {l : List Int} (h : Vz n l) {i j : Nat} (hi : i ≤ n) (hj : j ≤ n) : bdB n l i j = bdB n l j i := by
  rw [Bool.eq_iff_iff]; exact ⟨bd_symm h hi hj, bd_symm h hj hi⟩

/-- The first clock of a class. -/
def clsF (n : Nat) (l : List Int) (i : Nat) : Nat := ((List.range i).find? fun c => bdB n l i c).getD i

theorem cls_of {n i t : Nat} {l : List Int} (h1 : t ≤ i) (h2 : t < i → bdB n l i t = true) (h3 : ∀ k, k < t → bdB n l i k = false) : clsF n l i = t := by
  unfold clsF
  by_cases c : t < i
  · have : (List.range i).find? (fun c => bdB n l i c) = some t := by
      rw [List.find?_range_eq_some]
      exact ⟨h2 c, by simpa using c, fun j hj => by simp [h3 j hj]⟩
    rw [this]; rfl
  · have : (List.range i).find? (fun c => bdB n l i c) = none := by
      rw [List.find?_range_eq_none]
      intro j hj
      simp [h3 j (by omega)]
    rw [this]; show i = t; omega

theorem cls_is {n i : Nat} {l : List Int} (h : Vz n l) (hi : i ≤ n) : clsF n l i ≤ i ∧ bdB n l i (clsF n l i) = true ∧ ∀ k, k < clsF n l i → bdB n l i k = false := by
  have key : ∀ m, m ≤ i → (∀ k, k < m → bdB n l i k = false) ∨ ∃ t, t < m ∧ bdB n l i t = true ∧ ∀ k, k < t → bdB n l i k = false := by
    intro m
    induction m with
    | zero => intro _; exact Or.inl fun k hk => by omega
    | succ m ih =>
      intro hm
      rcases ih (by omega) with c | ⟨t, ht, h1, h2⟩
      · cases e : bdB n l i m
        · exact Or.inl fun k hk => by
            by_cases g : k = m
            · rw [g]; exact e
            · exact c k (by omega)
        · exact Or.inr ⟨m, by omega, e, c⟩
      · exact Or.inr ⟨t, by omega, h1, h2⟩
  rcases key i (Nat.le_refl _) with c | ⟨t, ht, h1, h2⟩
  · rw [cls_of (Nat.le_refl i) (fun q => by omega) c]
    exact ⟨Nat.le_refl _, bd_self h hi, c⟩
  · rw [cls_of (by omega) (fun _ => h1) h2]
    exact ⟨by omega, h1, h2⟩

theorem cls_eq {n i j : Nat} {l : List Int} (h : Vz n l) (hi : i ≤ n) (hj : j ≤ n) : clsF n l i = clsF n l j ↔ bdB n l i j = true := by
  obtain ⟨i1, i2, i3⟩ := cls_is h hi
  obtain ⟨j1, j2, j3⟩ := cls_is h hj
  constructor
  · intro e
    rw [← e] at j2
    exact bd_trans h hi (by omega) hj i2 (bd_symm h hj (by omega) j2)
  · intro e
    have h1 : bdB n l j (clsF n l i) = true := bd_trans h hj hi (by omega) (bd_symm h hi hj e) i2
    have h2 : bdB n l i (clsF n l j) = true := bd_trans h hi hj (by omega) e j2
    by_cases c : clsF n l i < clsF n l j
    · rw [j3 _ c] at h1; cases h1
    · by_cases d : clsF n l j < clsF n l i
      · rw [i3 _ d] at h2; cases h2
      · omega

theorem cls_first {n i : Nat} {l : List Int} (h : Vz n l) (hi : i ≤ n) : clsF n l i = i ↔ fiB n l i = true := by
  obtain ⟨i1, i2, i3⟩ := cls_is h hi
  rw [fiB_iff]
  constructor
  · intro e k hk
    rw [bd_comm h (by omega) hi]
    exact i3 k (by omega)
  · intro e
    by_cases c : clsF n l i < i
    · have := e _ c
      rw [bd_comm h (by omega) hi, i2] at this; cases this
    · omega

theorem nx_eq {n i j : Nat} {l : List Int} (h : Vz n l) (hi : i ≤ n) (hj : j ≤ n) (hij : i ≠ j) (hb : bdB n l i j = true) : decide (j = nxN n (clsF n l) i) = nxB n l i j := by
  have key : ∀ k, k ≤ n → (clsF n l k = clsF n l i ↔ bdB n l k i = true) := fun k hk => cls_eq h hk hi
  rw [Bool.eq_iff_iff, decide_eq_true_eq]
  constructor
  · intro e
    refine nxB_yes fun k hk => ?_
    cases hbt : btB i j k
    · simp
    · simp only [Bool.not_true, Bool.or_false]
      cases hsk : skB n l i j k
      · exfalso
        unfold skB at hsk
        simp only [Bool.or_eq_false_iff, decide_eq_false_iff_not, Bool.not_eq_false'] at hsk
        obtain ⟨⟨s1, s2⟩, s3⟩ := hsk
        have s4 := (key k (by omega)).2 s3
        unfold btB at hbt
        simp only [Bool.or_eq_true, Bool.and_eq_true, decide_eq_true_eq] at hbt
        rcases (show (∃ t, i < t ∧ t ≤ n ∧ clsF n l t = clsF n l i ∧ (∀ k, i < k → k < t → clsF n l k ≠ clsF n l i)) ∨ (∀ k, i < k → k ≤ n → clsF n l k ≠ clsF n l i) from by
          have : ∀ m, m ≤ n + 1 → (∃ t, i < t ∧ t < m ∧ clsF n l t = clsF n l i ∧ (∀ k, i < k → k < t → clsF n l k ≠ clsF n l i)) ∨ (∀ k, i < k → k < m → clsF n l k ≠ clsF n l i) := by
            intro m
            induction m with
            | zero => intro _; exact Or.inr fun k _ hk => by omega
            | succ m ih =>
              intro hm
              rcases ih (by omega) with ⟨t, a, b, c, d⟩ | d
              · exact Or.inl ⟨t, a, by omega, c, d⟩
              · by_cases g : i < m ∧ clsF n l m = clsF n l i
                · exact Or.inl ⟨m, g.1, by omega, g.2, fun k q r => d k q r⟩
                · refine Or.inr fun k q r => ?_
                  by_cases x : k = m
                  · subst x; exact fun y => g ⟨q, y⟩
                  · exact d k q (by omega)
          rcases this (n + 1) (Nat.le_refl _) with ⟨t, a, b, c, d⟩ | d
          · exact Or.inl ⟨t, a, by omega, c, d⟩
          · exact Or.inr fun k q r => d k q (by omega)) with ⟨t, a, b, c, d⟩ | d
        · rw [nx_found a b c d] at e
          subst e
          rcases hbt with ⟨⟨p, q⟩, r⟩ | ⟨p, _⟩
          · exact d k q r s4
          · omega
        · rw [nx_none d] at e
          obtain ⟨i1, i2, i3⟩ := cls_is h hi
          rcases hbt with ⟨⟨p, q⟩, r⟩ | ⟨p, q⟩
          · exact d k q (by omega) s4
          · rcases q with q | q
            · exact d k q (by omega) s4
            · rw [e] at q
              have := i3 k q
              rw [bd_comm h hi (by omega), s3] at this; cases this
      · rfl
  · intro e
    unfold nxB at e
    rw [List.all_eq_true] at e
    have hno : ∀ k, k ≤ n → k ≠ i → k ≠ j → clsF n l k = clsF n l i → btB i j k = false := fun k hk q r s => by
      have := e k (List.mem_range.2 (by omega))
      have s3 := (key k hk).1 s
      cases g : btB i j k
      · rfl
      · rw [g] at this
        simp [skB, q, r, s3] at this
    have hj2 : clsF n l j = clsF n l i := (key j hj).2 (bd_symm h hi hj hb)
    by_cases c : i < j
    · rw [nx_found c hj hj2 fun k q r s => by
        have := hno k (by omega) (by omega) (by omega) s
        unfold btB at this; simp at this; omega]
    · rw [nx_none fun k q r s => by
        by_cases x : k = j
        · omega
        · have := hno k r (by omega) x s
          unfold btB at this; simp at this; omega]
      obtain ⟨i1, i2, i3⟩ := cls_is h hi
      by_cases x : clsF n l i < j
      · exfalso
        have hk : clsF n l (clsF n l i) = clsF n l i := (key _ (by omega)).2 (bd_symm h hi (by omega) i2)
        have := hno (clsF n l i) (by omega) (by omega) (by omega) hk
        unfold btB at this; simp at this; omega
      · by_cases y : j < clsF n l i
        · have := i3 j y
          rw [hb] at this; cases this
        · omega

/-- The rules by classes are those of the reference. -/
theorem ks_kp {n i j : Nat} {l : List Int} (h : Vz n l) (hi : i ≤ n) (hj : j ≤ n) : ksB n l (clsF n l) i j = kpB n l i j := by
  unfold ksB kpB
  by_cases hij : i = j
  · simp [hij]
  by_cases hno : Zo.At n l i j = 1099511627776
  · simp [hno]
  simp only [decide_eq_false hij, decide_eq_false hno, Bool.not_false, Bool.true_and]
  by_cases hb : bdB n l i j = true
  · rw [if_pos ((cls_eq h hi hj).2 hb), if_pos hb]
    unfold kwB kpN
    rw [nx_eq h hi hj hij hb]
    unfold plB
    rw [Bool.not_and]
  · rw [if_neg (fun e => hb ((cls_eq h hi hj).1 e)), if_neg hb]
    unfold kbB kpM
    have ei : decide (clsF n l i = i) = fiB n l i := by rw [Bool.eq_iff_iff, decide_eq_true_eq]; exact cls_first h hi
    have ej : decide (clsF n l j = j) = fiB n l j := by rw [Bool.eq_iff_iff, decide_eq_true_eq]; exact cls_first h hj
    rw [ei, ej]
    cases hfj : fiB n l j
    · simp
    have hj1 := (cls_first h hj).2 hfj
    congr 1
    rw [Bool.eq_iff_iff, List.all_eq_true, List.all_eq_true]
    have : ∀ k, k ∈ List.range (n + 1) → (kbX n l (clsF n l) i j k || kbY n l (clsF n l) i j k) = (kpA n l i j k || kpC n l i j k) := fun k hk => by
      have hk : k ≤ n := by have := List.mem_range.1 hk; omega
      have e1 : kbX n l (clsF n l) i j k = kpA n l i j k := by
        unfold kbX kpA plB
        rw [show decide (clsF n l k = j) = bdB n l k j by
          rw [Bool.eq_iff_iff, decide_eq_true_eq, ← cls_eq h hk hj, hj1]]
        by_cases i0 : i = 0
        · subst i0
          cases bdB n l k j <;> simp
        · simp [i0]
      have e2 : kbY n l (clsF n l) i j k = kpC n l i j k := by
        unfold kbY kpC kpS
        rw [show decide (clsF n l k = k) = fiB n l k by rw [Bool.eq_iff_iff, decide_eq_true_eq]; exact cls_first h hk]
        rw [su_eq (h.lv hi hk).1 (h.lv hk hj).1 (h.lv hi hj).1]
      rw [e1, e2]
    constructor
    · intro q k hk
      rw [← this k hk]; exact q k hk
    · intro q k hk
      rw [this k hk]; exact q k hk
end Go.Proofs.Ytmlknjiifjdimaa
