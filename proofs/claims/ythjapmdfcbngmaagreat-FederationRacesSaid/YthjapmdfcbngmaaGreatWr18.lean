/- A part. -/
import Derived.Test.YthjapmdfcbngmaaGreatWr15
namespace Go.Proofs.YthjapmdfcbngmaaGreat
set_option maxHeartbeats 6400000
open Go.RowKit
theorem between_any (n i j : Nat) (l : List Int) (a : Addr) (cap : Nat) (A : Array Value) (f : Nat → Nat) (w : World) (hn : n ≤ 10) (hi : i ≤ n) (hj : j ≤ n) (hl : l.length = (n + 1) * (n + 1)) (hv : ∀ i j, i ≤ n → j ≤ n → I64 (Zo.At n l i j)) (h : Rd w a l) (hA : Cls A n f) :
  Calls Tryz.prog 180 #[.agg A, .agg #[.int .i64 n, .slice (some a) l.length cap], .int .i64 i, .int .i64 j] w (Made (.bool (kbB n l f i j)) w) := by
 obtain ⟨len, hlen⟩ : ∃ len, len = l.length := ⟨_, rfl⟩
 have PL := Lib.hid (plain_len (cap := cap) hn hl h hlen)
 have SU := Lib.hid (issum_len (cap := cap) hn hl hv h hlen)
 rw [← hlen]
 obtain ⟨w0, hw0, e0, ks, kr, kc⟩ := czbox n a len cap A f hA w
 have KS := Lib.hid ks
 have KC := Lib.hid kc
 have E0 := Lib.hid e0
 have HW0 := Lib.hid hw0
 have HK := Lib.hid (show kbB n l f i j = (decide (f i = i) && decide (f j = j) && (List.range (n + 1)).all fun k => !(kbX n l f i j k || kbY n l f i j k)) from rfl)
 have ci := kc w0 (Below.refl _ _) i hi
 have cj := kc w0 (Below.refl _ _) j hj
 obtain ⟨b0, b1⟩ := ks w0 (Below.refl _ _)
 clear ks kr kc e0 hw0 hlen hl h hA hv
 by_cases hfi : f i = i
 case neg =>
  have D : (((f i : Nat) : Int) != (i : Int)) = true := by simp; omega
  have HF := Lib.hid (show kbB n l f i j = false by rw [HK.out, decide_eq_false hfi]; rfl)
  clear hfi cj
  generalize f i = y at ci D
  go_enter Tryz.func180, Tryz.ntmps180
  go_upto_region 1 with (fail)
  rw [← HW0.out]
  go_wp2_with fail
  go_ret
  exact ⟨ret_bool HF.out.symm, E0.out⟩
 case pos =>
 by_cases hfj : f j = j
 case neg =>
  have D : (((f i : Nat) : Int) != (i : Int)) = false := by simp; omega
  have D2 : (((f j : Nat) : Int) != (j : Int)) = true := by simp; omega
  have HF := Lib.hid (show kbB n l f i j = false by rw [HK.out, decide_eq_false hfj]; simp)
  clear hfi hfj
  generalize f i = y at ci D
  generalize f j = z at cj D2
  go_enter Tryz.func180, Tryz.ntmps180
  go_upto_region 1 with (fail)
  rw [← HW0.out]
  go_wp2_with fail
  go_ret
  exact ⟨ret_bool HF.out.symm, E0.out⟩
 case pos =>
 have HFI := Lib.hid hfi
 have HFJ := Lib.hid hfj
 rw [hfi] at ci
 rw [hfj] at cj
 have D : (((i : Nat) : Int) != (i : Int)) = false := by simp
 have D2 : (((j : Nat) : Int) != (j : Int)) = false := by simp
 clear hfi hfj
 have HX := Lib.hid (show ∀ k, kbX n l f i j k = (decide (f k = j) && plB n l i k) from fun k => rfl)
 have HY := Lib.hid (show ∀ k, kbY n l f i j k = (decide (f k = k) && !decide (k = i) && !decide (k = j) && suB (Zo.At n l i k) (Zo.At n l k j) (Zo.At n l i j)) from fun k => rfl)
 go_enter Tryz.func180, Tryz.ntmps180
 go_upto_region 1 with (fail)
 rw [← HW0.out]
 go_wp2_with fail
 clear ci cj b0 b1 D D2
 go_loopw [25] (fun s wr => ∃ t : Nat, t ≤ n + 1 ∧ s = .int .i64 t ∧ Hid (∀ k, k < t → (kbX n l f i j k || kbY n l f i j k) = false) ∧ Hid (Below w0.heap.size w0 wr)) (fun s _ => n + 1 - (intOf s).toNat)
 case atStart => exact ⟨0, by omega, rfl, Lib.hid (fun k hk => by omega), Lib.hid (Below.refl _ _)⟩
 case round =>
  obtain ⟨t, ht, rfl, HT, B0⟩ := hrel
  by_cases htn : t ≤ n
  case pos =>
   obtain ⟨b0, b1⟩ := KS.out _ B0.out
   have ct := KC.out _ B0.out t htn
   have HS := Lib.hid (show (kbX n l f i j t || kbY n l f i j t) = false → ∀ k, k < t + 1 → (kbX n l f i j k || kbY n l f i j k) = false from fun h k hk => by
    by_cases e : k = t
    · rw [e]; exact h
    · exact HT.out k (by omega))
   have HNO := Lib.hid (show (kbX n l f i j t || kbY n l f i j t) = true → kbB n l f i j = false from fun h => kbB_no (by omega) h)
   by_cases hx : f t = j
   · have D : (((f t : Nat) : Int) == (j : Int)) = true := by simp; omega
     have HFT := Lib.hid hx
     cases hp : plB n l i t
     · have HP := Lib.hid hp
       have HA := Lib.hid (show kbX n l f i j t = false by rw [HX.out, hp]; simp)
       clear hx hp
       generalize hft : f t = y at ct D
       have HFY := Lib.hid hft
       clear hft
       go_wp2_with fail
       refine (made_as (PL.out i t _ hi htn (below_on E0.out B0.out)) HP.out).mono ?_
       rintro e w1 ⟨rfl, hb1⟩
       have B1 := Lib.hid (below_on B0.out hb1)
       clear hb1 b0 b1 ct
       obtain ⟨b0, b1⟩ := KS.out _ B1.out
       have ct := KC.out _ B1.out t htn
       clear D
       by_cases h1 : f t = t
       case neg =>
        have D1 : (((f t : Nat) : Int) == (t : Int)) = false := by simp; omega
        have HC := Lib.hid (HS.out (by rw [HA.out, HY.out, decide_eq_false h1]; rfl))
        clear h1
        go_wp2_with fail
        go_roundw
        case rel => exact ⟨t + 1, by omega, by go_num, HC, B1⟩
        case measure => simp [intOf]; omega
       case pos =>
        have D1 : (((f t : Nat) : Int) == (t : Int)) = true := by simp; omega
        have H1 := Lib.hid h1
        clear h1
        by_cases h2 : t = i
        case pos =>
         have D2 : ((t : Int) != (i : Int)) = false := by simp; omega
         have HC := Lib.hid (HS.out (by rw [HA.out, HY.out, decide_eq_true h2]; simp))
         clear h2
         go_wp2_with fail
         go_roundw
         case rel => exact ⟨t + 1, by omega, by go_num, HC, B1⟩
         case measure => simp [intOf]; omega
        case neg =>
         have D2 : ((t : Int) != (i : Int)) = true := by simp; omega
         have H2 := Lib.hid h2
         clear h2
         by_cases h3 : t = j
         case pos =>
          have D3 : ((t : Int) != (j : Int)) = false := by simp; omega
          have HC := Lib.hid (HS.out (by rw [HA.out, HY.out, decide_eq_true h3]; simp))
          clear h3
          go_wp2_with fail
          go_roundw
          case rel => exact ⟨t + 1, by omega, by go_num, HC, B1⟩
          case measure => simp [intOf]; omega
         case neg =>
          have D3 : ((t : Int) != (j : Int)) = true := by simp; omega
          have HY2 := Lib.hid (show kbY n l f i j t = suB (Zo.At n l i t) (Zo.At n l t j) (Zo.At n l i j) by rw [HY.out, decide_eq_true H1.out, decide_eq_false H2.out, decide_eq_false h3]; rfl)
          clear h3
          have SU2 := Lib.hid (fun W h' => SU.out i t j W hi htn hj h')
          generalize suB (Zo.At n l i t) (Zo.At n l t j) (Zo.At n l i j) = sb at *
          cases sb
          · have HC := Lib.hid (HS.out (by rw [HA.out, HY2.out]; rfl))
            go_wp2_with fail
            refine (SU2.out _ (below_on E0.out B1.out)).mono ?_
            rintro e w2 ⟨rfl, hb2⟩
            have B2 := Lib.hid (below_on B1.out hb2)
            clear hb2 b0 b1 ct
            go_wp2_with fail
            go_roundw
            case rel => exact ⟨t + 1, by omega, by go_num, HC, B2⟩
            case measure => simp [intOf]; omega
          · have HC := Lib.hid (HNO.out (by rw [HA.out, HY2.out]; rfl))
            go_wp2_with fail
            refine (SU2.out _ (below_on E0.out B1.out)).mono ?_
            rintro e w2 ⟨rfl, hb2⟩
            have B2 := Lib.hid (below_on B1.out hb2)
            clear hb2 b0 b1 ct
            go_wp2_with fail
            go_ret
            exact ⟨ret_bool HC.out.symm, below_on E0.out B2.out⟩
     · have HP := Lib.hid hp
       have HF := Lib.hid (HNO.out (by rw [HX.out, hp, decide_eq_true hx]; rfl))
       clear hx hp
       generalize hft : f t = y at ct D
       have HFY := Lib.hid hft
       clear hft
       go_wp2_with fail
       refine (made_as (PL.out i t _ hi htn (below_on E0.out B0.out)) HP.out).mono ?_
       rintro e w1 ⟨rfl, hb1⟩
       have B1 := Lib.hid (below_on B0.out hb1)
       clear hb1 b0 b1 ct
       obtain ⟨b0, b1⟩ := KS.out _ B1.out
       have ct := KC.out _ B1.out t htn
       clear D
       go_wp2_with fail
       go_ret
       exact ⟨ret_bool HF.out.symm, below_on E0.out B1.out⟩
   · have D : (((f t : Nat) : Int) == (j : Int)) = false := by simp; omega
     have HA := Lib.hid (show kbX n l f i j t = false by rw [HX.out, decide_eq_false hx]; rfl)
     clear hx
     by_cases h1 : f t = t
     case neg =>
      have D1 : (((f t : Nat) : Int) == (t : Int)) = false := by simp; omega
      have HC := Lib.hid (HS.out (by rw [HA.out, HY.out, decide_eq_false h1]; rfl))
      clear h1
      go_wp2_with fail
      go_roundw
      case rel => exact ⟨t + 1, by omega, by go_num, HC, B0⟩
      case measure => simp [intOf]; omega
     case pos =>
      have D1 : (((f t : Nat) : Int) == (t : Int)) = true := by simp; omega
      have H1 := Lib.hid h1
      clear h1
      by_cases h2 : t = i
      case pos =>
       have D2 : ((t : Int) != (i : Int)) = false := by simp; omega
       have HC := Lib.hid (HS.out (by rw [HA.out, HY.out, decide_eq_true h2]; simp))
       clear h2
       go_wp2_with fail
       go_roundw
       case rel => exact ⟨t + 1, by omega, by go_num, HC, B0⟩
       case measure => simp [intOf]; omega
      case neg =>
       have D2 : ((t : Int) != (i : Int)) = true := by simp; omega
       have H2 := Lib.hid h2
       clear h2
       by_cases h3 : t = j
       case pos =>
        have D3 : ((t : Int) != (j : Int)) = false := by simp; omega
        have HC := Lib.hid (HS.out (by rw [HA.out, HY.out, decide_eq_true h3]; simp))
        clear h3
        go_wp2_with fail
        go_roundw
        case rel => exact ⟨t + 1, by omega, by go_num, HC, B0⟩
        case measure => simp [intOf]; omega
       case neg =>
        have D3 : ((t : Int) != (j : Int)) = true := by simp; omega
        have HY2 := Lib.hid (show kbY n l f i j t = suB (Zo.At n l i t) (Zo.At n l t j) (Zo.At n l i j) by rw [HY.out, decide_eq_true H1.out, decide_eq_false H2.out, decide_eq_false h3]; rfl)
        clear h3
        have SU2 := Lib.hid (fun W h' => SU.out i t j W hi htn hj h')
        generalize suB (Zo.At n l i t) (Zo.At n l t j) (Zo.At n l i j) = sb at *
        cases sb
        · have HC := Lib.hid (HS.out (by rw [HA.out, HY2.out]; rfl))
          go_wp2_with fail
          refine (SU2.out _ (below_on E0.out B0.out)).mono ?_
          rintro e w2 ⟨rfl, hb2⟩
          have B2 := Lib.hid (below_on B0.out hb2)
          clear hb2 b0 b1 ct
          go_wp2_with fail
          go_roundw
          case rel => exact ⟨t + 1, by omega, by go_num, HC, B2⟩
          case measure => simp [intOf]; omega
        · have HC := Lib.hid (HNO.out (by rw [HA.out, HY2.out]; rfl))
          go_wp2_with fail
          refine (SU2.out _ (below_on E0.out B0.out)).mono ?_
          rintro e w2 ⟨rfl, hb2⟩
          have B2 := Lib.hid (below_on B0.out hb2)
          clear hb2 b0 b1 ct
          go_wp2_with fail
          go_ret
          exact ⟨ret_bool HC.out.symm, below_on E0.out B2.out⟩
  case neg =>
   have HF := Lib.hid (show kbB n l f i j = true from kbB_yes HFI.out HFJ.out (fun k hk => HT.out k (by omega)))
   go_wp2_with fail
   go_ret
   exact ⟨ret_bool HF.out.symm, below_on E0.out B0.out⟩
theorem keeps_any (n i j : Nat) (l : List Int) (a : Addr) (cap : Nat) (A : Array Value) (f : Nat → Nat) (w : World) (hn : n ≤ 10) (hi : i ≤ n) (hj : j ≤ n) (hl : l.length = (n + 1) * (n + 1)) (hv : ∀ i j, i ≤ n → j ≤ n → I64 (Zo.At n l i j)) (h : Rd w a l) (hA : Cls A n f) :
  Calls Tryz.prog 157 #[.agg A, .agg #[.int .i64 n, .slice (some a) l.length cap], .int .i64 i, .int .i64 j] w (Made (.bool (ksB n l f i j)) w) := by
 obtain ⟨len, hlen⟩ : ∃ len, len = l.length := ⟨_, rfl⟩
 have AT := Lib.hid (fun W h' => miat_len (cap := cap) hn hl h hlen i j W hi hj h')
 have WI := Lib.hid (show ∀ W, Below w.heap.size w W → Calls Tryz.prog 179 #[.agg A, .agg #[.int .i64 n, .slice (some a) len cap], .int .i64 i, .int .i64 j] W (Made (.bool (kwB n l f i j)) W) from fun W h' => by have := within_any n i j l a cap A f W hn hi hj hl (h.on h') hA; rw [← hlen] at this; exact this)
 have BE := Lib.hid (show ∀ W, Below w.heap.size w W → Calls Tryz.prog 180 #[.agg A, .agg #[.int .i64 n, .slice (some a) len cap], .int .i64 i, .int .i64 j] W (Made (.bool (kbB n l f i j)) W) from fun W h' => by have := between_any n i j l a cap A f W hn hi hj hl hv (h.on h') hA; rw [← hlen] at this; exact this)
 rw [← hlen]
 obtain ⟨w0, hw0, e0, ks, kr, kc⟩ := czbox n a len cap A f hA w
 have KS := Lib.hid ks
 have KC := Lib.hid kc
 have KR := Lib.hid kr
 have E0 := Lib.hid e0
 have HW0 := Lib.hid hw0
 have HK := Lib.hid (show ksB n l f i j = (!decide (i = j) && !decide (Zo.At n l i j = 1099511627776) && (if f i = f j then kwB n l f i j else kbB n l f i j)) from rfl)
 obtain ⟨b0, b1⟩ := ks w0 (Below.refl _ _)
 clear ks kr kc e0 hw0 hlen hl h hA hv
 by_cases hij : i = j
 case pos =>
  have D : ((i : Int) == (j : Int)) = true := by simp; omega
  have HF := Lib.hid (show ksB n l f i j = false by rw [HK.out, decide_eq_true hij]; rfl)
  clear hij
  go_enter Tryz.func157, Tryz.ntmps157
  go_upto_region 1 with (fail)
  rw [← HW0.out]
  go_wp2_with fail
  go_ret
  exact ⟨ret_bool HF.out.symm, E0.out⟩
 case neg =>
 have D : ((i : Int) == (j : Int)) = false := by simp; omega
 have HIJ := Lib.hid (decide_eq_false hij)
 clear hij
 generalize Zo.At n l i j = x at AT HK
 cases hno : (x == 1099511627776)
 case true =>
  have HF := Lib.hid (show ksB n l f i j = false by rw [HK.out]; simp [show x = 1099511627776 by simpa using hno])
  go_enter Tryz.func157, Tryz.ntmps157
  go_upto_region 1 with (fail)
  rw [← HW0.out]
  go_wp2_with fail
  refine (AT.out _ E0.out).mono ?_
  rintro e w1 ⟨rfl, hb1⟩
  have B1 := Lib.hid hb1
  clear hb1 b0 b1
  go_wp2_with fail
  go_ret
  exact ⟨ret_bool HF.out.symm, below_on E0.out B1.out⟩
 case false =>
  have HK2 := Lib.hid (show ksB n l f i j = (if f i = f j then kwB n l f i j else kbB n l f i j) by
   rw [HK.out, HIJ.out]
   have : x ≠ 1099511627776 := by simpa using hno
   simp [this])
  go_enter Tryz.func157, Tryz.ntmps157
  go_upto_region 1 with (fail)
  rw [← HW0.out]
  go_wp2_with fail
  refine (AT.out _ E0.out).mono ?_
  rintro e w1 ⟨rfl, hb1⟩
  have B1 := Lib.hid hb1
  clear hb1 b0 b1
  have ci := KC.out _ B1.out i hi
  have cj := KC.out _ B1.out j hj
  by_cases hf : f i = f j
  case pos =>
   have HF := Lib.hid (show kwB n l f i j = ksB n l f i j by rw [HK2.out, if_pos hf])
   have DF : (((f i : Nat) : Int) == ((f j : Nat) : Int)) = true := by simp [hf]
   clear hf
   generalize kwB n l f i j = r at *
   generalize f i = y at *
   generalize f j = z at *
   go_wp2_with fail
   go_quiet (fail)
   clear ci cj
   have B2 := Lib.hid (below_drewN B1.out nq)
   obtain ⟨b0, b1⟩ := KS.out _ B2.out
   go_wp2_with (refine wplc_load rfl _ rfl _ rfl _ (KR.out _ B2.out) ?_)
   refine (WI.out _ (below_on E0.out B2.out)).mono ?_
   rintro e w3 ⟨rfl, hb3⟩
   clear b0 b1
   have B3 := Lib.hid (below_on B2.out hb3)
   clear hb3
   go_wp2_with fail
   go_ret
   exact ⟨ret_bool HF.out, below_on E0.out B3.out⟩
  case neg =>
   have HF := Lib.hid (show kbB n l f i j = ksB n l f i j by rw [HK2.out, if_neg hf])
   have DF : (((f i : Nat) : Int) == ((f j : Nat) : Int)) = false := by simp; omega
   clear hf
   generalize kbB n l f i j = r at *
   generalize f i = y at *
   generalize f j = z at *
   go_wp2_with fail
   go_quiet (fail)
   clear ci cj
   have B2 := Lib.hid (below_drewN B1.out nq)
   obtain ⟨b0, b1⟩ := KS.out _ B2.out
   go_wp2_with (refine wplc_load rfl _ rfl _ rfl _ (KR.out _ B2.out) ?_)
   refine (BE.out _ (below_on E0.out B2.out)).mono ?_
   rintro e w3 ⟨rfl, hb3⟩
   clear b0 b1
   have B3 := Lib.hid (below_on B2.out hb3)
   clear hb3
   go_wp2_with fail
   go_ret
   exact ⟨ret_bool HF.out, below_on E0.out B3.out⟩
end Go.Proofs.YthjapmdfcbngmaaGreat
