/- A part. -/
import Derived.Test.YtaegiihkgicdnaaGreatWt17
import Derived.Test.YtaegiihkgicdnaaGreatWt18

namespace Go.Proofs.YtaegiihkgicdnaaGreat
open Go.RowKit

set_option maxHeartbeats 6400000 in
theorem between_any (n i j : Nat) (l : List Int) (a : Addr) (cap : Nat) (A : Array Value) (f : Nat → Nat) (w : World) (hn : n ≤ 10) (hi : i ≤ n) (hj : j ≤ n) (hl : l.length = (n + 1) * (n + 1)) (hv : ∀ i j, i ≤ n → j ≤ n → I64 (Zo.At n l i j)) (h : Rd w a l) (hA : Cls A n f) :
    Calls Tryz.prog 180 #[.agg A, .agg #[.int .i64 n, .slice (some a) l.length cap], .int .i64 i, .int .i64 j] w (Made (.bool (kbB n l f i j)) w) := by
  obtain ⟨len, hlen⟩ : ∃ len, len = l.length := ⟨_, rfl⟩
  have PL := Lib.hid (plain_len (cap := cap) hn hl h hlen)
  have SU := Lib.hid (issum_len (cap := cap) hn hl hv h hlen)
  rw [← hlen]
  obtain ⟨w0, hw0, e0, ks, kr, kc⟩ := czbox n a len cap A f hA w
  have KS := Lib.hid ks
  have KC := Lib.hid kc
  have E0 := Lib.hid e0
  have HW0 := Lib.hid hw0
  have HK := Lib.hid (show kbB n l f i j = (decide (f i = i) && decide (f j = j) && (List.range (n + 1)).all fun k => !(kbX n l f i j k || kbY n l f i j k)) from rfl)
  have ci := kc w0 (Below.refl _ _) i hi
  have cj := kc w0 (Below.refl _ _) j hj
  obtain ⟨b0, b1⟩ := ks w0 (Below.refl _ _)
  clear ks kr kc e0 hw0 hlen hl h hA hv
  by_cases hfi : f i = i
  case neg =>
    have D : (((f i : Nat) : Int) != (i : Int)) = true := by simp; omega
    have HF := Lib.hid (show kbB n l f i j = false by rw [HK.out, decide_eq_false hfi]; rfl)
    clear hfi cj
    generalize f i = y at ci D
    go_enter Tryz.func180, Tryz.ntmps180
    go_upto_region 1 with (fail)
    rw [← HW0.out]
    go_wp2_with fail
    go_ret
    exact ⟨ret_bool HF.out.symm, E0.out⟩
  case pos =>
  by_cases hfj : f j = j
  case neg =>
    have D : (((f i : Nat) : Int) != (i : Int)) = false := by simp; omega
    have D2 : (((f j : Nat) : Int) != (j : Int)) = true := by simp; omega
    have HF := Lib.hid (show kbB n l f i j = false by rw [HK.out, decide_eq_false hfj]; simp)
    clear hfi hfj
    generalize f i = y at ci D
    generalize f j = z at cj D2
    go_enter Tryz.func180, Tryz.ntmps180
    go_upto_region 1 with (fail)
    rw [← HW0.out]
    go_wp2_with fail
    go_ret
    exact ⟨ret_bool HF.out.symm, E0.out⟩
  case pos =>
  have HFI := Lib.hid hfi
  have HFJ := Lib.hid hfj
  rw [hfi] at ci
  rw [hfj] at cj
  have D : (((i : Nat) : Int) != (i : Int)) = false := by simp
  have D2 : (((j : Nat) : Int) != (j : Int)) = false := by simp
  clear hfi hfj
  have HX := Lib.hid (show ∀ k, kbX n l f i j k = (decide (f k = j) && plB n l i k) from fun k => rfl)
  have HY := Lib.hid (show ∀ k, kbY n l f i j k = (decide (f k = k) && !decide (k = i) && !decide (k = j) && suB (Zo.At n l i k) (Zo.At n l k j) (Zo.At n l i j)) from fun k => rfl)
  go_enter Tryz.func180, Tryz.ntmps180
  go_upto_region 1 with (fail)
  rw [← HW0.out]
  go_wp2_with fail
  clear ci cj b0 b1 D D2
  go_loopw [25] (fun s wr => ∃ t : Nat, t ≤ n + 1 ∧ s = .int .i64 t ∧ Hid (∀ k, k < t → (kbX n l f i j k || kbY n l f i j k) = false) ∧ Hid (Below w0.heap.size w0 wr)) (fun s _ => n + 1 - (intOf s).toNat)
  case atStart => exact ⟨0, by omega, rfl, Lib.hid (fun k hk => by omega), Lib.hid (Below.refl _ _)⟩
  case round =>
    obtain ⟨t, ht, rfl, HT, B0⟩ := hrel
    by_cases htn : t ≤ n
    case pos =>
      obtain ⟨b0, b1⟩ := KS.out _ B0.out
      have ct := KC.out _ B0.out t htn
      have HS := Lib.hid (show (kbX n l f i j t || kbY n l f i j t) = false → ∀ k, k < t + 1 → (kbX n l f i j k || kbY n l f i j k) = false from fun h k hk => by
        by_cases e : k = t
        · rw [e]; exact h
        · exact HT.out k (by omega))
      have HNO := Lib.hid (show (kbX n l f i j t || kbY n l f i j t) = true → kbB n l f i j = false from fun h => kbB_no (by omega) h)
      by_cases hx : f t = j
      · have D : (((f t : Nat) : Int) == (j : Int)) = true := by simp; omega
        have HFT := Lib.hid hx
        cases hp : plB n l i t
        · have HP := Lib.hid hp
          have HA := Lib.hid (show kbX n l f i j t = false by rw [HX.out, hp]; simp)
          clear hx hp
          generalize hft : f t = y at ct D
          have HFY := Lib.hid hft
          clear hft
          go_wp2_with fail
          refine (made_as (PL.out i t _ hi htn (below_on E0.out B0.out)) HP.out).mono ?_
          rintro e w1 ⟨rfl, hb1⟩
          have B1 := Lib.hid (below_on B0.out hb1)
          clear hb1 b0 b1 ct
          obtain ⟨b0, b1⟩ := KS.out _ B1.out
          have ct := KC.out _ B1.out t htn
          clear D
          by_cases h1 : f t = t
          case neg =>
            have D1 : (((f t : Nat) : Int) == (t : Int)) = false := by simp; omega
            have HC := Lib.hid (HS.out (by rw [HA.out, HY.out, decide_eq_false h1]; rfl))
            clear h1
            go_wp2_with fail
            go_roundw
            case rel => exact ⟨t + 1, by omega, by go_num, HC, B1⟩
            case measure => simp [intOf]; omega
          case pos =>
            have D1 : (((f t : Nat) : Int) == (t : Int)) = true := by simp; omega
            have H1 := Lib.hid h1
            clear h1
            by_cases h2 : t = i
            case pos =>
              have D2 : ((t : Int) != (i : Int)) = false := by simp; omega
              have HC := Lib.hid (HS.out (by rw [HA.out, HY.out, decide_eq_true h2]; simp))
              clear h2
              go_wp2_with fail
              go_roundw
              case rel => exact ⟨t + 1, by omega, by go_num, HC, B1⟩
              case measure => simp [intOf]; omega
            case neg =>
              have D2 : ((t : Int) != (i : Int)) = true := by simp; omega
              have H2 := Lib.hid h2
              clear h2
              by_cases h3 : t = j
              case pos =>
                have D3 : ((t : Int) != (j : Int)) = false := by simp; omega
                have HC := Lib.hid (HS.out (by rw [HA.out, HY.out, decide_eq_true h3]; simp))
                clear h3
                go_wp2_with fail
                go_roundw
                case rel => exact ⟨t + 1, by omega, by go_num, HC, B1⟩
                case measure => simp [intOf]; omega
              case neg =>
                have D3 : ((t : Int) != (j : Int)) = true := by simp; omega
                have HY2 := Lib.hid (show kbY n l f i j t = suB (Zo.At n l i t) (Zo.At n l t j) (Zo.At n l i j) by rw [HY.out, decide_eq_true H1.out, decide_eq_false H2.out, decide_eq_false h3]; rfl)
                clear h3
                have SU2 := Lib.hid (fun W h' => SU.out i t j W hi htn hj h')
                generalize suB (Zo.At n l i t) (Zo.At n l t j) (Zo.At n l i j) = sb at *
                cases sb
                · have HC := Lib.hid (HS.out (by rw [HA.out, HY2.out]; rfl))
                  go_wp2_with fail
                  refine (SU2.out _ (below_on E0.out B1.out)).mono ?_
                  rintro e w2 ⟨rfl, hb2⟩
                  have B2 := Lib.hid (below_on B1.out hb2)
                  clear hb2 b0 b1 ct
                  go_wp2_with fail
                  go_roundw
                  case rel => exact ⟨t + 1, by omega, by go_num, HC, B2⟩
                  case measure => simp [intOf]; omega
                · have HC := Lib.hid (HNO.out (by rw [HA.out, HY2.out]; rfl))
                  go_wp2_with fail
                  refine (SU2.out _ (below_on E0.out B1.out)).mono ?_
                  rintro e w2 ⟨rfl, hb2⟩
                  have B2 := Lib.hid (below_on B1.out hb2)
                  clear hb2 b0 b1 ct
                  go_wp2_with fail
                  go_ret
                  exact ⟨ret_bool HC.out.symm, below_on E0.out B2.out⟩
        · have HP := Lib.hid hp
          have HF := Lib.hid (HNO.out (by rw [HX.out, hp, decide_eq_true hx]; rfl))
          clear hx hp
          generalize hft : f t = y at ct D
          have HFY := Lib.hid hft
          clear hft
          go_wp2_with fail
          refine (made_as (PL.out i t _ hi htn (below_on E0.out B0.out)) HP.out).mono ?_
          rintro e w1 ⟨rfl, hb1⟩
          have B1 := Lib.hid (below_on B0.out hb1)
          clear hb1 b0 b1 ct
          obtain ⟨b0, b1⟩ := KS.out _ B1.out
          have ct := KC.out _ B1.out t htn
          clear D
          go_wp2_with fail
          go_ret
          exact ⟨ret_bool HF.out.symm, below_on E0.out B1.out⟩
      · have D : (((f t : Nat) : Int) == (j : Int)) = false := by simp; omega
        have HA := Lib.hid (show kbX n l f i j t = false by rw [HX.out, decide_eq_false hx]; rfl)
        clear hx
        by_cases h1 : f t = t
        case neg =>
          have D1 : (((f t : Nat) : Int) == (t : Int)) = false := by simp; omega
          have HC := Lib.hid (HS.out (by rw [HA.out, HY.out, decide_eq_false h1]; rfl))
          clear h1
          go_wp2_with fail
          go_roundw
          case rel => exact ⟨t + 1, by omega, by go_num, HC, B0⟩
          case measure => simp [intOf]; omega
        case pos =>
          have D1 : (((f t : Nat) : Int) == (t : Int)) = true := by simp; omega
          have H1 := Lib.hid h1
          clear h1
          by_cases h2 : t = i
          case pos =>
            have D2 : ((t : Int) != (i : Int)) = false := by simp; omega
            have HC := Lib.hid (HS.out (by rw [HA.out, HY.out, decide_eq_true h2]; simp))
            clear h2
            go_wp2_with fail
            go_roundw
            case rel => exact ⟨t + 1, by omega, by go_num, HC, B0⟩
            case measure => simp [intOf]; omega
          case neg =>
            have D2 : ((t : Int) != (i : Int)) = true := by simp; omega
            have H2 := Lib.hid h2
            clear h2
            by_cases h3 : t = j
            case pos =>
              have D3 : ((t : Int) != (j : Int)) = false := by simp; omega
              have HC := Lib.hid (HS.out (by rw [HA.out, HY.out, decide_eq_true h3]; simp))
              clear h3
              go_wp2_with fail
              go_roundw
              case rel => exact ⟨t + 1, by omega, by go_num, HC, B0⟩
              case measure => simp [intOf]; omega
            case neg =>
              have D3 : ((t : Int) != (j : Int)) = true := by simp; omega
              have HY2 := Lib.hid (show kbY n l f i j t = suB (Zo.At n l i t) (Zo.At n l t j) (Zo.At n l i j) by rw [HY.out, decide_eq_true H1.out, decide_eq_false H2.out, decide_eq_false h3]; rfl)
              clear h3
              have SU2 := Lib.hid (fun W h' => SU.out i t j W hi htn hj h')
              generalize suB (Zo.At n l i t) (Zo.At n l t j) (Zo.At n l i j) = sb at *
              cases sb
              · have HC := Lib.hid (HS.out (by rw [HA.out, HY2.out]; rfl))
                go_wp2_with fail
                refine (SU2.out _ (below_on E0.out B0.out)).mono ?_
                rintro e w2 ⟨rfl, hb2⟩
                have B2 := Lib.hid (below_on B0.out hb2)
                clear hb2 b0 b1 ct
                go_wp2_with fail
                go_roundw
                case rel => exact ⟨t + 1, by omega, by go_num, HC, B2⟩
                case measure => simp [intOf]; omega
              · have HC := Lib.hid (HNO.out (by rw [HA.out, HY2.out]; rfl))
                go_wp2_with fail
                refine (SU2.out _ (below_on E0.out B0.out)).mono ?_
                rintro e w2 ⟨rfl, hb2⟩
                have B2 := Lib.hid (below_on B0.out hb2)
                clear hb2 b0 b1 ct
                go_wp2_with fail
                go_ret
                exact ⟨ret_bool HC.out.symm, below_on E0.out B2.out⟩
    case neg =>
      have HF := Lib.hid (show kbB n l f i j = true from kbB_yes HFI.out HFJ.out (fun k hk => HT.out k (by omega)))
      go_wp2_with fail
      go_ret
      exact ⟨ret_bool HF.out.symm, below_on E0.out B0.out⟩
end Go.Proofs.YtaegiihkgicdnaaGreat

namespace Go.Proofs.YtaegiihkgicdnaaGreat
open Go.RowKit

set_option maxHeartbeats 6400000 in
theorem keeps_any (n i j : Nat) (l : List Int) (a : Addr) (cap : Nat) (A : Array Value) (f : Nat → Nat) (w : World) (hn : n ≤ 10) (hi : i ≤ n) (hj : j ≤ n) (hl : l.length = (n + 1) * (n + 1)) (hv : ∀ i j, i ≤ n → j ≤ n → I64 (Zo.At n l i j)) (h : Rd w a l) (hA : Cls A n f) :
    Calls Tryz.prog 157 #[.agg A, .agg #[.int .i64 n, .slice (some a) l.length cap], .int .i64 i, .int .i64 j] w (Made (.bool (ksB n l f i j)) w) := by
  obtain ⟨len, hlen⟩ : ∃ len, len = l.length := ⟨_, rfl⟩
  have AT := Lib.hid (fun W h' => miat_len (cap := cap) hn hl h hlen i j W hi hj h')
  have WI := Lib.hid (show ∀ W, Below w.heap.size w W → Calls Tryz.prog 179 #[.agg A, .agg #[.int .i64 n, .slice (some a) len cap], .int .i64 i, .int .i64 j] W (Made (.bool (kwB n l f i j)) W) from fun W h' => by have := within_any n i j l a cap A f W hn hi hj hl (h.on h') hA; rw [← hlen] at this; exact this)
  have BE := Lib.hid (show ∀ W, Below w.heap.size w W → Calls Tryz.prog 180 #[.agg A, .agg #[.int .i64 n, .slice (some a) len cap], .int .i64 i, .int .i64 j] W (Made (.bool (kbB n l f i j)) W) from fun W h' => by have := between_any n i j l a cap A f W hn hi hj hl hv (h.on h') hA; rw [← hlen] at this; exact this)
  rw [← hlen]
  obtain ⟨w0, hw0, e0, ks, kr, kc⟩ := czbox n a len cap A f hA w
  have KS := Lib.hid ks
  have KC := Lib.hid kc
  have KR := Lib.hid kr
  have E0 := Lib.hid e0
  have HW0 := Lib.hid hw0
  have HK := Lib.hid (show ksB n l f i j = (!decide (i = j) && !decide (Zo.At n l i j = 1099511627776) && (if f i = f j then kwB n l f i j else kbB n l f i j)) from rfl)
  obtain ⟨b0, b1⟩ := ks w0 (Below.refl _ _)
  clear ks kr kc e0 hw0 hlen hl h hA hv
  by_cases hij : i = j
  case pos =>
    have D : ((i : Int) == (j : Int)) = true := by simp; omega
    have HF := Lib.hid (show ksB n l f i j = false by rw [HK.out, decide_eq_true hij]; rfl)
    clear hij
    go_enter Tryz.func157, Tryz.ntmps157
    go_upto_region 1 with (fail)
    rw [← HW0.out]
    go_wp2_with fail
    go_ret
    exact ⟨ret_bool HF.out.symm, E0.out⟩
  case neg =>
  have D : ((i : Int) == (j : Int)) = false := by simp; omega
  have HIJ := Lib.hid (decide_eq_false hij)
  clear hij
  generalize Zo.At n l i j = x at AT HK
  cases hno : (x == 1099511627776)
  case true =>
    have HF := Lib.hid (show ksB n l f i j = false by rw [HK.out]; simp [show x = 1099511627776 by simpa using hno])
    go_enter Tryz.func157, Tryz.ntmps157
    go_upto_region 1 with (fail)
    rw [← HW0.out]
    go_wp2_with fail
    refine (AT.out _ E0.out).mono ?_
    rintro e w1 ⟨rfl, hb1⟩
    have B1 := Lib.hid hb1
    clear hb1 b0 b1
    go_wp2_with fail
    go_ret
    exact ⟨ret_bool HF.out.symm, below_on E0.out B1.out⟩
  case false =>
    have HK2 := Lib.hid (show ksB n l f i j = (if f i = f j then kwB n l f i j else kbB n l f i j) by
      rw [HK.out, HIJ.out]
      have : x ≠ 1099511627776 := by simpa using hno
      simp [this])
    go_enter Tryz.func157, Tryz.ntmps157
    go_upto_region 1 with (fail)
    rw [← HW0.out]
    go_wp2_with fail
    refine (AT.out _ E0.out).mono ?_
    rintro e w1 ⟨rfl, hb1⟩
    have B1 := Lib.hid hb1
    clear hb1 b0 b1
    have ci := KC.out _ B1.out i hi
    have cj := KC.out _ B1.out j hj
    by_cases hf : f i = f j
    case pos =>
      have HF := Lib.hid (show kwB n l f i j = ksB n l f i j by rw [HK2.out, if_pos hf])
      have DF : (((f i : Nat) : Int) == ((f j : Nat) : Int)) = true := by simp [hf]
      clear hf
      generalize kwB n l f i j = r at *
      generalize f i = y at *
      generalize f j = z at *
      go_wp2_with fail
      go_quiet (fail)
      clear ci cj
      have B2 := Lib.hid (below_drewN B1.out nq)
      obtain ⟨b0, b1⟩ := KS.out _ B2.out
      go_wp2_with (refine wplc_load rfl _ rfl _ rfl _ (KR.out _ B2.out) ?_)
      refine (WI.out _ (below_on E0.out B2.out)).mono ?_
      rintro e w3 ⟨rfl, hb3⟩
      clear b0 b1
      have B3 := Lib.hid (below_on B2.out hb3)
      clear hb3
      go_wp2_with fail
      go_ret
      exact ⟨ret_bool HF.out, below_on E0.out B3.out⟩
    case neg =>
      have HF := Lib.hid (show kbB n l f i j = ksB n l f i j by rw [HK2.out, if_neg hf])
      have DF : (((f i : Nat) : Int) == ((f j : Nat) : Int)) = false := by simp; omega
      clear hf
      generalize kbB n l f i j = r at *
      generalize f i = y at *
      generalize f j = z at *
      go_wp2_with fail
      go_quiet (fail)
      clear ci cj
      have B2 := Lib.hid (below_drewN B1.out nq)
      obtain ⟨b0, b1⟩ := KS.out _ B2.out
      go_wp2_with (refine wplc_load rfl _ rfl _ rfl _ (KR.out _ B2.out) ?_)
      refine (BE.out _ (below_on E0.out B2.out)).mono ?_
      rintro e w3 ⟨rfl, hb3⟩
      clear b0 b1
      have B3 := Lib.hid (below_on B2.out hb3)
      clear hb3
      go_wp2_with fail
      go_ret
      exact ⟨ret_bool HF.out, below_on E0.out B3.out⟩
end Go.Proofs.YtaegiihkgicdnaaGreat

namespace Go.Proofs.YtaegiihkgicdnaaGreat
open Go.RowKit

def arrF (f : Nat → Nat) : Array Value := ((List.range 11).map fun k => Value.int .i64 (f k)).toArray

theorem arrF_size (f : Nat → Nat) : (arrF f).size = 11 := by simp [arrF]

theorem arrF_one (f : Nat → Nat) : (arrF f).all (·.oneCell') = true := by
  rw [Array.all_eq_true_iff_forall_mem]
  intro v hv
  simp [arrF] at hv
  obtain ⟨x, _, rfl⟩ := hv
  rfl

theorem arrF_at (f : Nat → Nat) {k : Nat} (hk : k < 11) : (arrF f)[k]? = some (.int .i64 (f k)) := by
  simp [arrF, hk]

theorem arrF_set (f : Nat → Nat) (k x : Nat) : (arrF f).setIfInBounds k (.int .i64 x) = arrF (fun j => if j = k then x else f j) := by
  apply Array.ext_getElem?
  intro j
  rw [Array.getElem?_setIfInBounds]
  by_cases hj : j < 11
  · rw [arrF_at _ hj, arrF_at _ hj]
    by_cases e : k = j
    · subst e; simp [arrF_size]; omega
    · rw [if_neg e, if_neg (fun h => e h.symm)]
  · have h1 : ∀ g : Nat → Nat, (arrF g)[j]? = none := fun g => by rw [Array.getElem?_eq_none]; rw [arrF_size]; omega
    rw [h1, h1]
    split
    · rw [if_neg (by rw [arrF_size]; omega)]
    · rfl

theorem arrF_eq {f g : Nat → Nat} (h : ∀ k, k < 11 → f k = g k) : arrF f = arrF g := by
  unfold arrF
  congr 1
  apply List.map_congr_left
  intro k hk
  rw [h k (List.mem_range.1 hk)]

def CSt (w0 : World) (b : Nat) (f : Nat → Nat) (w : World) : Prop := Crow w b (arrF f) ∧ w0.grownBy w (some b)

theorem Crow.put {w : World} {b : Nat} {f : Nat → Nat} (h : Crow w b (arrF f)) (k x : Nat) : Crow (w.setCell ⟨b, k, none⟩ (.int .i64 x)) b (arrF (fun j => if j = k then x else f j)) := by
  refine ⟨?_, arrF_size _⟩
  rw [heap_setCell_same w b _ _ _ _ h.1, ← arrF_set]

theorem CSt.put {w0 w : World} {b : Nat} {f g : Nat → Nat} (h : CSt w0 b f w) (k x : Nat) (hg : ∀ j, j < 11 → (if j = k then x else f j) = g j) : CSt w0 b g (w.setCell ⟨b, k, none⟩ (.int .i64 x)) :=
  ⟨by rw [← arrF_eq hg]; exact h.1.put k x, grown_trans h.2 (grown_put _ _ _ _)⟩

theorem CSt.on {w0 w w' : World} {b : Nat} {f : Nat → Nat} (h : CSt w0 b f w) (hb : Below w.heap.size w w') : CSt w0 b f w' :=
  ⟨h.1.kept hb, grown_trans h.2 ⟨hb.os, hb.tape, hb.output, hb.size, fun k hk _ => hb.block k hk⟩⟩

theorem CSt.cell {w0 w : World} {b : Nat} {f : Nat → Nat} (h : CSt w0 b f w) {k : Nat} (hk : k < 11) : w.cell? ⟨b, k, none⟩ = some (.int .i64 (f k)) := by
  rw [cell_of_row _ _ k _ _ _ h.1.1]; exact arrF_at f hk

theorem CSt.free {w0 w : World} {b : Nat} {f : Nat → Nat} (h : CSt w0 b f w) (k : Nat) : w.frozen? ⟨b, k, none⟩ = false := frozen_of_row w b k _ _ h.1.1

theorem CSt.like {w0 w : World} {b : Nat} {f g : Nat → Nat} (h : CSt w0 b f w) (hg : ∀ j, j < 11 → f j = g j) : CSt w0 b g w := ⟨by rw [← arrF_eq hg]; exact h.1, h.2⟩

theorem Crow.store {w : World} {b : Nat} {old : Array Value} (h : Crow w b old) (cs : Array Value) (hs : cs.size = 11) : Crow (w.setRow b cs) b cs := ⟨setRow_heap w b old _ _ _ h.1, hs⟩

theorem wplc_store {ops : Array Oper} {rest : List Oper} {o : Oper} {a : Act} {w : World} {Q : Exit → Act → World → Prop} (hgd : o.guard = none) (x y : Operand) (ho : o.op = .store 160 x y)
    (b : Nat) (cs : Array Value) (hx : a.eval x = .pointer (some ⟨b, 0, none⟩)) (hy : a.eval y = .agg cs) (old : Array Value) (hv : Crow w b old) (hs : cs.size = 11) (h1 : cs.all (·.oneCell') = true)
    (h : wpList Tryz.prog ops Q rest (a.put o.dst undef) (w.setRow b cs)) : wpList Tryz.prog ops Q (o :: rest) a w :=
  wpList_store_row hgd _ x y ho b cs hx hy _ old hv.1 (by rw [hs]; exact cls_size) (by rw [hv.2, hs]) h1 h

theorem cls_loadC {w : World} {b : Nat} {cs : Array Value} (h : Crow w b cs) : (loadVar 160 ⟨b, 0, none⟩).run Tryz.prog w = .ok (.agg cs) w :=
  run_loadVar_row w b _ _ cs (0, 0) _ h.1 Tryz.underlying160 rfl (by rw [h.2]; exact cls_size)

theorem results_cls {fn : Func} {p : Tmp} (h : fn.results = #[.cell p 160]) (tmps : Array Value) {w : World} {b : Nat} {cs : Array Value}
    (hp : tmps.getD p undef = .pointer (some ⟨b, 0, none⟩)) (hv : Crow w b cs) : (results fn tmps).run Tryz.prog w = .ok (.agg cs) w := by
  have hp' : tmps[p]?.getD undef = .pointer (some ⟨b, 0, none⟩) := by simpa using hp
  simp [results, h, hp', asAddr, cls_loadC hv]

theorem cls_zero (w : World) : (zeroValue 160).run Tryz.prog w = .ok (.agg (arrF fun _ => 0)) w := by
  have h : (Tryz.prog.info? 160).map (fun i => (i.zero, i.size)) = some (some (.agg (arrF fun _ => 0)), 11) := by kernel_rfl
  exact (zero_of_info h).1 w

theorem areb_len {n : Nat} {l : List Int} {a : Addr} {cap len : Nat} {w : World} (hz : Vz n l) (h : Rd w a l) (hlen : len = l.length) :
    ∀ (i j : Nat) (W : World), i ≤ n → j ≤ n → Below w.heap.size w W → Calls Tryz.prog 178 #[.agg #[.int .i64 n, .slice (some a) len cap], .int .i64 i, .int .i64 j] W (Made (.bool (bdB n l i j)) W) := by
  intro i j W hi hj h'
  have i64 : ∀ i j, i ≤ n → j ≤ n → I64 (Zo.At n l i j) := fun i j hi hj => by
    have := lv_two (hz.lv hi hj).1
    unfold I64; omega
  have := areb_any n i j l a cap W hz.hn hi hj hz.hl i64 (h.on h')
  rw [← hlen, su_eq (hz.lv hi hj).1 (hz.lv hj hi).1 (show lvB 1 = true by decide)] at this
  have e : decide (1 = Zo.smW (Zo.At n l i j) (Zo.At n l j i)) = bdB n l i j := by
    unfold bdB; rw [Bool.eq_iff_iff, decide_eq_true_eq, decide_eq_true_eq]; exact eq_comm
  rw [e] at this
  exact this

set_option maxHeartbeats 3200000 in
theorem mdivide_any (n : Nat) (l : List Int) (a : Addr) (cap : Nat) (w : World) (hz : Vz n l) (h : Rd w a l) :
    Calls Tryz.prog 156 #[.agg #[.int .i64 n, .slice (some a) l.length cap]] w (Made (.agg (arrF fun k => if k ≤ n then clsF n l k else 0)) w) := by
  obtain ⟨len, hlen⟩ : ∃ len, len = l.length := ⟨_, rfl⟩
  have AB := Lib.hid (areb_len (cap := cap) hz h hlen)
  have HZ := Lib.hid hz
  have hn := hz.hn
  have z0 := cls_zero
  rw [← hlen]
  obtain ⟨w0, hw0⟩ : ∃ w0, w0 = ((w.alloc (.cells #[.int .i64 n, .slice (some a) len cap] 36)).alloc (.cells (arrF fun _ => 0) 160)).alloc (.cells (arrF fun _ => 0) 160) := ⟨_, rfl⟩
  have bx : Two w0 w.heap.size (.int .i64 n) (.slice (some a) len cap) := by rw [hw0]; exact ((Two.made _ _ _ _).alloc _).alloc _
  have r1 : Crow w0 (w.heap.size + 1) (arrF fun _ => 0) := by
    rw [hw0]
    have := (Crow.made (w.alloc (.cells #[.int .i64 n, .slice (some a) len cap] 36)) (arrF_size fun _ => 0)).alloc (.cells (arrF fun _ => 0) 160)
    simpa using this
  have r2 : Crow w0 (w.heap.size + 1 + 1) (arrF fun _ => 0) := by
    rw [hw0]
    have := Crow.made ((w.alloc (.cells #[.int .i64 n, .slice (some a) len cap] 36)).alloc (.cells (arrF fun _ => 0) 160)) (arrF_size fun _ => 0)
    simpa using this
  have E0 := Lib.hid (show Below w.heap.size w w0 by rw [hw0]; exact past_three (Below.refl _ _))
  have R1 := Lib.hid r1
  have CB := Lib.hid (show CSt w0 (w.heap.size + 1 + 1) (fun k => if k < 0 then clsF n l k else 0) w0 from CSt.like ⟨r2, World.grownBy.refl _ _⟩ (fun j _ => by simp))
  have KB := Lib.hid (show ∀ f W, CSt w0 (w.heap.size + 1 + 1) f W → W.cell? ⟨w.heap.size, 0, none⟩ = some (.int .i64 n) ∧ W.cell? ⟨w.heap.size, 1, none⟩ = some (.slice (some a) len cap) from
    fun f W h => ⟨h.2.cell bx.1.1 (by simp; omega), h.2.cell bx.2.1 (by simp; omega)⟩)
  have KE := Lib.hid (show ∀ f W, CSt w0 (w.heap.size + 1 + 1) f W → Below w.heap.size w W from fun f W h => grown_over E0.out h.2 (by omega))
  have HW0 := Lib.hid hw0
  clear hlen h hz bx r1 r2 hw0
  go_enter Tryz.func156, Tryz.ntmps156
  go_wp2_with fail
  rw [← HW0.out]
  go_loopw [8] (fun s wr => ∃ t : Nat, t ≤ n + 1 ∧ s = .int .i64 t ∧ Hid (CSt w0 (w.heap.size + 1 + 1) (fun k => if k < t then clsF n l k else 0) wr)) (fun s _ => n + 1 - (intOf s).toNat)
  case atStart => exact ⟨0, by omega, rfl, CB⟩
  case round =>
    obtain ⟨t, ht, rfl, HX⟩ := hrel
    by_cases htn : t ≤ n
    case pos =>
      obtain ⟨b0, b1⟩ := KB.out _ _ HX.out
      have D9 : decide ((t : Int) < (n : Int) + 1) = true := by simp; omega
      have k1 : (0 : Int) ≤ (t : Int) := by omega
      have k2 : (t : Int) < 11 := by omega
      have k3 : (t : Int) < (11 : Nat) := by omega
      go_wp2_with fail
      clear b0 b1
      go_loopw [] (fun wx => ∃ s : Nat, s ≤ t ∧ Hid ((∀ k, k < s → bdB n l t k = false) ∧ CSt w0 (w.heap.size + 1 + 1) (fun k => if k < t then clsF n l k else if k = t then s else 0) wx)) (fun wx => t - (intOf ((wx.cell? ⟨w.heap.size + 1 + 1, t, none⟩).getD undef)).toNat)
      case atStart => exact ⟨0, by omega, Lib.hid ⟨fun k hk => by omega, HX.out.like fun j hj => by split <;> simp⟩⟩
      case round =>
        obtain ⟨s, hs, HY⟩ := hrel
        have FS := Lib.hid (show CSt w0 (w.heap.size + 1 + 1) (fun k => if k < t then clsF n l k else if k = t then s else 0) wr from HY.out.2)
        have cs : wr.cell? ⟨w.heap.size + 1 + 1, t, none⟩ = some (.int .i64 s) := by
          have := FS.out.cell (k := t) (by omega)
          simpa using this
        have fz : wr.frozen? ⟨w.heap.size + 1 + 1, t, none⟩ = false := FS.out.free t
        have KS := Lib.hid (show ∀ W, Below wr.heap.size wr W → (W.cell? ⟨w.heap.size, 0, none⟩ = some (.int .i64 n) ∧ W.cell? ⟨w.heap.size, 1, none⟩ = some (.slice (some a) len cap)) ∧ W.cell? ⟨w.heap.size + 1 + 1, t, none⟩ = some (.int .i64 s) from
          fun W h => ⟨KB.out _ _ (FS.out.on h), kept h cs⟩)
        have KF := Lib.hid (show ∀ W, Below wr.heap.size wr W → W.frozen? ⟨w.heap.size + 1 + 1, t, none⟩ = false from fun W h => (FS.out.on h).free t)
        have HMS := Lib.hid (show (intOf ((wr.cell? ⟨w.heap.size + 1 + 1, t, none⟩).getD undef)).toNat = s by rw [cs]; simp [intOf])
        clear cs fz
        have s1 : Below wr.heap.size wr wr.drew := (Below.refl _ _).drew
        cases hb : bdB n l t s
        case false =>
          have hst : s < t := by
            by_cases e : s = t
            · subst e; rw [bd_self HZ.out htn] at hb; cases hb
            · omega
          have HBF := Lib.hid hb
          clear hb
          go_wp2_with fail
          go_region_held3 (fun w' => (w'.cell? ⟨w.heap.size, 0, none⟩ = some (.int .i64 n) ∧ w'.cell? ⟨w.heap.size, 1, none⟩ = some (.slice (some a) len cap)) ∧ w'.cell? ⟨w.heap.size + 1 + 1, t, none⟩ = some (.int .i64 s)) (first | exact KS.out _ s1 | exact KS.out _ s2)
            (first | (go_at_call 178; refine (made_as (AB.out t s _ htn (by omega) (KE.out _ _ (FS.out.on s1))) HBF.out).mono ?_; rintro e wa ⟨rfl, hba⟩; have s2 := below_on s1 hba))
          have Q := Lib.hid s2
          clear s1 s2 hba
          obtain ⟨⟨b0, b1⟩, cs⟩ := KS.out _ Q.out
          have fz := KF.out _ Q.out
          have HN := Lib.hid (show (∀ k, k < s + 1 → bdB n l t k = false) ∧ CSt w0 (w.heap.size + 1 + 1) (fun k => if k < t then clsF n l k else if k = t then s + 1 else 0) (wa.setCell ⟨w.heap.size + 1 + 1, t, none⟩ (.int .i64 ((s + 1 : Nat) : Int))) from
            ⟨fun k hk => by
              by_cases e : k = s
              · rw [e]; exact HBF.out
              · exact HY.out.1 k (by omega), (FS.out.on Q.out).put t (s + 1) (fun j hj => by
                by_cases e : j = t
                · subst e; simp
                · simp [e])⟩)
          have HM2 := Lib.hid (show (((wa.setCell ⟨w.heap.size + 1 + 1, t, none⟩ (.int .i64 ((s + 1 : Nat) : Int))).cell? ⟨w.heap.size + 1 + 1, t, none⟩).getD undef) = .int .i64 ((s + 1 : Nat) : Int) by
            rw [World.cell?_setCell_same _ _ _ cs]; rfl)
          go_wp2_with fail
          go_roundw
          case rel => exact ⟨s + 1, by omega, HN⟩
          case measure =>
            rw [HMS.out]
            have := HM2.out
            push_cast at this
            rw [this]; simp [intOf]; omega
        case true =>
          have HBT := Lib.hid hb
          have HCL := Lib.hid (show clsF n l t = s from cls_of hs (fun _ => hb) HY.out.1)
          clear hb
          go_wp2_with fail
          go_region_held3 (fun w' => (w'.cell? ⟨w.heap.size, 0, none⟩ = some (.int .i64 n) ∧ w'.cell? ⟨w.heap.size, 1, none⟩ = some (.slice (some a) len cap)) ∧ w'.cell? ⟨w.heap.size + 1 + 1, t, none⟩ = some (.int .i64 s)) (first | exact KS.out _ s1 | exact KS.out _ s2)
            (first | (go_at_call 178; refine (made_as (AB.out t s _ htn (by omega) (KE.out _ _ (FS.out.on s1))) HBT.out).mono ?_; rintro e wa ⟨rfl, hba⟩; have s2 := below_on s1 hba))
          have Q := Lib.hid s2
          clear s1 s2 hba
          have HN := Lib.hid (show CSt w0 (w.heap.size + 1 + 1) (fun k => if k < t + 1 then clsF n l k else 0) wa from (FS.out.on Q.out).like fun j hj => by
            by_cases e : j < t
            · rw [if_pos e, if_pos (by omega)]
            · rw [if_neg e]
              by_cases g : j = t
              · subst g; rw [if_pos rfl, if_pos (by omega), HCL.out]
              · rw [if_neg g, if_neg (by omega)])
          go_wp2_with fail
          go_roundw
          case rel => exact ⟨t + 1, by omega, by go_num, HN⟩
          case measure => simp [intOf]; omega
    case neg =>
      have HF := Lib.hid (show CSt w0 (w.heap.size + 1 + 1) (fun k => if k ≤ n then clsF n l k else 0) wr from HX.out.like fun j hj => by
        have e : t = n + 1 := by omega
        subst e
        by_cases g : j ≤ n
        · rw [if_pos g, if_pos (by omega)]
        · rw [if_neg g, if_neg (by omega)])
      obtain ⟨b0, b1⟩ := KB.out _ _ HF.out
      have q1 : Crow wr (w.heap.size + 1) (arrF fun _ => 0) := by
        refine ⟨(HF.out.2.block _ R1.out.lt (by simp)).trans R1.out.1, R1.out.2⟩
      have HQ := Lib.hid q1
      clear q1
      go_wp2_with (first | (refine wplc_load rfl _ rfl _ rfl _ HF.out.1 ?_) | (refine wplc_store rfl _ _ rfl _ _ rfl rfl _ HQ.out (arrF_size _) (arrF_one _) ?_))
      refine bodyPost_ret (results_cls Tryz.results156 _ rfl (HQ.out.store _ (arrF_size _))) rfl ⟨rfl, ?_⟩
      exact Below.setRow (KE.out _ _ HF.out) (by omega) _
end Go.Proofs.YtaegiihkgicdnaaGreat
