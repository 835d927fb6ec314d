/- The contract of the reference's Read. -/
import Derived.Test.YtnbkphklidjmhaaDoorS4
namespace Go.Proofs.YtnbkphklidjmhaaDoor
open Go.RowKit

theorem slash_cons (c : UInt8) (r : List UInt8) : slash (c :: r) = if c = 47 then 0 else slash r + 1 := rfl
theorem drop_at (s : ByteArray) (k : Nat) (h : k < s.size) : s.data.toList.drop k = s[k] :: s.data.toList.drop (k + 1) := List.drop_eq_getElem_cons (by simpa using h)
theorem slash_step (s : ByteArray) (k : Nat) (h : k < s.size) (hs : slash s.data.toList = k + slash (s.data.toList.drop k)) (hc : ((s[k].toNat : Int) == 47) = false) :
    slash s.data.toList = (k + 1) + slash (s.data.toList.drop (k + 1)) := by
  have h1 := byte_eq s[k] 47 (by omega)
  rw [show ((47 : Nat) : Int) = 47 from rfl, hc] at h1
  rw [drop_at s k h, slash_cons, if_neg (by simpa using h1.symm)] at hs
  omega
theorem slash_hit (s : ByteArray) (k : Nat) (h : k < s.size) (hs : slash s.data.toList = k + slash (s.data.toList.drop k)) (hc : ((s[k].toNat : Int) == 47) = true) : slash s.data.toList = k := by
  have h1 := byte_eq s[k] 47 (by omega)
  rw [show ((47 : Nat) : Int) = 47 from rfl, hc] at h1
  rw [drop_at s k h, slash_cons, if_pos (by simpa using h1.symm)] at hs
  omega
theorem slash_none (s : ByteArray) (k : Nat) (h : ¬ k < s.size) (hs : slash s.data.toList = k + slash (s.data.toList.drop k)) : ¬ slash s.data.toList < s.data.toList.length := by
  rw [← Lib.size_eq]; omega
theorem upto_list (s : ByteArray) (k : Nat) : (s.extract 0 k).data.toList = s.data.toList.take k := by simp
theorem nm_rng (G : Bool) (D : List UInt8) : -9223372036854775807 ≤ nmI G D ∧ nmI G D ≤ 9223372036854775807 := by
  unfold nmI
  split
  · rename_i h
    have hd : isDec D = true := by unfold nmB at h; simp at h; exact h.1
    have := numF_val _ (isDec_all hd)
    split <;> omega
  · omega
theorem number_as {s : ByteArray} (w : World) (hs : s.size ≤ maxLen) {G : Bool} {D : List UInt8} (hG : G = Lib.hasPrefix s.data.toList [45]) (hD : D = Lib.trimPrefix s.data.toList [45]) :
    Calls Tryd.prog 55 #[.string s] w fun e w' => e = .returned (.tuple #[.int .i64 (nmI G D), .bool (nmG G D), .bool (nmB G D)]) ∧ w = w' := by
  rw [hG, hD]; exact number_any s w hs

set_option maxRecDepth 100000 in
set_option maxHeartbeats 1600000 in
theorem refRead_gen (s : ByteArray) (w : World) (hs : s.size ≤ 4294967295) (vN vD vE : Int) (HR : Hid (rdNum s.data.toList = vN ∧ rdDen s.data.toList = vD ∧ rdErr s.data.toList = vE)) :
    Calls Tryd.prog 37 #[.string s] w (Made (.tuple #[.agg #[.int .i64 vN, .int .i64 vD], .int .i64 vE]) w) := by
  go_enter Tryd.func37, Tryd.ntmps37
  go_wp2_with fail
  go_loop [4] (fun i => ∃ k : Nat, k ≤ s.size ∧ i = .int .i64 k ∧ Hid (slash s.data.toList = k + slash (s.data.toList.drop k))) (fun i => s.size - (intOf i).toNat)
  case atStart => exact ⟨0, Nat.zero_le _, rfl, Lib.hid (by simp)⟩
  case round =>
    obtain ⟨k, hk, rfl, hsl⟩ := hrel
    by_cases hlt : k < s.size
    · have hli : (k : Int) < (s.size : Int) := by omega
      cases hc : ((s[k].toNat : Int) == 47)
      · have H1 := Lib.hid (slash_step s k hlt hsl.out hc)
        have hc2 : ((s[k].toNat : Int) != 47) = true := by rw [bne, hc]; rfl
        go_wp2_with fail
        go_round
        case rel => exact ⟨k + 1, by omega, by go_num, H1⟩
        case measure => simp [intOf]; omega
      · have hc2 : ((s[k].toNat : Int) != 47) = false := by rw [bne, hc]; rfl
        have hS := slash_hit s k hlt hsl.out hc
        have hcut := cut_slash s.data.toList
        rw [hS, if_pos (by rw [← Lib.size_eq]; exact hlt)] at hcut
        obtain ⟨DT, hDT⟩ : ∃ D, D = Lib.trimPrefix (s.extract 0 k).data.toList [45] := ⟨_, rfl⟩
        obtain ⟨GT, hGT⟩ : ∃ G, G = Lib.hasPrefix (s.extract 0 k).data.toList [45] := ⟨_, rfl⟩
        obtain ⟨DB, hDB⟩ : ∃ D, D = Lib.trimPrefix (s.extract (k + 1) s.size).data.toList [45] := ⟨_, rfl⟩
        obtain ⟨GB, hGB⟩ : ∃ G, G = Lib.hasPrefix (s.extract (k + 1) s.size).data.toList [45] := ⟨_, rfl⟩
        have eT : rdNeg s.data.toList = GT ∧ rdDig s.data.toList = DT := by unfold rdNeg rdDig rdTop; rw [hcut, hGT, hDT, upto_list]; exact ⟨rfl, rfl⟩
        have eB : rdBot s.data.toList = (s.extract (k + 1) s.size).data.toList := by unfold rdBot; rw [hcut, Lib.extract_to_end]; rfl
        have N1 := Lib.hid (fun W => number_as W (show (s.extract 0 k).size ≤ maxLen by rw [Lib.size_eq, upto_list]; simp; unfold maxLen; omega) hGT hDT)
        have N2 := Lib.hid (fun W => number_as W (show (s.extract (k + 1) s.size).size ≤ maxLen by rw [Lib.size_eq, Lib.extract_to_end, List.length_drop, ← Lib.size_eq]; unfold maxLen; omega) hGB hDB)
        have h6 := fun h => ref_six (G := GT) (D := DT) hGB hDB h
        have h7 := fun a b c h => ref_seven (G := GT) (D := DT) hGB hDB a b c h
        have h0 := fun a b c h => ref_ok (G := GT) (D := DT) hGB hDB a b c h
        have hr := HR.out
        unfold rdNum rdDen rdErr at hr
        rw [eT.1, eT.2, eB] at hr
        rw [hr.1, hr.2.1, hr.2.2] at h6 h7 h0
        have r1 := nm_rng GT DT
        have r2 := nm_rng GB DB
        generalize nmI GT DT = nT at *
        generalize nmI GB DB = nB at *
        generalize nmG GT DT = gT at *
        generalize nmG GB DB = gB at *
        generalize nmB GT DT = bT at *
        generalize nmB GB DB = bB at *
        have H6 := Lib.hid h6
        have H7 := Lib.hid h7
        have H0 := Lib.hid h0
        clear h6 h7 h0 hr eT eB hDT hGT hDB hGB hcut hS hsl HR
        go_wp2_with fail
        refine (N1.out _).mono ?_
        rintro e w1 ⟨rfl, rfl⟩
        go_wp2_with fail
        refine (N2.out _).mono ?_
        rintro e w1 ⟨rfl, rfl⟩
        cases hbT : bT
        · have HV := Lib.hid (H6.out (by rw [hbT]; simp))
          clear H6 H7 H0 hbT
          go_wp2_with fail
          refine bodyPost_ret (v := .tuple #[.agg #[.int .i64 0, .int .i64 0], .int .i64 6]) (by simp [results, Tryd.results37, go_sem]) rfl ⟨by rw [HV.out.1, HV.out.2.1, HV.out.2.2], ?_⟩
          repeat (first | exact Below.refl _ _ | refine Below.alloc ?_ (by simp) _ | refine Below.setCell ?_ (by simp) _ | refine below_drewN ?_ _)
        cases hbB : bB
        · have HV := Lib.hid (H6.out (by rw [hbB]; simp))
          clear H6 H7 H0 hbT hbB
          go_wp2_with fail
          refine bodyPost_ret (v := .tuple #[.agg #[.int .i64 0, .int .i64 0], .int .i64 6]) (by simp [results, Tryd.results37, go_sem]) rfl ⟨by rw [HV.out.1, HV.out.2.1, HV.out.2.2], ?_⟩
          repeat (first | exact Below.refl _ _ | refine Below.alloc ?_ (by simp) _ | refine Below.setCell ?_ (by simp) _ | refine below_drewN ?_ _)
        by_cases hnB : nB < 1
        · have HV := Lib.hid (H6.out (by rintro ⟨_, _, h⟩; omega))
          clear H6 H7 H0 hbT hbB
          go_wp2_with fail
          refine bodyPost_ret (v := .tuple #[.agg #[.int .i64 0, .int .i64 0], .int .i64 6]) (by simp [results, Tryd.results37, go_sem]) rfl ⟨by rw [HV.out.1, HV.out.2.1, HV.out.2.2], ?_⟩
          repeat (first | exact Below.refl _ _ | refine Below.alloc ?_ (by simp) _ | refine Below.setCell ?_ (by simp) _ | refine below_drewN ?_ _)
        cases hgT : gT
        rotate_left
        · have HV := Lib.hid (H7.out hbT hbB (by omega) (by rw [hgT]; rfl))
          clear H6 H7 H0 hbT hbB hgT
          go_wp2_with fail
          refine bodyPost_ret (v := .tuple #[.agg #[.int .i64 0, .int .i64 0], .int .i64 7]) (by simp [results, Tryd.results37, go_sem]) rfl ⟨by rw [HV.out.1, HV.out.2.1, HV.out.2.2], ?_⟩
          repeat (first | exact Below.refl _ _ | refine Below.alloc ?_ (by simp) _ | refine Below.setCell ?_ (by simp) _ | refine below_drewN ?_ _)
        cases hgB : gB
        rotate_left
        · have HV := Lib.hid (H7.out hbT hbB (by omega) (by rw [hgB]; simp))
          clear H6 H7 H0 hbT hbB hgT hgB
          go_wp2_with fail
          refine bodyPost_ret (v := .tuple #[.agg #[.int .i64 0, .int .i64 0], .int .i64 7]) (by simp [results, Tryd.results37, go_sem]) rfl ⟨by rw [HV.out.1, HV.out.2.1, HV.out.2.2], ?_⟩
          repeat (first | exact Below.refl _ _ | refine Below.alloc ?_ (by simp) _ | refine Below.setCell ?_ (by simp) _ | refine below_drewN ?_ _)
        have HV := Lib.hid (H0.out hbT hbB (by omega) (by rw [hgT, hgB]; rfl))
        clear H6 H7 H0 hbT hbB hgT hgB
        go_wp2_with fail
        refine (refMake_any _ _ _ (by omega) (by omega) (by omega) (by omega)).mono ?_
        rintro e w2 ⟨rfl, hb⟩
        obtain ⟨hx, hf⟩ := bcell hb
        go_wp2_with fail
        refine bodyPost_ret (v := .tuple #[.agg #[.int .i64 (mkNum nT nB), .int .i64 (mkDen nT nB)], .int .i64 (mkErr nT nB)]) (by simp [results, Tryd.results37, go_sem, hx]) rfl ⟨by rw [HV.out.1, HV.out.2.1, HV.out.2.2], ?_⟩
        exact ((past_one hb).setCell (by simp) _).setCell (by simp) _
    · have hS := slash_none s k hlt hsl.out
      have hcut := cut_slash s.data.toList
      rw [if_neg hS] at hcut
      obtain rfl : k = s.size := by omega
      obtain ⟨DT, hDT⟩ : ∃ D, D = Lib.trimPrefix s.data.toList [45] := ⟨_, rfl⟩
      obtain ⟨GT, hGT⟩ : ∃ G, G = Lib.hasPrefix s.data.toList [45] := ⟨_, rfl⟩
      have eT : rdNeg s.data.toList = GT ∧ rdDig s.data.toList = DT := by unfold rdNeg rdDig rdTop; rw [hcut, hGT, hDT]; exact ⟨rfl, rfl⟩
      have eB : rdBot s.data.toList = [49] := by unfold rdBot; rw [hcut]; rfl
      have N1 := Lib.hid (fun W => number_as W (show s.size ≤ maxLen by unfold maxLen; omega) hGT hDT)
      have h6 : ¬ (nmB GT DT = true) → fNum GT DT [49] = 0 ∧ fDen GT DT [49] = 0 ∧ fErr GT DT [49] = 6 := fun h => ref_six (H := Lib.hasPrefix [49] [45]) (E := Lib.trimPrefix [49] [45]) rfl rfl (fun x => h x.1)
      have h7 : nmB GT DT = true → nmG GT DT = true → fNum GT DT [49] = 0 ∧ fDen GT DT [49] = 0 ∧ fErr GT DT [49] = 7 := fun a h => ref_seven (H := Lib.hasPrefix [49] [45]) (E := Lib.trimPrefix [49] [45]) rfl rfl a (by decide +kernel) (by decide +kernel) (by rw [h]; rfl)
      have h0 : nmB GT DT = true → nmG GT DT = false → fNum GT DT [49] = mkNum (nmI GT DT) 1 ∧ fDen GT DT [49] = mkDen (nmI GT DT) 1 ∧ fErr GT DT [49] = mkErr (nmI GT DT) 1 := fun a h => by
        have x := ref_ok (H := Lib.hasPrefix [49] [45]) (E := Lib.trimPrefix [49] [45]) rfl rfl a (by decide +kernel) (by decide +kernel) (by rw [h]; decide +kernel)
        rwa [show nmI (Lib.hasPrefix [49] [45]) (Lib.trimPrefix [49] [45]) = 1 by decide +kernel] at x
      have hr := HR.out
      unfold rdNum rdDen rdErr at hr
      rw [eT.1, eT.2, eB] at hr
      rw [hr.1, hr.2.1, hr.2.2] at h6 h7 h0
      have r1 := nm_rng GT DT
      generalize nmI GT DT = nT at *
      generalize nmG GT DT = gT at *
      generalize nmB GT DT = bT at *
      have H6 := Lib.hid h6
      have H7 := Lib.hid h7
      have H0 := Lib.hid h0
      clear h6 h7 h0 hr eT eB hDT hGT hcut hS hsl HR
      go_wp2_with fail
      refine (N1.out _).mono ?_
      rintro e w1 ⟨rfl, rfl⟩
      cases hbT : bT
      · have HV := Lib.hid (H6.out (by rw [hbT]; simp))
        clear H6 H7 H0 hbT
        go_wp2_with fail
        refine bodyPost_ret (v := .tuple #[.agg #[.int .i64 0, .int .i64 0], .int .i64 6]) (by simp [results, Tryd.results37, go_sem]) rfl ⟨by rw [HV.out.1, HV.out.2.1, HV.out.2.2], ?_⟩
        repeat (first | exact Below.refl _ _ | refine Below.alloc ?_ (by simp) _ | refine Below.setCell ?_ (by simp) _ | refine below_drewN ?_ _)
      cases hgT : gT
      rotate_left
      · have HV := Lib.hid (H7.out hbT (by rw [hgT]))
        clear H6 H7 H0 hbT hgT
        go_wp2_with fail
        refine bodyPost_ret (v := .tuple #[.agg #[.int .i64 0, .int .i64 0], .int .i64 7]) (by simp [results, Tryd.results37, go_sem]) rfl ⟨by rw [HV.out.1, HV.out.2.1, HV.out.2.2], ?_⟩
        repeat (first | exact Below.refl _ _ | refine Below.alloc ?_ (by simp) _ | refine Below.setCell ?_ (by simp) _ | refine below_drewN ?_ _)
      have HV := Lib.hid (H0.out hbT (by rw [hgT]))
      clear H6 H7 H0 hbT hgT
      go_wp2_with fail
      refine (refMake_any _ _ _ (by omega) (by omega) (by omega) (by omega)).mono ?_
      rintro e w2 ⟨rfl, hb⟩
      obtain ⟨hx, hf⟩ := bcell hb
      go_wp2_with fail
      refine bodyPost_ret (v := .tuple #[.agg #[.int .i64 (mkNum nT 1), .int .i64 (mkDen nT 1)], .int .i64 (mkErr nT 1)]) (by simp [results, Tryd.results37, go_sem, hx]) rfl ⟨by rw [HV.out.1, HV.out.2.1, HV.out.2.2], ?_⟩
      exact ((past_one hb).setCell (by simp) _).setCell (by simp) _

theorem refRead_any (s : ByteArray) (w : World) (hs : s.size ≤ 4294967295) :
    Calls Tryd.prog 37 #[.string s] w (Made (.tuple #[.agg #[.int .i64 (rdNum s.data.toList), .int .i64 (rdDen s.data.toList)], .int .i64 (rdErr s.data.toList)]) w) :=
  refRead_gen s w hs _ _ _ (Lib.hid ⟨rfl, rfl, rfl⟩)
end Go.Proofs.YtnbkphklidjmhaaDoor
