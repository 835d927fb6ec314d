/- The contract of ratio.Read. -/
import Derived.Test.YtnbkphklidjmhaaDoorV
namespace Go.Proofs.YtnbkphklidjmhaaDoor
open Go.RowKit

def fForm (G : Bool) (D B : List UInt8) : Bool := isDec D && isDec B && !(B == [48]) && !(G && (D == [48]))
def fA (G : Bool) (D : List UInt8) : Int := if G then -(valI D) else valI D
def fNum (G : Bool) (D B : List UInt8) : Int := if fForm G D B then (if valB D && valB B then mkNum (fA G D) (valI B) else 0) else 0
def fDen (G : Bool) (D B : List UInt8) : Int := if fForm G D B then (if valB D && valB B then mkDen (fA G D) (valI B) else 0) else 0
def fErr (G : Bool) (D B : List UInt8) : Int := if fForm G D B then (if valB D && valB B then mkErr (fA G D) (valI B) else 7) else 6

def rdTop (l : List UInt8) : List UInt8 := (Lib.cut l [47]).1
def rdBot (l : List UInt8) : List UInt8 := if (Lib.cut l [47]).2.2 then (Lib.cut l [47]).2.1 else [49]
def rdNeg (l : List UInt8) : Bool := Lib.hasPrefix (rdTop l) [45]
def rdDig (l : List UInt8) : List UInt8 := Lib.trimPrefix (rdTop l) [45]
def rdNum (l : List UInt8) : Int := fNum (rdNeg l) (rdDig l) (rdBot l)
def rdDen (l : List UInt8) : Int := fDen (rdNeg l) (rdDig l) (rdBot l)
def rdErr (l : List UInt8) : Int := fErr (rdNeg l) (rdDig l) (rdBot l)

theorem isDecimal_as {s : ByteArray} {b : Bool} (w : World) (hs : s.size ≤ maxLen) (h : isDec s.data.toList = b) :
    Calls Tryd.prog 53 #[.string s] w fun e w' => e = .returned (.bool b) ∧ w = w' := by
  rw [← h]; exact isDecimal_any s w hs
theorem isDec_all {l : List UInt8} (h : isDec l = true) : allDig l = true := by unfold isDec at h; simp at h; exact h.2
theorem val_bd (l : List UInt8) (h : allDig l = true) : 0 ≤ valI l ∧ valI l ≤ 9223372036854775807 := by
  have := valOf_nonneg l h
  unfold valI valB
  split
  · rename_i h; simp at h; omega
  · omega
theorem value_as {s : ByteArray} {b : Bool} (w : World) (hs : s.size ≤ maxLen) (hd : allDig s.data.toList = true) (h : valB s.data.toList = b) :
    Calls Tryd.prog 54 #[.string s] w fun e w' => e = .returned (.tuple #[.int .i64 (valI s.data.toList), .bool b]) ∧ w = w' := by
  rw [← h]; exact value_any s w hs hd
theorem cut_len (l : List UInt8) : (Lib.cut l [47]).1.length ≤ l.length ∧ (Lib.cut l [47]).2.1.length ≤ l.length := by
  unfold Lib.cut
  split <;> simp
  omega
theorem trim_len (l p : List UInt8) : (Lib.trimPrefix l p).length ≤ l.length := by
  unfold Lib.trimPrefix
  split <;> simp
theorem sizeL (l : List UInt8) : (⟨l.toArray⟩ : ByteArray).size = l.length := by simp [ByteArray.size]

set_option maxHeartbeats 1600000 in
theorem read_frac (s : ByteArray) (w : World) (hF : Fit w) (hs : s.size < 4294967281) (hf : (Lib.cut s.data.toList [47]).2.2 = true) :
    Calls Tryd.prog 36 #[.string s] w (Made (.tuple #[.agg #[.int .i64 (rdNum s.data.toList), .int .i64 (rdDen s.data.toList)], .int .i64 (rdErr s.data.toList)]) w) := by
  obtain ⟨m, hm⟩ := (hF.on ((Below.refl _ _).alloc (Nat.le_refl _) (.cells #[.int .i64 0, .int .i64 0] 23))).cut
  have HM := Lib.hid hm
  have HFr := Lib.hid hf
  clear hm hf
  have hcl := cut_len s.data.toList
  rw [← Lib.size_eq] at hcl
  go_enter Tryd.func36, Tryd.ntmps36
  go_wp2_with fail
  refine (Tryd.strings_Cut s ⟨#[47]⟩ m _ hs HM.out).mono ?_
  rintro e w1 ⟨rfl, n, rfl⟩
  have HN0 := Lib.hid (show rdNum s.data.toList = fNum (Lib.hasPrefix (Lib.cut s.data.toList [47]).1 [45]) (Lib.trimPrefix (Lib.cut s.data.toList [47]).1 [45]) (Lib.cut s.data.toList [47]).2.1 ∧
    rdDen s.data.toList = fDen (Lib.hasPrefix (Lib.cut s.data.toList [47]).1 [45]) (Lib.trimPrefix (Lib.cut s.data.toList [47]).1 [45]) (Lib.cut s.data.toList [47]).2.1 ∧
    rdErr s.data.toList = fErr (Lib.hasPrefix (Lib.cut s.data.toList [47]).1 [45]) (Lib.trimPrefix (Lib.cut s.data.toList [47]).1 [45]) (Lib.cut s.data.toList [47]).2.1 by
      simp [rdNum, rdDen, rdErr, rdNeg, rdDig, rdTop, rdBot, HFr.out])
  rw [show (Lib.cut s.data.toList (⟨#[47]⟩ : ByteArray).data.toList).2.2 = true from HFr.out]
  obtain ⟨T, hT⟩ : ∃ T : ByteArray, T = ⟨(Lib.cut s.data.toList [47]).1.toArray⟩ := ⟨_, rfl⟩
  have hTs : T.size ≤ s.size := by rw [hT, sizeL]; exact hcl.1
  rw [show (⟨(Lib.cut s.data.toList (⟨#[47]⟩ : ByteArray).data.toList).1.toArray⟩ : ByteArray) = T from hT.symm]
  have hTl : T.data.toList = (Lib.cut s.data.toList [47]).1 := by rw [hT]
  obtain ⟨B, hB⟩ : ∃ B : ByteArray, B = ⟨(Lib.cut s.data.toList [47]).2.1.toArray⟩ := ⟨_, rfl⟩
  have hBs : B.size ≤ maxLen := by rw [hB, sizeL]; unfold maxLen; omega
  rw [show (⟨(Lib.cut s.data.toList (⟨#[47]⟩ : ByteArray).data.toList).2.1.toArray⟩ : ByteArray) = B from hB.symm]
  have hBl : B.data.toList = (Lib.cut s.data.toList [47]).2.1 := by rw [hB]
  have HTl := Lib.hid hTl
  clear hT hTl hB
  have HBl := Lib.hid hBl
  clear hBl
  go_wp2_with fail
  refine (Tryd.strings_CutPrefix T ⟨#[45]⟩ _).mono ?_
  rintro e w1 ⟨rfl, rfl⟩
  obtain ⟨D, hD⟩ : ∃ D : ByteArray, D = ⟨(Lib.trimPrefix T.data.toList [45]).toArray⟩ := ⟨_, rfl⟩
  have hDs : D.size ≤ maxLen := by rw [hD, sizeL]; have := trim_len T.data.toList [45]; rw [← Lib.size_eq] at this; unfold maxLen; omega
  rw [show (⟨(Lib.trimPrefix T.data.toList (⟨#[45]⟩ : ByteArray).data.toList).toArray⟩ : ByteArray) = D from hD.symm]
  have hDl : D.data.toList = Lib.trimPrefix T.data.toList [45] := by rw [hD]
  obtain ⟨G, hG⟩ : ∃ G : Bool, G = Lib.hasPrefix T.data.toList [45] := ⟨_, rfl⟩
  rw [show Lib.hasPrefix T.data.toList (⟨#[45]⟩ : ByteArray).data.toList = G from hG.symm]
  have HN := Lib.hid (show rdNum s.data.toList = fNum G D.data.toList B.data.toList ∧ rdDen s.data.toList = fDen G D.data.toList B.data.toList ∧ rdErr s.data.toList = fErr G D.data.toList B.data.toList by
    rw [hDl, hG, HTl.out, HBl.out]; exact HN0.out)
  clear hD hDl hG
  cases d1 : isDec D.data.toList
  · have HV := Lib.hid (show fNum G D.data.toList B.data.toList = 0 ∧ fDen G D.data.toList B.data.toList = 0 ∧ fErr G D.data.toList B.data.toList = 6 by simp [fNum, fDen, fErr, fForm, d1])
    have D1 := Lib.hid d1
    clear d1
    go_wp2_with fail
    refine (isDecimal_as _ hDs D1.out).mono ?_
    rintro e w1 ⟨rfl, rfl⟩
    go_wp2_with fail
    refine bodyPost_ret (v := .tuple #[.agg #[.int .i64 0, .int .i64 0], .int .i64 6]) (by simp [results, Tryd.results36, go_sem]) rfl ⟨by rw [HN.out.1, HN.out.2.1, HN.out.2.2, HV.out.1, HV.out.2.1, HV.out.2.2], ?_⟩
    exact ((below_drewN ((Below.refl _ _).alloc (Nat.le_refl _) _) _).setCell (by simp) _).setCell (by simp) _
  cases d2 : isDec B.data.toList
  · have HV := Lib.hid (show fNum G D.data.toList B.data.toList = 0 ∧ fDen G D.data.toList B.data.toList = 0 ∧ fErr G D.data.toList B.data.toList = 6 by simp [fNum, fDen, fErr, fForm, d2])
    have D1 := Lib.hid d1
    have D2 := Lib.hid d2
    clear d1 d2
    go_wp2_with fail
    refine (isDecimal_as _ hDs D1.out).mono ?_
    rintro e w1 ⟨rfl, rfl⟩
    go_wp2_with fail
    refine (isDecimal_as _ hBs D2.out).mono ?_
    rintro e w1 ⟨rfl, rfl⟩
    go_wp2_with fail
    refine bodyPost_ret (v := .tuple #[.agg #[.int .i64 0, .int .i64 0], .int .i64 6]) (by simp [results, Tryd.results36, go_sem]) rfl ⟨by rw [HN.out.1, HN.out.2.1, HN.out.2.2, HV.out.1, HV.out.2.1, HV.out.2.2], ?_⟩
    exact ((below_drewN ((Below.refl _ _).alloc (Nat.le_refl _) _) _).setCell (by simp) _).setCell (by simp) _
  cases q1 : (B.data.toList == [48])
  rotate_left
  · have HV := Lib.hid (show fNum G D.data.toList B.data.toList = 0 ∧ fDen G D.data.toList B.data.toList = 0 ∧ fErr G D.data.toList B.data.toList = 6 by simp [fNum, fDen, fErr, fForm, q1])
    have D1 := Lib.hid d1
    have D2 := Lib.hid d2
    have Q1 : (B.toList == [48]) = true := by rw [Lib.toList_data]; exact q1
    have Q2 : B.toList = [48] := by simpa using Q1
    clear d1 d2 q1
    go_wp2_with fail
    refine (isDecimal_as _ hDs D1.out).mono ?_
    rintro e w1 ⟨rfl, rfl⟩
    go_wp2_with fail
    refine (isDecimal_as _ hBs D2.out).mono ?_
    rintro e w1 ⟨rfl, rfl⟩
    go_wp2_with fail
    refine bodyPost_ret (v := .tuple #[.agg #[.int .i64 0, .int .i64 0], .int .i64 6]) (by simp [results, Tryd.results36, go_sem]) rfl ⟨by rw [HN.out.1, HN.out.2.1, HN.out.2.2, HV.out.1, HV.out.2.1, HV.out.2.2], ?_⟩
    exact ((below_drewN ((Below.refl _ _).alloc (Nat.le_refl _) _) _).setCell (by simp) _).setCell (by simp) _
  cases q2 : (G && (D.data.toList == [48]))
  rotate_left
  · have HV := Lib.hid (show fNum G D.data.toList B.data.toList = 0 ∧ fDen G D.data.toList B.data.toList = 0 ∧ fErr G D.data.toList B.data.toList = 6 by simp [fNum, fDen, fErr, fForm, q2])
    have D1 := Lib.hid d1
    have D2 := Lib.hid d2
    have Q1 : (B.toList == [48]) = false := by rw [Lib.toList_data]; exact q1
    have Q2 : ¬ B.toList = [48] := by simpa using Q1
    obtain ⟨g1, q3⟩ : G = true ∧ (D.data.toList == [48]) = true := by simpa using q2
    subst g1
    have Q3 : (D.toList == [48]) = true := by rw [Lib.toList_data]; exact q3
    clear d1 d2 q1 q2 q3
    go_wp2_with fail
    refine (isDecimal_as _ hDs D1.out).mono ?_
    rintro e w1 ⟨rfl, rfl⟩
    go_wp2_with fail
    refine (isDecimal_as _ hBs D2.out).mono ?_
    rintro e w1 ⟨rfl, rfl⟩
    go_wp2_with fail
    refine bodyPost_ret (v := .tuple #[.agg #[.int .i64 0, .int .i64 0], .int .i64 6]) (by simp [results, Tryd.results36, go_sem]) rfl ⟨by rw [HN.out.1, HN.out.2.1, HN.out.2.2, HV.out.1, HV.out.2.1, HV.out.2.2], ?_⟩
    exact ((below_drewN ((Below.refl _ _).alloc (Nat.le_refl _) _) _).setCell (by simp) _).setCell (by simp) _
  have hform : fForm G D.data.toList B.data.toList = true := by simp [fForm, d1, d2, q1, q2]
  have D1 := Lib.hid d1
  have D2 := Lib.hid d2
  have Q1 : (B.toList == [48]) = false := by rw [Lib.toList_data]; exact q1
  have Q2 : ¬ B.toList = [48] := by simpa using Q1
  have A1 := Lib.hid (isDec_all d1)
  have A2 := Lib.hid (isDec_all d2)
  have vD := val_bd _ A1.out
  have vB := val_bd _ A2.out
  clear d1 d2 q1
  cases f1 : valB D.data.toList
  · cases f2 : valB B.data.toList
    ·
      have HV := Lib.hid (show fNum G D.data.toList B.data.toList = 0 ∧ fDen G D.data.toList B.data.toList = 0 ∧ fErr G D.data.toList B.data.toList = 7 by simp [fNum, fDen, fErr, hform, f1])
      have F1 := Lib.hid f1
      have F2 := Lib.hid f2
      clear f1 f2 hform
      cases G
      · clear q2
        go_wp2_with fail
        refine (isDecimal_as _ hDs D1.out).mono ?_
        rintro e w1 ⟨rfl, rfl⟩
        go_wp2_with fail
        refine (isDecimal_as _ hBs D2.out).mono ?_
        rintro e w1 ⟨rfl, rfl⟩
        go_wp2_with fail
        refine (value_as _ hDs A1.out F1.out).mono ?_
        rintro e w1 ⟨rfl, rfl⟩
        go_wp2_with fail
        refine (value_as _ hBs A2.out F2.out).mono ?_
        rintro e w1 ⟨rfl, rfl⟩
        go_wp2_with fail
        refine bodyPost_ret (v := .tuple #[.agg #[.int .i64 0, .int .i64 0], .int .i64 7]) (by simp [results, Tryd.results36, go_sem]) rfl ⟨by rw [HN.out.1, HN.out.2.1, HN.out.2.2, HV.out.1, HV.out.2.1, HV.out.2.2], ?_⟩
        exact ((below_drewN ((Below.refl _ _).alloc (Nat.le_refl _) _) _).setCell (by simp) _).setCell (by simp) _
      · have Q3 : (D.toList == [48]) = false := by rw [Lib.toList_data]; simpa using q2
        clear q2
        go_wp2_with fail
        refine (isDecimal_as _ hDs D1.out).mono ?_
        rintro e w1 ⟨rfl, rfl⟩
        go_wp2_with fail
        refine (isDecimal_as _ hBs D2.out).mono ?_
        rintro e w1 ⟨rfl, rfl⟩
        go_wp2_with fail
        refine (value_as _ hDs A1.out F1.out).mono ?_
        rintro e w1 ⟨rfl, rfl⟩
        go_wp2_with fail
        refine (value_as _ hBs A2.out F2.out).mono ?_
        rintro e w1 ⟨rfl, rfl⟩
        go_wp2_with fail
        refine bodyPost_ret (v := .tuple #[.agg #[.int .i64 0, .int .i64 0], .int .i64 7]) (by simp [results, Tryd.results36, go_sem]) rfl ⟨by rw [HN.out.1, HN.out.2.1, HN.out.2.2, HV.out.1, HV.out.2.1, HV.out.2.2], ?_⟩
        exact ((below_drewN ((Below.refl _ _).alloc (Nat.le_refl _) _) _).setCell (by simp) _).setCell (by simp) _
    ·
      have HV := Lib.hid (show fNum G D.data.toList B.data.toList = 0 ∧ fDen G D.data.toList B.data.toList = 0 ∧ fErr G D.data.toList B.data.toList = 7 by simp [fNum, fDen, fErr, hform, f1])
      have F1 := Lib.hid f1
      have F2 := Lib.hid f2
      clear f1 f2 hform
      cases G
      · clear q2
        go_wp2_with fail
        refine (isDecimal_as _ hDs D1.out).mono ?_
        rintro e w1 ⟨rfl, rfl⟩
        go_wp2_with fail
        refine (isDecimal_as _ hBs D2.out).mono ?_
        rintro e w1 ⟨rfl, rfl⟩
        go_wp2_with fail
        refine (value_as _ hDs A1.out F1.out).mono ?_
        rintro e w1 ⟨rfl, rfl⟩
        go_wp2_with fail
        refine (value_as _ hBs A2.out F2.out).mono ?_
        rintro e w1 ⟨rfl, rfl⟩
        go_wp2_with fail
        refine bodyPost_ret (v := .tuple #[.agg #[.int .i64 0, .int .i64 0], .int .i64 7]) (by simp [results, Tryd.results36, go_sem]) rfl ⟨by rw [HN.out.1, HN.out.2.1, HN.out.2.2, HV.out.1, HV.out.2.1, HV.out.2.2], ?_⟩
        exact ((below_drewN ((Below.refl _ _).alloc (Nat.le_refl _) _) _).setCell (by simp) _).setCell (by simp) _
      · have Q3 : (D.toList == [48]) = false := by rw [Lib.toList_data]; simpa using q2
        clear q2
        go_wp2_with fail
        refine (isDecimal_as _ hDs D1.out).mono ?_
        rintro e w1 ⟨rfl, rfl⟩
        go_wp2_with fail
        refine (isDecimal_as _ hBs D2.out).mono ?_
        rintro e w1 ⟨rfl, rfl⟩
        go_wp2_with fail
        refine (value_as _ hDs A1.out F1.out).mono ?_
        rintro e w1 ⟨rfl, rfl⟩
        go_wp2_with fail
        refine (value_as _ hBs A2.out F2.out).mono ?_
        rintro e w1 ⟨rfl, rfl⟩
        go_wp2_with fail
        refine bodyPost_ret (v := .tuple #[.agg #[.int .i64 0, .int .i64 0], .int .i64 7]) (by simp [results, Tryd.results36, go_sem]) rfl ⟨by rw [HN.out.1, HN.out.2.1, HN.out.2.2, HV.out.1, HV.out.2.1, HV.out.2.2], ?_⟩
        exact ((below_drewN ((Below.refl _ _).alloc (Nat.le_refl _) _) _).setCell (by simp) _).setCell (by simp) _
  cases f2 : valB B.data.toList
  ·
    have HV := Lib.hid (show fNum G D.data.toList B.data.toList = 0 ∧ fDen G D.data.toList B.data.toList = 0 ∧ fErr G D.data.toList B.data.toList = 7 by simp [fNum, fDen, fErr, hform, f1, f2])
    have F1 := Lib.hid f1
    have F2 := Lib.hid f2
    clear f1 f2 hform
    cases G
    · clear q2
      go_wp2_with fail
      refine (isDecimal_as _ hDs D1.out).mono ?_
      rintro e w1 ⟨rfl, rfl⟩
      go_wp2_with fail
      refine (isDecimal_as _ hBs D2.out).mono ?_
      rintro e w1 ⟨rfl, rfl⟩
      go_wp2_with fail
      refine (value_as _ hDs A1.out F1.out).mono ?_
      rintro e w1 ⟨rfl, rfl⟩
      go_wp2_with fail
      refine (value_as _ hBs A2.out F2.out).mono ?_
      rintro e w1 ⟨rfl, rfl⟩
      go_wp2_with fail
      refine bodyPost_ret (v := .tuple #[.agg #[.int .i64 0, .int .i64 0], .int .i64 7]) (by simp [results, Tryd.results36, go_sem]) rfl ⟨by rw [HN.out.1, HN.out.2.1, HN.out.2.2, HV.out.1, HV.out.2.1, HV.out.2.2], ?_⟩
      exact ((below_drewN ((Below.refl _ _).alloc (Nat.le_refl _) _) _).setCell (by simp) _).setCell (by simp) _
    · have Q3 : (D.toList == [48]) = false := by rw [Lib.toList_data]; simpa using q2
      clear q2
      go_wp2_with fail
      refine (isDecimal_as _ hDs D1.out).mono ?_
      rintro e w1 ⟨rfl, rfl⟩
      go_wp2_with fail
      refine (isDecimal_as _ hBs D2.out).mono ?_
      rintro e w1 ⟨rfl, rfl⟩
      go_wp2_with fail
      refine (value_as _ hDs A1.out F1.out).mono ?_
      rintro e w1 ⟨rfl, rfl⟩
      go_wp2_with fail
      refine (value_as _ hBs A2.out F2.out).mono ?_
      rintro e w1 ⟨rfl, rfl⟩
      go_wp2_with fail
      refine bodyPost_ret (v := .tuple #[.agg #[.int .i64 0, .int .i64 0], .int .i64 7]) (by simp [results, Tryd.results36, go_sem]) rfl ⟨by rw [HN.out.1, HN.out.2.1, HN.out.2.2, HV.out.1, HV.out.2.1, HV.out.2.2], ?_⟩
      exact ((below_drewN ((Below.refl _ _).alloc (Nat.le_refl _) _) _).setCell (by simp) _).setCell (by simp) _
  cases G
  · clear q2
    have HV := Lib.hid (show fNum false D.data.toList B.data.toList = mkNum (valI D.data.toList) (valI B.data.toList) ∧ fDen false D.data.toList B.data.toList = mkDen (valI D.data.toList) (valI B.data.toList) ∧ fErr false D.data.toList B.data.toList = mkErr (valI D.data.toList) (valI B.data.toList) by simp [fNum, fDen, fErr, fA, hform, f1, f2])
    have F1 := Lib.hid f1
    have F2 := Lib.hid f2
    clear f1 f2 hform
    go_wp2_with fail
    refine (isDecimal_as _ hDs D1.out).mono ?_
    rintro e w1 ⟨rfl, rfl⟩
    go_wp2_with fail
    refine (isDecimal_as _ hBs D2.out).mono ?_
    rintro e w1 ⟨rfl, rfl⟩
    go_wp2_with fail
    refine (value_as _ hDs A1.out F1.out).mono ?_
    rintro e w1 ⟨rfl, rfl⟩
    go_wp2_with fail
    refine (value_as _ hBs A2.out F2.out).mono ?_
    rintro e w1 ⟨rfl, rfl⟩
    go_wp2_with fail
    refine (make_any _ _ _ (by omega) (by omega) (by omega) (by omega)).mono ?_
    rintro e w2 ⟨rfl, hb⟩
    obtain ⟨hx, hf⟩ := bcell hb
    go_wp2_with fail
    refine bodyPost_ret (v := .tuple #[.agg #[.int .i64 (mkNum (valI D.data.toList) (valI B.data.toList)), .int .i64 (mkDen (valI D.data.toList) (valI B.data.toList))], .int .i64 (mkErr (valI D.data.toList) (valI B.data.toList))]) (by simp [results, Tryd.results36, go_sem, hx]) rfl ⟨by rw [HN.out.1, HN.out.2.1, HN.out.2.2, HV.out.1, HV.out.2.1, HV.out.2.2], ?_⟩
    exact (((below_drewN ((Below.refl _ _).alloc (Nat.le_refl _) _) _).trans (hb.mono (by simp))).setCell (by simp) _).setCell (by simp) _
  · have Q3 : (D.toList == [48]) = false := by rw [Lib.toList_data]; simpa using q2
    clear q2
    have HV := Lib.hid (show fNum true D.data.toList B.data.toList = mkNum (-(valI D.data.toList)) (valI B.data.toList) ∧ fDen true D.data.toList B.data.toList = mkDen (-(valI D.data.toList)) (valI B.data.toList) ∧ fErr true D.data.toList B.data.toList = mkErr (-(valI D.data.toList)) (valI B.data.toList) by simp [fNum, fDen, fErr, fA, hform, f1, f2])
    have F1 := Lib.hid f1
    have F2 := Lib.hid f2
    clear f1 f2 hform
    go_wp2_with fail
    refine (isDecimal_as _ hDs D1.out).mono ?_
    rintro e w1 ⟨rfl, rfl⟩
    go_wp2_with fail
    refine (isDecimal_as _ hBs D2.out).mono ?_
    rintro e w1 ⟨rfl, rfl⟩
    go_wp2_with fail
    refine (value_as _ hDs A1.out F1.out).mono ?_
    rintro e w1 ⟨rfl, rfl⟩
    go_wp2_with fail
    refine (value_as _ hBs A2.out F2.out).mono ?_
    rintro e w1 ⟨rfl, rfl⟩
    go_wp2_with fail
    refine (make_any _ _ _ (by omega) (by omega) (by omega) (by omega)).mono ?_
    rintro e w2 ⟨rfl, hb⟩
    obtain ⟨hx, hf⟩ := bcell hb
    go_wp2_with fail
    refine bodyPost_ret (v := .tuple #[.agg #[.int .i64 (mkNum (-(valI D.data.toList)) (valI B.data.toList)), .int .i64 (mkDen (-(valI D.data.toList)) (valI B.data.toList))], .int .i64 (mkErr (-(valI D.data.toList)) (valI B.data.toList))]) (by simp [results, Tryd.results36, go_sem, hx]) rfl ⟨by rw [HN.out.1, HN.out.2.1, HN.out.2.2, HV.out.1, HV.out.2.1, HV.out.2.2], ?_⟩
    exact (((below_drewN ((Below.refl _ _).alloc (Nat.le_refl _) _) _).trans (hb.mono (by simp))).setCell (by simp) _).setCell (by simp) _

set_option maxHeartbeats 1600000 in
theorem read_whole (s : ByteArray) (w : World) (hF : Fit w) (hs : s.size < 4294967281) (hf : (Lib.cut s.data.toList [47]).2.2 = false) :
    Calls Tryd.prog 36 #[.string s] w (Made (.tuple #[.agg #[.int .i64 (rdNum s.data.toList), .int .i64 (rdDen s.data.toList)], .int .i64 (rdErr s.data.toList)]) w) := by
  obtain ⟨m, hm⟩ := (hF.on ((Below.refl _ _).alloc (Nat.le_refl _) (.cells #[.int .i64 0, .int .i64 0] 23))).cut
  have HM := Lib.hid hm
  have HFr := Lib.hid hf
  clear hm hf
  have hcl := cut_len s.data.toList
  rw [← Lib.size_eq] at hcl
  go_enter Tryd.func36, Tryd.ntmps36
  go_wp2_with fail
  refine (Tryd.strings_Cut s ⟨#[47]⟩ m _ hs HM.out).mono ?_
  rintro e w1 ⟨rfl, n, rfl⟩
  have HN0 := Lib.hid (show rdNum s.data.toList = fNum (Lib.hasPrefix (Lib.cut s.data.toList [47]).1 [45]) (Lib.trimPrefix (Lib.cut s.data.toList [47]).1 [45]) [49] ∧
    rdDen s.data.toList = fDen (Lib.hasPrefix (Lib.cut s.data.toList [47]).1 [45]) (Lib.trimPrefix (Lib.cut s.data.toList [47]).1 [45]) [49] ∧
    rdErr s.data.toList = fErr (Lib.hasPrefix (Lib.cut s.data.toList [47]).1 [45]) (Lib.trimPrefix (Lib.cut s.data.toList [47]).1 [45]) [49] by
      simp [rdNum, rdDen, rdErr, rdNeg, rdDig, rdTop, rdBot, HFr.out])
  rw [show (Lib.cut s.data.toList (⟨#[47]⟩ : ByteArray).data.toList).2.2 = false from HFr.out]
  obtain ⟨T, hT⟩ : ∃ T : ByteArray, T = ⟨(Lib.cut s.data.toList [47]).1.toArray⟩ := ⟨_, rfl⟩
  have hTs : T.size ≤ s.size := by rw [hT, sizeL]; exact hcl.1
  rw [show (⟨(Lib.cut s.data.toList (⟨#[47]⟩ : ByteArray).data.toList).1.toArray⟩ : ByteArray) = T from hT.symm]
  have hTl : T.data.toList = (Lib.cut s.data.toList [47]).1 := by rw [hT]
  have HTl := Lib.hid hTl
  clear hT hTl
  go_wp2_with fail
  refine (Tryd.strings_CutPrefix T ⟨#[45]⟩ _).mono ?_
  rintro e w1 ⟨rfl, rfl⟩
  obtain ⟨D, hD⟩ : ∃ D : ByteArray, D = ⟨(Lib.trimPrefix T.data.toList [45]).toArray⟩ := ⟨_, rfl⟩
  have hDs : D.size ≤ maxLen := by rw [hD, sizeL]; have := trim_len T.data.toList [45]; rw [← Lib.size_eq] at this; unfold maxLen; omega
  rw [show (⟨(Lib.trimPrefix T.data.toList (⟨#[45]⟩ : ByteArray).data.toList).toArray⟩ : ByteArray) = D from hD.symm]
  have hDl : D.data.toList = Lib.trimPrefix T.data.toList [45] := by rw [hD]
  obtain ⟨G, hG⟩ : ∃ G : Bool, G = Lib.hasPrefix T.data.toList [45] := ⟨_, rfl⟩
  rw [show Lib.hasPrefix T.data.toList (⟨#[45]⟩ : ByteArray).data.toList = G from hG.symm]
  obtain ⟨B, hB⟩ : ∃ B : ByteArray, B = ⟨#[49]⟩ := ⟨_, rfl⟩
  have hBs : B.size ≤ maxLen := by rw [hB]; show 1 ≤ maxLen; unfold maxLen; omega
  rw [← hB]
  have HBl := Lib.hid (show B.data.toList = [49] by rw [hB])
  clear hB
  have HN := Lib.hid (show rdNum s.data.toList = fNum G D.data.toList B.data.toList ∧ rdDen s.data.toList = fDen G D.data.toList B.data.toList ∧ rdErr s.data.toList = fErr G D.data.toList B.data.toList by
    rw [hDl, hG, HTl.out, HBl.out]; exact HN0.out)
  clear hD hDl hG
  cases d1 : isDec D.data.toList
  · have HV := Lib.hid (show fNum G D.data.toList B.data.toList = 0 ∧ fDen G D.data.toList B.data.toList = 0 ∧ fErr G D.data.toList B.data.toList = 6 by simp [fNum, fDen, fErr, fForm, d1])
    have D1 := Lib.hid d1
    clear d1
    go_wp2_with fail
    refine (isDecimal_as _ hDs D1.out).mono ?_
    rintro e w1 ⟨rfl, rfl⟩
    go_wp2_with fail
    refine bodyPost_ret (v := .tuple #[.agg #[.int .i64 0, .int .i64 0], .int .i64 6]) (by simp [results, Tryd.results36, go_sem]) rfl ⟨by rw [HN.out.1, HN.out.2.1, HN.out.2.2, HV.out.1, HV.out.2.1, HV.out.2.2], ?_⟩
    exact ((below_drewN ((Below.refl _ _).alloc (Nat.le_refl _) _) _).setCell (by simp) _).setCell (by simp) _
  cases d2 : isDec B.data.toList
  · have HV := Lib.hid (show fNum G D.data.toList B.data.toList = 0 ∧ fDen G D.data.toList B.data.toList = 0 ∧ fErr G D.data.toList B.data.toList = 6 by simp [fNum, fDen, fErr, fForm, d2])
    have D1 := Lib.hid d1
    have D2 := Lib.hid d2
    clear d1 d2
    go_wp2_with fail
    refine (isDecimal_as _ hDs D1.out).mono ?_
    rintro e w1 ⟨rfl, rfl⟩
    go_wp2_with fail
    refine (isDecimal_as _ hBs D2.out).mono ?_
    rintro e w1 ⟨rfl, rfl⟩
    go_wp2_with fail
    refine bodyPost_ret (v := .tuple #[.agg #[.int .i64 0, .int .i64 0], .int .i64 6]) (by simp [results, Tryd.results36, go_sem]) rfl ⟨by rw [HN.out.1, HN.out.2.1, HN.out.2.2, HV.out.1, HV.out.2.1, HV.out.2.2], ?_⟩
    exact ((below_drewN ((Below.refl _ _).alloc (Nat.le_refl _) _) _).setCell (by simp) _).setCell (by simp) _
  cases q1 : (B.data.toList == [48])
  rotate_left
  · have HV := Lib.hid (show fNum G D.data.toList B.data.toList = 0 ∧ fDen G D.data.toList B.data.toList = 0 ∧ fErr G D.data.toList B.data.toList = 6 by simp [fNum, fDen, fErr, fForm, q1])
    have D1 := Lib.hid d1
    have D2 := Lib.hid d2
    have Q1 : (B.toList == [48]) = true := by rw [Lib.toList_data]; exact q1
    have Q2 : B.toList = [48] := by simpa using Q1
    clear d1 d2 q1
    go_wp2_with fail
    refine (isDecimal_as _ hDs D1.out).mono ?_
    rintro e w1 ⟨rfl, rfl⟩
    go_wp2_with fail
    refine (isDecimal_as _ hBs D2.out).mono ?_
    rintro e w1 ⟨rfl, rfl⟩
    go_wp2_with fail
    refine bodyPost_ret (v := .tuple #[.agg #[.int .i64 0, .int .i64 0], .int .i64 6]) (by simp [results, Tryd.results36, go_sem]) rfl ⟨by rw [HN.out.1, HN.out.2.1, HN.out.2.2, HV.out.1, HV.out.2.1, HV.out.2.2], ?_⟩
    exact ((below_drewN ((Below.refl _ _).alloc (Nat.le_refl _) _) _).setCell (by simp) _).setCell (by simp) _
  cases q2 : (G && (D.data.toList == [48]))
  rotate_left
  · have HV := Lib.hid (show fNum G D.data.toList B.data.toList = 0 ∧ fDen G D.data.toList B.data.toList = 0 ∧ fErr G D.data.toList B.data.toList = 6 by simp [fNum, fDen, fErr, fForm, q2])
    have D1 := Lib.hid d1
    have D2 := Lib.hid d2
    have Q1 : (B.toList == [48]) = false := by rw [Lib.toList_data]; exact q1
    have Q2 : ¬ B.toList = [48] := by simpa using Q1
    obtain ⟨g1, q3⟩ : G = true ∧ (D.data.toList == [48]) = true := by simpa using q2
    subst g1
    have Q3 : (D.toList == [48]) = true := by rw [Lib.toList_data]; exact q3
    clear d1 d2 q1 q2 q3
    go_wp2_with fail
    refine (isDecimal_as _ hDs D1.out).mono ?_
    rintro e w1 ⟨rfl, rfl⟩
    go_wp2_with fail
    refine (isDecimal_as _ hBs D2.out).mono ?_
    rintro e w1 ⟨rfl, rfl⟩
    go_wp2_with fail
    refine bodyPost_ret (v := .tuple #[.agg #[.int .i64 0, .int .i64 0], .int .i64 6]) (by simp [results, Tryd.results36, go_sem]) rfl ⟨by rw [HN.out.1, HN.out.2.1, HN.out.2.2, HV.out.1, HV.out.2.1, HV.out.2.2], ?_⟩
    exact ((below_drewN ((Below.refl _ _).alloc (Nat.le_refl _) _) _).setCell (by simp) _).setCell (by simp) _
  have hform : fForm G D.data.toList B.data.toList = true := by simp [fForm, d1, d2, q1, q2]
  have D1 := Lib.hid d1
  have D2 := Lib.hid d2
  have Q1 : (B.toList == [48]) = false := by rw [Lib.toList_data]; exact q1
  have Q2 : ¬ B.toList = [48] := by simpa using Q1
  have A1 := Lib.hid (isDec_all d1)
  have A2 := Lib.hid (isDec_all d2)
  have vD := val_bd _ A1.out
  have vB := val_bd _ A2.out
  clear d1 d2 q1
  cases f1 : valB D.data.toList
  · cases f2 : valB B.data.toList
    ·
      have HV := Lib.hid (show fNum G D.data.toList B.data.toList = 0 ∧ fDen G D.data.toList B.data.toList = 0 ∧ fErr G D.data.toList B.data.toList = 7 by simp [fNum, fDen, fErr, hform, f1])
      have F1 := Lib.hid f1
      have F2 := Lib.hid f2
      clear f1 f2 hform
      cases G
      · clear q2
        go_wp2_with fail
        refine (isDecimal_as _ hDs D1.out).mono ?_
        rintro e w1 ⟨rfl, rfl⟩
        go_wp2_with fail
        refine (isDecimal_as _ hBs D2.out).mono ?_
        rintro e w1 ⟨rfl, rfl⟩
        go_wp2_with fail
        refine (value_as _ hDs A1.out F1.out).mono ?_
        rintro e w1 ⟨rfl, rfl⟩
        go_wp2_with fail
        refine (value_as _ hBs A2.out F2.out).mono ?_
        rintro e w1 ⟨rfl, rfl⟩
        go_wp2_with fail
        refine bodyPost_ret (v := .tuple #[.agg #[.int .i64 0, .int .i64 0], .int .i64 7]) (by simp [results, Tryd.results36, go_sem]) rfl ⟨by rw [HN.out.1, HN.out.2.1, HN.out.2.2, HV.out.1, HV.out.2.1, HV.out.2.2], ?_⟩
        exact ((below_drewN ((Below.refl _ _).alloc (Nat.le_refl _) _) _).setCell (by simp) _).setCell (by simp) _
      · have Q3 : (D.toList == [48]) = false := by rw [Lib.toList_data]; simpa using q2
        clear q2
        go_wp2_with fail
        refine (isDecimal_as _ hDs D1.out).mono ?_
        rintro e w1 ⟨rfl, rfl⟩
        go_wp2_with fail
        refine (isDecimal_as _ hBs D2.out).mono ?_
        rintro e w1 ⟨rfl, rfl⟩
        go_wp2_with fail
        refine (value_as _ hDs A1.out F1.out).mono ?_
        rintro e w1 ⟨rfl, rfl⟩
        go_wp2_with fail
        refine (value_as _ hBs A2.out F2.out).mono ?_
        rintro e w1 ⟨rfl, rfl⟩
        go_wp2_with fail
        refine bodyPost_ret (v := .tuple #[.agg #[.int .i64 0, .int .i64 0], .int .i64 7]) (by simp [results, Tryd.results36, go_sem]) rfl ⟨by rw [HN.out.1, HN.out.2.1, HN.out.2.2, HV.out.1, HV.out.2.1, HV.out.2.2], ?_⟩
        exact ((below_drewN ((Below.refl _ _).alloc (Nat.le_refl _) _) _).setCell (by simp) _).setCell (by simp) _
    ·
      have HV := Lib.hid (show fNum G D.data.toList B.data.toList = 0 ∧ fDen G D.data.toList B.data.toList = 0 ∧ fErr G D.data.toList B.data.toList = 7 by simp [fNum, fDen, fErr, hform, f1])
      have F1 := Lib.hid f1
      have F2 := Lib.hid f2
      clear f1 f2 hform
      cases G
      · clear q2
        go_wp2_with fail
        refine (isDecimal_as _ hDs D1.out).mono ?_
        rintro e w1 ⟨rfl, rfl⟩
        go_wp2_with fail
        refine (isDecimal_as _ hBs D2.out).mono ?_
        rintro e w1 ⟨rfl, rfl⟩
        go_wp2_with fail
        refine (value_as _ hDs A1.out F1.out).mono ?_
        rintro e w1 ⟨rfl, rfl⟩
        go_wp2_with fail
        refine (value_as _ hBs A2.out F2.out).mono ?_
        rintro e w1 ⟨rfl, rfl⟩
        go_wp2_with fail
        refine bodyPost_ret (v := .tuple #[.agg #[.int .i64 0, .int .i64 0], .int .i64 7]) (by simp [results, Tryd.results36, go_sem]) rfl ⟨by rw [HN.out.1, HN.out.2.1, HN.out.2.2, HV.out.1, HV.out.2.1, HV.out.2.2], ?_⟩
        exact ((below_drewN ((Below.refl _ _).alloc (Nat.le_refl _) _) _).setCell (by simp) _).setCell (by simp) _
      · have Q3 : (D.toList == [48]) = false := by rw [Lib.toList_data]; simpa using q2
        clear q2
        go_wp2_with fail
        refine (isDecimal_as _ hDs D1.out).mono ?_
        rintro e w1 ⟨rfl, rfl⟩
        go_wp2_with fail
        refine (isDecimal_as _ hBs D2.out).mono ?_
        rintro e w1 ⟨rfl, rfl⟩
        go_wp2_with fail
        refine (value_as _ hDs A1.out F1.out).mono ?_
        rintro e w1 ⟨rfl, rfl⟩
        go_wp2_with fail
        refine (value_as _ hBs A2.out F2.out).mono ?_
        rintro e w1 ⟨rfl, rfl⟩
        go_wp2_with fail
        refine bodyPost_ret (v := .tuple #[.agg #[.int .i64 0, .int .i64 0], .int .i64 7]) (by simp [results, Tryd.results36, go_sem]) rfl ⟨by rw [HN.out.1, HN.out.2.1, HN.out.2.2, HV.out.1, HV.out.2.1, HV.out.2.2], ?_⟩
        exact ((below_drewN ((Below.refl _ _).alloc (Nat.le_refl _) _) _).setCell (by simp) _).setCell (by simp) _
  cases f2 : valB B.data.toList
  ·
    have HV := Lib.hid (show fNum G D.data.toList B.data.toList = 0 ∧ fDen G D.data.toList B.data.toList = 0 ∧ fErr G D.data.toList B.data.toList = 7 by simp [fNum, fDen, fErr, hform, f1, f2])
    have F1 := Lib.hid f1
    have F2 := Lib.hid f2
    clear f1 f2 hform
    cases G
    · clear q2
      go_wp2_with fail
      refine (isDecimal_as _ hDs D1.out).mono ?_
      rintro e w1 ⟨rfl, rfl⟩
      go_wp2_with fail
      refine (isDecimal_as _ hBs D2.out).mono ?_
      rintro e w1 ⟨rfl, rfl⟩
      go_wp2_with fail
      refine (value_as _ hDs A1.out F1.out).mono ?_
      rintro e w1 ⟨rfl, rfl⟩
      go_wp2_with fail
      refine (value_as _ hBs A2.out F2.out).mono ?_
      rintro e w1 ⟨rfl, rfl⟩
      go_wp2_with fail
      refine bodyPost_ret (v := .tuple #[.agg #[.int .i64 0, .int .i64 0], .int .i64 7]) (by simp [results, Tryd.results36, go_sem]) rfl ⟨by rw [HN.out.1, HN.out.2.1, HN.out.2.2, HV.out.1, HV.out.2.1, HV.out.2.2], ?_⟩
      exact ((below_drewN ((Below.refl _ _).alloc (Nat.le_refl _) _) _).setCell (by simp) _).setCell (by simp) _
    · have Q3 : (D.toList == [48]) = false := by rw [Lib.toList_data]; simpa using q2
      clear q2
      go_wp2_with fail
      refine (isDecimal_as _ hDs D1.out).mono ?_
      rintro e w1 ⟨rfl, rfl⟩
      go_wp2_with fail
      refine (isDecimal_as _ hBs D2.out).mono ?_
      rintro e w1 ⟨rfl, rfl⟩
      go_wp2_with fail
      refine (value_as _ hDs A1.out F1.out).mono ?_
      rintro e w1 ⟨rfl, rfl⟩
      go_wp2_with fail
      refine (value_as _ hBs A2.out F2.out).mono ?_
      rintro e w1 ⟨rfl, rfl⟩
      go_wp2_with fail
      refine bodyPost_ret (v := .tuple #[.agg #[.int .i64 0, .int .i64 0], .int .i64 7]) (by simp [results, Tryd.results36, go_sem]) rfl ⟨by rw [HN.out.1, HN.out.2.1, HN.out.2.2, HV.out.1, HV.out.2.1, HV.out.2.2], ?_⟩
      exact ((below_drewN ((Below.refl _ _).alloc (Nat.le_refl _) _) _).setCell (by simp) _).setCell (by simp) _
  cases G
  · clear q2
    have HV := Lib.hid (show fNum false D.data.toList B.data.toList = mkNum (valI D.data.toList) (valI B.data.toList) ∧ fDen false D.data.toList B.data.toList = mkDen (valI D.data.toList) (valI B.data.toList) ∧ fErr false D.data.toList B.data.toList = mkErr (valI D.data.toList) (valI B.data.toList) by simp [fNum, fDen, fErr, fA, hform, f1, f2])
    have F1 := Lib.hid f1
    have F2 := Lib.hid f2
    clear f1 f2 hform
    go_wp2_with fail
    refine (isDecimal_as _ hDs D1.out).mono ?_
    rintro e w1 ⟨rfl, rfl⟩
    go_wp2_with fail
    refine (isDecimal_as _ hBs D2.out).mono ?_
    rintro e w1 ⟨rfl, rfl⟩
    go_wp2_with fail
    refine (value_as _ hDs A1.out F1.out).mono ?_
    rintro e w1 ⟨rfl, rfl⟩
    go_wp2_with fail
    refine (value_as _ hBs A2.out F2.out).mono ?_
    rintro e w1 ⟨rfl, rfl⟩
    go_wp2_with fail
    refine (make_any _ _ _ (by omega) (by omega) (by omega) (by omega)).mono ?_
    rintro e w2 ⟨rfl, hb⟩
    obtain ⟨hx, hf⟩ := bcell hb
    go_wp2_with fail
    refine bodyPost_ret (v := .tuple #[.agg #[.int .i64 (mkNum (valI D.data.toList) (valI B.data.toList)), .int .i64 (mkDen (valI D.data.toList) (valI B.data.toList))], .int .i64 (mkErr (valI D.data.toList) (valI B.data.toList))]) (by simp [results, Tryd.results36, go_sem, hx]) rfl ⟨by rw [HN.out.1, HN.out.2.1, HN.out.2.2, HV.out.1, HV.out.2.1, HV.out.2.2], ?_⟩
    exact (((below_drewN ((Below.refl _ _).alloc (Nat.le_refl _) _) _).trans (hb.mono (by simp))).setCell (by simp) _).setCell (by simp) _
  · have Q3 : (D.toList == [48]) = false := by rw [Lib.toList_data]; simpa using q2
    clear q2
    have HV := Lib.hid (show fNum true D.data.toList B.data.toList = mkNum (-(valI D.data.toList)) (valI B.data.toList) ∧ fDen true D.data.toList B.data.toList = mkDen (-(valI D.data.toList)) (valI B.data.toList) ∧ fErr true D.data.toList B.data.toList = mkErr (-(valI D.data.toList)) (valI B.data.toList) by simp [fNum, fDen, fErr, fA, hform, f1, f2])
    have F1 := Lib.hid f1
    have F2 := Lib.hid f2
    clear f1 f2 hform
    go_wp2_with fail
    refine (isDecimal_as _ hDs D1.out).mono ?_
    rintro e w1 ⟨rfl, rfl⟩
    go_wp2_with fail
    refine (isDecimal_as _ hBs D2.out).mono ?_
    rintro e w1 ⟨rfl, rfl⟩
    go_wp2_with fail
    refine (value_as _ hDs A1.out F1.out).mono ?_
    rintro e w1 ⟨rfl, rfl⟩
    go_wp2_with fail
    refine (value_as _ hBs A2.out F2.out).mono ?_
    rintro e w1 ⟨rfl, rfl⟩
    go_wp2_with fail
    refine (make_any _ _ _ (by omega) (by omega) (by omega) (by omega)).mono ?_
    rintro e w2 ⟨rfl, hb⟩
    obtain ⟨hx, hf⟩ := bcell hb
    go_wp2_with fail
    refine bodyPost_ret (v := .tuple #[.agg #[.int .i64 (mkNum (-(valI D.data.toList)) (valI B.data.toList)), .int .i64 (mkDen (-(valI D.data.toList)) (valI B.data.toList))], .int .i64 (mkErr (-(valI D.data.toList)) (valI B.data.toList))]) (by simp [results, Tryd.results36, go_sem, hx]) rfl ⟨by rw [HN.out.1, HN.out.2.1, HN.out.2.2, HV.out.1, HV.out.2.1, HV.out.2.2], ?_⟩
    exact (((below_drewN ((Below.refl _ _).alloc (Nat.le_refl _) _) _).trans (hb.mono (by simp))).setCell (by simp) _).setCell (by simp) _

theorem read_any (s : ByteArray) (w : World) (hF : Fit w) (hs : s.size < 4294967281) :
    Calls Tryd.prog 36 #[.string s] w (Made (.tuple #[.agg #[.int .i64 (rdNum s.data.toList), .int .i64 (rdDen s.data.toList)], .int .i64 (rdErr s.data.toList)]) w) := by
  cases h : (Lib.cut s.data.toList [47]).2.2
  · exact read_whole s w hF hs h
  · exact read_frac s w hF hs h
end Go.Proofs.YtnbkphklidjmhaaDoor
