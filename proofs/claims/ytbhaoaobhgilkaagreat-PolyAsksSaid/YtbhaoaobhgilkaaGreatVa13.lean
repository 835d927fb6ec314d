/- Contracts of Middle, of package ratio and of the reference.; Ratios as pairs of integers; whole and must of package poly. -/
import Derived.Test.YtbhaoaobhgilkaaGreatVa6
import Derived.Test.YtbhaoaobhgilkaaGreatVa12

namespace Go.Proofs.YtbhaoaobhgilkaaGreat
open Go.RowKit

def midB (n d m c : Int) : Bool := vldB n d && vldB m c && decide (n * c < m * d)

def midX (n d m c : Int) : Int := (smp (d + c).toNat n d m c).1

def midY (n d m c : Int) : Int := (smp (d + c).toNat n d m c).2

theorem mid_args {n d m c : Int} (h : midB n d m c = true) : Args n d m c ∧ d + c ≤ ((d + c).toNat : Int) := by
  unfold midB at h
  simp at h
  obtain ⟨⟨h1, h2⟩, h3⟩ := h
  obtain ⟨x1, x2, x3, x4⟩ := vld_bd h1
  obtain ⟨y1, y2, y3, y4⟩ := vld_bd h2
  exact ⟨⟨x3, x4, y3, y4, x2, y2, x1, by omega, h3⟩, by omega⟩

theorem cmp_as {n d m c k e : Int} (w : World) (hn : I64 n) (hd : I64 d) (hm : I64 m) (hc : I64 c) (h1 : (if (vldB n d && vldB m c) then sgn (n * c) (m * d) else 0) = k) (h2 : (if (vldB n d && vldB m c) then (0 : Int) else 2) = e) :
    Calls Tryz.prog 135 #[.agg #[.int .i64 n, .int .i64 d], .agg #[.int .i64 m, .int .i64 c]] w (Made (.tuple #[.int .i64 k, .int .i64 e]) w) := by
  have h := cmp_any n d m c w hn hd hm hc
  rw [h1, h2] at h
  exact h

set_option maxHeartbeats 400000 in
theorem middle_any (n d m c : Int) (w : World) (hn : I64 n) (hd : I64 d) (hm : I64 m) (hc : I64 c) :
    Calls Tryz.prog 139 #[.agg #[.int .i64 n, .int .i64 d], .agg #[.int .i64 m, .int .i64 c]] w
      (Made (.tuple #[.agg #[.int .i64 (opNum (midB n d m c) (midX n d m c) (midY n d m c)), .int .i64 (opDen (midB n d m c) (midX n d m c) (midY n d m c))], .int .i64 (opErr (midB n d m c) (midX n d m c) (midY n d m c))]) w) := by
  cases hM : midB n d m c
  · have HV := Lib.hid (show ∀ x y : Int, opNum false x y = 0 ∧ opDen false x y = 0 ∧ opErr false x y = 2 by simp [opNum, opDen, opErr])
    cases hV : (vldB n d && vldB m c)
    · have H1 := Lib.hid (show (if (vldB n d && vldB m c) then sgn (n * c) (m * d) else 0) = 0 by simp [hV])
      have H2 := Lib.hid (show (if (vldB n d && vldB m c) then (0 : Int) else 2) = 2 by simp [hV])
      clear hV hM
      go_enter Tryz.func139, Tryz.ntmps139
      go_wp2_with fail
      refine (cmp_as _ hn hd hm hc H1.out H2.out).mono ?_
      rintro e w1 ⟨rfl, hb⟩
      obtain ⟨hx, hf⟩ := bcell hb
      go_wp2_with fail
      refine bodyPost_ret (v := .tuple #[.agg #[.int .i64 0, .int .i64 0], .int .i64 2]) (by simp [results, Tryz.results139, go_sem, hx]) rfl ⟨by rw [(HV.out _ _).1, (HV.out _ _).2.1, (HV.out _ _).2.2], ?_⟩
      exact ((past_three hb).setCell (by simp; omega) _).setCell (by simp; omega) _
    · have h3 : ¬ n * c < m * d := by unfold midB at hM; rw [hV] at hM; simpa using hM
      have H1 : 0 ≤ (if (vldB n d && vldB m c) then sgn (n * c) (m * d) else 0) := by rw [hV]; unfold sgn; simp; split <;> omega
      obtain ⟨k, hk⟩ : ∃ k : Int, (if (vldB n d && vldB m c) then sgn (n * c) (m * d) else 0) = k := ⟨_, rfl⟩
      rw [hk] at H1
      have HK := Lib.hid hk
      have H2 := Lib.hid (show (if (vldB n d && vldB m c) then (0 : Int) else 2) = 0 by simp [hV])
      clear hk hV hM h3
      go_enter Tryz.func139, Tryz.ntmps139
      go_wp2_with fail
      refine (cmp_as _ hn hd hm hc HK.out H2.out).mono ?_
      rintro e w1 ⟨rfl, hb⟩
      obtain ⟨hx, hf⟩ := bcell hb
      go_wp2_with fail
      refine bodyPost_ret (v := .tuple #[.agg #[.int .i64 0, .int .i64 0], .int .i64 2]) (by simp [results, Tryz.results139, go_sem, hx]) rfl ⟨by rw [(HV.out _ _).1, (HV.out _ _).2.1, (HV.out _ _).2.2], ?_⟩
      exact ((past_three hb).setCell (by simp; omega) _).setCell (by simp; omega) _
  · obtain ⟨hA, hK⟩ := mid_args hM
    have hR := smp_rng _ hA hK
    obtain ⟨⟨g1, g2⟩, g3, g4⟩ := hR
    have HV := Lib.hid (show ∀ x y : Int, opNum true x y = mkNum x y ∧ opDen true x y = mkDen x y ∧ opErr true x y = mkErr x y by simp [opNum, opDen, opErr])
    have hV : (vldB n d && vldB m c) = true := by unfold midB at hM; simp at hM; simp [hM]
    have h3 : n * c < m * d := by unfold midB at hM; simp at hM; exact hM.2
    have H1 := Lib.hid (show (if (vldB n d && vldB m c) then sgn (n * c) (m * d) else 0) = -1 by rw [hV]; simp [sgn, h3])
    have H2 := Lib.hid (show (if (vldB n d && vldB m c) then (0 : Int) else 2) = 0 by simp [hV])
    clear hV hM h3
    unfold midX midY
    go_enter Tryz.func139, Tryz.ntmps139
    go_wp2_with fail
    refine (cmp_as _ hn hd hm hc H1.out H2.out).mono ?_
    rintro e w1 ⟨rfl, hb⟩
    obtain ⟨hx, hf⟩ := bcell hb
    go_wp2_with fail
    refine (simplest_any _ _ _ _ _ _ hA hK).mono ?_
    rintro e w2 ⟨rfl, rfl⟩
    generalize (smp (d + c).toNat n d m c).1 = X at *
    generalize (smp (d + c).toNat n d m c).2 = Y at *
    go_wp2_with fail
    refine (make_any _ _ _ (by omega) (by omega) (by omega) (by omega)).mono ?_
    rintro e w3 ⟨rfl, hb3⟩
    replace hb3 := below_on hb hb3
    clear hb hx hf
    obtain ⟨hx, hf⟩ := bcell hb3
    go_wp2_with fail
    refine bodyPost_ret (v := .tuple #[.agg #[.int .i64 (mkNum X Y), .int .i64 (mkDen X Y)], .int .i64 (mkErr X Y)]) (by simp [results, Tryz.results139, go_sem, hx]) rfl ⟨by rw [(HV.out _ _).1, (HV.out _ _).2.1, (HV.out _ _).2.2], ?_⟩
    exact ((past_three hb3).setCell (by simp; omega) _).setCell (by simp; omega) _

theorem refCmp_as {n d m c k e : Int} (w : World) (hn : I64 n) (hd : I64 d) (hm : I64 m) (hc : I64 c) (h1 : (if (vldB n d && vldB m c) then sgn (n * c) (m * d) else 0) = k) (h2 : (if (vldB n d && vldB m c) then (0 : Int) else 2) = e) :
    Calls Tryz.prog 35 #[.agg #[.int .i64 n, .int .i64 d], .agg #[.int .i64 m, .int .i64 c]] w (Made (.tuple #[.int .i64 k, .int .i64 e]) w) := by
  have h := refCmp_any n d m c w hn hd hm hc
  rw [h1, h2] at h
  exact h

set_option maxHeartbeats 400000 in
theorem refMiddle_any (n d m c : Int) (w : World) (hn : I64 n) (hd : I64 d) (hm : I64 m) (hc : I64 c) :
    Calls Tryz.prog 112 #[.agg #[.int .i64 n, .int .i64 d], .agg #[.int .i64 m, .int .i64 c]] w
      (Made (.tuple #[.agg #[.int .i64 (opNum (midB n d m c) (midX n d m c) (midY n d m c)), .int .i64 (opDen (midB n d m c) (midX n d m c) (midY n d m c))], .int .i64 (opErr (midB n d m c) (midX n d m c) (midY n d m c))]) w) := by
  cases hM : midB n d m c
  · have HV := Lib.hid (show ∀ x y : Int, opNum false x y = 0 ∧ opDen false x y = 0 ∧ opErr false x y = 2 by simp [opNum, opDen, opErr])
    cases hV : (vldB n d && vldB m c)
    · have H1 := Lib.hid (show (if (vldB n d && vldB m c) then sgn (n * c) (m * d) else 0) = 0 by simp [hV])
      have H2 := Lib.hid (show (if (vldB n d && vldB m c) then (0 : Int) else 2) = 2 by simp [hV])
      clear hV hM
      go_enter Tryz.func112, Tryz.ntmps112
      go_wp2_with fail
      refine (refCmp_as _ hn hd hm hc H1.out H2.out).mono ?_
      rintro e w1 ⟨rfl, hb⟩
      obtain ⟨hx, hf⟩ := bcell hb
      go_wp2_with fail
      refine bodyPost_ret (v := .tuple #[.agg #[.int .i64 0, .int .i64 0], .int .i64 2]) (by simp [results, Tryz.results112, go_sem, hx]) rfl ⟨by rw [(HV.out _ _).1, (HV.out _ _).2.1, (HV.out _ _).2.2], ?_⟩
      exact ((past_three hb).setCell (by simp; omega) _).setCell (by simp; omega) _
    · have h3 : ¬ n * c < m * d := by unfold midB at hM; rw [hV] at hM; simpa using hM
      have H1 : 0 ≤ (if (vldB n d && vldB m c) then sgn (n * c) (m * d) else 0) := by rw [hV]; unfold sgn; simp; split <;> omega
      obtain ⟨k, hk⟩ : ∃ k : Int, (if (vldB n d && vldB m c) then sgn (n * c) (m * d) else 0) = k := ⟨_, rfl⟩
      rw [hk] at H1
      have HK := Lib.hid hk
      have H2 := Lib.hid (show (if (vldB n d && vldB m c) then (0 : Int) else 2) = 0 by simp [hV])
      clear hk hV hM h3
      go_enter Tryz.func112, Tryz.ntmps112
      go_wp2_with fail
      refine (refCmp_as _ hn hd hm hc HK.out H2.out).mono ?_
      rintro e w1 ⟨rfl, hb⟩
      obtain ⟨hx, hf⟩ := bcell hb
      go_wp2_with fail
      refine bodyPost_ret (v := .tuple #[.agg #[.int .i64 0, .int .i64 0], .int .i64 2]) (by simp [results, Tryz.results112, go_sem, hx]) rfl ⟨by rw [(HV.out _ _).1, (HV.out _ _).2.1, (HV.out _ _).2.2], ?_⟩
      exact ((past_three hb).setCell (by simp; omega) _).setCell (by simp; omega) _
  · obtain ⟨hA, hK⟩ := mid_args hM
    have hR := smp_rng _ hA hK
    obtain ⟨⟨g1, g2⟩, g3, g4⟩ := hR
    have HV := Lib.hid (show ∀ x y : Int, opNum true x y = mkNum x y ∧ opDen true x y = mkDen x y ∧ opErr true x y = mkErr x y by simp [opNum, opDen, opErr])
    have hV : (vldB n d && vldB m c) = true := by unfold midB at hM; simp at hM; simp [hM]
    have h3 : n * c < m * d := by unfold midB at hM; simp at hM; exact hM.2
    have H1 := Lib.hid (show (if (vldB n d && vldB m c) then sgn (n * c) (m * d) else 0) = -1 by rw [hV]; simp [sgn, h3])
    have H2 := Lib.hid (show (if (vldB n d && vldB m c) then (0 : Int) else 2) = 0 by simp [hV])
    clear hV hM h3
    unfold midX midY
    go_enter Tryz.func112, Tryz.ntmps112
    go_wp2_with fail
    refine (refCmp_as _ hn hd hm hc H1.out H2.out).mono ?_
    rintro e w1 ⟨rfl, hb⟩
    obtain ⟨hx, hf⟩ := bcell hb
    go_wp2_with fail
    refine (refSimplest_any _ _ _ _ _ _ hA hK).mono ?_
    rintro e w2 ⟨rfl, rfl⟩
    generalize (smp (d + c).toNat n d m c).1 = X at *
    generalize (smp (d + c).toNat n d m c).2 = Y at *
    go_wp2_with fail
    refine (refMake_any _ _ _ (by omega) (by omega) (by omega) (by omega)).mono ?_
    rintro e w3 ⟨rfl, hb3⟩
    replace hb3 := below_on hb hb3
    clear hb hx hf
    obtain ⟨hx, hf⟩ := bcell hb3
    go_wp2_with fail
    refine bodyPost_ret (v := .tuple #[.agg #[.int .i64 (mkNum X Y), .int .i64 (mkDen X Y)], .int .i64 (mkErr X Y)]) (by simp [results, Tryz.results112, go_sem, hx]) rfl ⟨by rw [(HV.out _ _).1, (HV.out _ _).2.1, (HV.out _ _).2.2], ?_⟩
    exact ((past_three hb3).setCell (by simp; omega) _).setCell (by simp; omega) _
end Go.Proofs.YtbhaoaobhgilkaaGreat

namespace Go.Proofs.YtbhaoaobhgilkaaGreat
open Go.RowKit Go.Sort Go.Shelf

abbrev Pq := Int × Int

def I2 (x : Pq) : Prop := I64 x.1 ∧ I64 x.2

def vR (x : Pq) : Bool := vldB x.1 x.2

def adR (x y : Pq) : Pq := (opNum (vldB x.1 x.2 && vldB y.1 y.2) (x.1 * y.2 + y.1 * x.2) (x.2 * y.2), opDen (vldB x.1 x.2 && vldB y.1 y.2) (x.1 * y.2 + y.1 * x.2) (x.2 * y.2))

def adE (x y : Pq) : Int := opErr (vldB x.1 x.2 && vldB y.1 y.2) (x.1 * y.2 + y.1 * x.2) (x.2 * y.2)

def sbR (x y : Pq) : Pq := (opNum (vldB x.1 x.2 && vldB y.1 y.2) (x.1 * y.2 - y.1 * x.2) (x.2 * y.2), opDen (vldB x.1 x.2 && vldB y.1 y.2) (x.1 * y.2 - y.1 * x.2) (x.2 * y.2))

def sbE (x y : Pq) : Int := opErr (vldB x.1 x.2 && vldB y.1 y.2) (x.1 * y.2 - y.1 * x.2) (x.2 * y.2)

def muR (x y : Pq) : Pq := (opNum (vldB x.1 x.2 && vldB y.1 y.2) (x.1 * y.1) (x.2 * y.2), opDen (vldB x.1 x.2 && vldB y.1 y.2) (x.1 * y.1) (x.2 * y.2))

def muE (x y : Pq) : Int := opErr (vldB x.1 x.2 && vldB y.1 y.2) (x.1 * y.1) (x.2 * y.2)

def dvR (x y : Pq) : Pq := (opNum (vldB x.1 x.2 && vldB y.1 y.2 && !decide (y.1 = 0)) (x.1 * y.2) (x.2 * y.1), opDen (vldB x.1 x.2 && vldB y.1 y.2 && !decide (y.1 = 0)) (x.1 * y.2) (x.2 * y.1))

def dvE (x y : Pq) : Int := opErr (vldB x.1 x.2 && vldB y.1 y.2 && !decide (y.1 = 0)) (x.1 * y.2) (x.2 * y.1)

def mdR (x y : Pq) : Pq := (opNum (midB x.1 x.2 y.1 y.2) (midX x.1 x.2 y.1 y.2) (midY x.1 x.2 y.1 y.2), opDen (midB x.1 x.2 y.1 y.2) (midX x.1 x.2 y.1 y.2) (midY x.1 x.2 y.1 y.2))

def mdE (x y : Pq) : Int := opErr (midB x.1 x.2 y.1 y.2) (midX x.1 x.2 y.1 y.2) (midY x.1 x.2 y.1 y.2)

def cmR (x y : Pq) : Int := if (vldB x.1 x.2 && vldB y.1 y.2) then sgn (x.1 * y.2) (y.1 * x.2) else 0

def cmE (x y : Pq) : Int := if (vldB x.1 x.2 && vldB y.1 y.2) then 0 else 2

/-- What Make and the like return is valid, where there is no error. -/
theorem op_bd (v : Bool) (p q : Int) : (-2147483647 ≤ opNum v p q ∧ opNum v p q ≤ 2147483647) ∧ (0 ≤ opDen v p q ∧ opDen v p q ≤ 2147483647) := by
  unfold opNum opDen
  cases v
  · simp
  · have h1 := mkNum_bd p q
    have h2 := mkDen_bd p q
    simp only [if_true]
    omega

theorem i2_of (v : Bool) (p q : Int) : I2 (opNum v p q, opDen v p q) := by
  have := op_bd v p q
  unfold I2 I64; simp only; omega

theorem adR_64 (x y : Pq) : I2 (adR x y) := i2_of _ _ _

theorem sbR_64 (x y : Pq) : I2 (sbR x y) := i2_of _ _ _

theorem muR_64 (x y : Pq) : I2 (muR x y) := i2_of _ _ _

theorem dvR_64 (x y : Pq) : I2 (dvR x y) := i2_of _ _ _

theorem mdR_64 (x y : Pq) : I2 (mdR x y) := i2_of _ _ _

theorem wh_64 {x : Int} (h : I64 x) : I2 (x, 1) := ⟨h, by unfold I64; simp only; omega⟩

theorem cmR_bd (x y : Pq) : -1 ≤ cmR x y ∧ cmR x y ≤ 1 := by unfold cmR sgn; (repeat' split) <;> omega

section
variable (x y : Pq) (w : World) (hx : I2 x) (hy : I2 y)
include hx hy

theorem addP_any : Calls Tryz.prog 140 #[.agg #[.int .i64 x.1, .int .i64 x.2], .agg #[.int .i64 y.1, .int .i64 y.2]] w (Made (.tuple #[.agg #[.int .i64 (adR x y).1, .int .i64 (adR x y).2], .int .i64 (adE x y)]) w) := add_any _ _ _ _ w hx.1 hx.2 hy.1 hy.2

theorem subP_any : Calls Tryz.prog 141 #[.agg #[.int .i64 x.1, .int .i64 x.2], .agg #[.int .i64 y.1, .int .i64 y.2]] w (Made (.tuple #[.agg #[.int .i64 (sbR x y).1, .int .i64 (sbR x y).2], .int .i64 (sbE x y)]) w) := sub_any _ _ _ _ w hx.1 hx.2 hy.1 hy.2

theorem mulP_any : Calls Tryz.prog 152 #[.agg #[.int .i64 x.1, .int .i64 x.2], .agg #[.int .i64 y.1, .int .i64 y.2]] w (Made (.tuple #[.agg #[.int .i64 (muR x y).1, .int .i64 (muR x y).2], .int .i64 (muE x y)]) w) := mul_any _ _ _ _ w hx.1 hx.2 hy.1 hy.2

theorem divP_any : Calls Tryz.prog 144 #[.agg #[.int .i64 x.1, .int .i64 x.2], .agg #[.int .i64 y.1, .int .i64 y.2]] w (Made (.tuple #[.agg #[.int .i64 (dvR x y).1, .int .i64 (dvR x y).2], .int .i64 (dvE x y)]) w) := div_any _ _ _ _ w hx.1 hx.2 hy.1 hy.2

theorem midP_any : Calls Tryz.prog 139 #[.agg #[.int .i64 x.1, .int .i64 x.2], .agg #[.int .i64 y.1, .int .i64 y.2]] w (Made (.tuple #[.agg #[.int .i64 (mdR x y).1, .int .i64 (mdR x y).2], .int .i64 (mdE x y)]) w) := middle_any _ _ _ _ w hx.1 hx.2 hy.1 hy.2

theorem cmpP_any : Calls Tryz.prog 135 #[.agg #[.int .i64 x.1, .int .i64 x.2], .agg #[.int .i64 y.1, .int .i64 y.2]] w (Made (.tuple #[.int .i64 (cmR x y), .int .i64 (cmE x y)]) w) := cmp_any _ _ _ _ w hx.1 hx.2 hy.1 hy.2
end

theorem whole_any (x : Int) (w : World) : Calls Tryz.prog 137 #[.int .i64 x] w (Made (.agg #[.int .i64 x, .int .i64 1]) w) := by
  go_enter Tryz.func137, Tryz.ntmps137
  go_wp2_with fail
  refine bodyPost_ret (v := .agg #[.int .i64 x, .int .i64 1]) (by simp [results, Tryz.results137, go_sem]) rfl ⟨rfl, ?_⟩
  exact one_more _

set_option maxRecDepth 20000 in
theorem mustR_ok (x : Pq) (er : Int) (w : World) (he : er = 0) : Calls Tryz.prog 138 #[.agg #[.int .i64 x.1, .int .i64 x.2], .int .i64 er] w (Made (.agg #[.int .i64 x.1, .int .i64 x.2]) w) := by
  subst he
  go_enter Tryz.func138, Tryz.ntmps138
  go_wp2_with fail
  refine bodyPost_ret (v := .agg #[.int .i64 x.1, .int .i64 x.2]) (by simp [results, Tryz.results138, go_sem]) rfl ⟨rfl, ?_⟩
  exact past_two (Below.refl _ _)

theorem mustR_no (x : Pq) (er : Int) (w : World) (he : er ≠ 0) : Calls Tryz.prog 138 #[.agg #[.int .i64 x.1, .int .i64 x.2], .int .i64 er] w (fun e w' => e = .panicked (pan er) ∧ Below w.heap.size w w') := by
  have h0 : (er != 0) = true := by simpa using he
  clear he
  go_enter Tryz.func138, Tryz.ntmps138
  go_wp2_with fail
  exact And.intro rfl ⟨rfl, (one_more _).trans ((one_more _).mono (by simp))⟩

theorem mustR_any (x : Pq) (er : Int) (w : World) : Calls Tryz.prog 138 #[.agg #[.int .i64 x.1, .int .i64 x.2], .int .i64 er] w (fun e w' => Below w.heap.size w w' ∧ ((er = 0 ∧ e = .returned (.agg #[.int .i64 x.1, .int .i64 x.2])) ∨ (er ≠ 0 ∧ e = .panicked (pan er)))) := by
  by_cases h : er = 0
  · refine (mustR_ok x er w h).mono ?_
    rintro e w' ⟨rfl, hb⟩
    exact ⟨hb, Or.inl ⟨h, rfl⟩⟩
  · refine (mustR_no x er w h).mono ?_
    rintro e w' ⟨rfl, hb⟩
    exact ⟨hb, Or.inr ⟨h, rfl⟩⟩

theorem mustI_ok (x : Int) (er : Int) (w : World) (he : er = 0) : Calls Tryz.prog 134 #[.int .i64 x, .int .i64 er] w (Made (.int .i64 x) w) := by
  subst he
  go_enter Tryz.func134, Tryz.ntmps134
  go_wp2_with fail
  go_ret
  exact ⟨rfl, Below.refl _ _⟩

theorem mustI_no (x : Int) (er : Int) (w : World) (he : er ≠ 0) : Calls Tryz.prog 134 #[.int .i64 x, .int .i64 er] w (fun e w' => e = .panicked (pan er) ∧ Below w.heap.size w w') := by
  have h0 : (er != 0) = true := by simpa using he
  clear he
  go_enter Tryz.func134, Tryz.ntmps134
  go_wp2_with fail
  exact And.intro rfl ⟨rfl, Below.refl _ _⟩

theorem mustI_any (x : Int) (er : Int) (w : World) : Calls Tryz.prog 134 #[.int .i64 x, .int .i64 er] w (fun e w' => Below w.heap.size w w' ∧ ((er = 0 ∧ e = .returned (.int .i64 x)) ∨ (er ≠ 0 ∧ e = .panicked (pan er)))) := by
  by_cases h : er = 0
  · refine (mustI_ok x er w h).mono ?_
    rintro e w' ⟨rfl, hb⟩
    exact ⟨hb, Or.inl ⟨h, rfl⟩⟩
  · refine (mustI_no x er w h).mono ?_
    rintro e w' ⟨rfl, hb⟩
    exact ⟨hb, Or.inr ⟨h, rfl⟩⟩

/-- A ratio that lies at an address: it is loaded. -/
def QAt (w : World) (p : Addr) (x : Pq) : Prop := w.cell? (p.add 0) = some (.int .i64 x.1) ∧ w.cell? (p.add 1) = some (.int .i64 x.2)

theorem QAt.on {w w' : World} {p : Addr} {x : Pq} (h : QAt w p x) (hb : Below w.heap.size w w') : QAt w' p x := ⟨kept hb h.1, kept hb h.2⟩

theorem Pair.qAt {w : World} {b : Nat} {x : Pq} (h : Pair w b x.1 x.2) : QAt w ⟨b, 0, none⟩ x := ⟨by rw [addr_add]; exact h.1.1, by rw [addr_add]; exact h.2.1⟩

theorem rat_info : (Tryz.prog.info? 50).map (fun i => (i.zero, i.size, i.bytes)) = some (some (.agg #[.int .i64 0, .int .i64 0]), 2, 16) := by kernel_rfl

theorem rat_size : (Tryz.prog.info? 50).map (·.size) = some 2 := by kernel_rfl

/-- Ratios one behind the other that can be read. -/
def gp (ps : List Pq) (k : Nat) : Pq := ps.getD k (0, 0)

def Rd2 (w : World) (ao : Option Addr) (ps : List Pq) : Prop := ∀ t, t < ps.length → ∃ a, ao = some a ∧ QAt w (a.add (t * 2)) (gp ps t)

theorem Rd2.on {w w' : World} {ao : Option Addr} {ps : List Pq} (h : Rd2 w ao ps) (hb : Below w.heap.size w w') : Rd2 w' ao ps := fun t ht => by
  obtain ⟨a, e, c⟩ := h t ht
  exact ⟨a, e, c.on hb⟩

/-- These cells lie at an address. -/
def CsAt (w : World) (p : Addr) (cs : List Value) : Prop := ∀ j v, cs[j]? = some v → w.cell? (p.add j) = some v

theorem cs_loadP {t : TypeId} {cs : List Value} (ha : ∀ w, (isAgg t).run Tryz.prog w = .ok true w) (hz : (Tryz.prog.info? t).map (·.size) = some cs.length) {w : World} {p : Addr} (h : CsAt w p cs) : (loadVar t p).run Tryz.prog w = .ok (.agg ⟨cs⟩) w := by
  have hc := run_loadCells_list (P := Tryz.prog) w p cs h
  unfold loadVar
  rw [Sem.run_bind, ha, Result.andThen_ok, if_pos rfl, Sem.run_bind, size_of hz, Result.andThen_ok, Sem.run_bind, hc]
  rfl

theorem yld_loadC {t : TypeId} {cs : List Value} (ha : ∀ w, (isAgg t).run Tryz.prog w = .ok true w) (hz : (Tryz.prog.info? t).map (·.size) = some cs.length) {w : World} {o : Oper} {a : Act} (s : Operand) (ho : o.op = .load t s) (p : Addr) (hs : a.eval s = .pointer (some p)) (hx : CsAt w p cs) : (execOp a.eval o).run Tryz.prog w = .ok (.value (.agg ⟨cs⟩)) w := by
  have h : (Instr.loadAt t (.pointer (some p))).run Tryz.prog w = .ok (.agg ⟨cs⟩) w := by
    simp only [Instr.loadAt, Instr.sureAddr, Sem.run_bind, Sem.run_pure, Result.andThen_ok, cs_loadP ha hz hx]
  unfold execOp
  simp only [ho, hs, Sem.run_bind, Sem.run_pure, h, Result.andThen_ok]

theorem q_isAgg (w : World) : (isAgg 50).run Tryz.prog w = .ok true w := by
  unfold isAgg; rw [Sem.run_bind, run_underlying Tryz.underlying50 w]; simp

theorem QAt.cs {w : World} {p : Addr} {x : Pq} (h : QAt w p x) : CsAt w p [.int .i64 x.1, .int .i64 x.2] := fun j v hv => by
  match j, hv with
  | 0, hv => simp at hv; subst hv; exact h.1
  | 1, hv => simp at hv; subst hv; exact h.2

theorem yld_loadQ {w : World} {o : Oper} {a : Act} (s : Operand) (ho : o.op = .load 50 s) (p : Addr) (hs : a.eval s = .pointer (some p)) {x : Pq} (hx : QAt w p x) : (execOp a.eval o).run Tryz.prog w = .ok (.value (.agg #[.int .i64 x.1, .int .i64 x.2])) w :=
  yld_loadC (cs := [.int .i64 x.1, .int .i64 x.2]) q_isAgg rat_size s ho p hs hx.cs

theorem wp_loadQ {w : World} {o : Oper} {a : Act} {K : Act → World → Prop} {Q : Exit → Act → World → Prop} (s : Operand) (ho : o.op = .load 50 s) (p : Addr) (hs : a.eval s = .pointer (some p)) (x : Pq) (hx : QAt w p x)
    (h : K (a.put o.dst (.agg #[.int .i64 x.1, .int .i64 x.2])) w) : o.wp Tryz.prog a w K Q := by
  have hv := cs_loadP (cs := [.int .i64 x.1, .int .i64 x.2]) q_isAgg rat_size hx.cs
  unfold Oper.wp execOp
  simp only [ho, hs, Instr.loadAt, Instr.sureAddr, Sem.run_bind, Sem.run_pure, Result.andThen_ok, hv]
  exact h

theorem wpl_loadQ {w : World} {ops : Array Oper} {rest : List Oper} {o : Oper} {a : Act} {Q : Exit → Act → World → Prop} (hgd : o.guard = none) (s : Operand) (ho : o.op = .load 50 s) (p : Addr) (hs : a.eval s = .pointer (some p)) (x : Pq) (hx : QAt w p x)
    (h : wpList Tryz.prog ops Q rest (a.put o.dst (.agg #[.int .i64 x.1, .int .i64 x.2])) w) : wpList Tryz.prog ops Q (o :: rest) a w :=
  wpList_plain hgd fun _ hK => wp_loadQ s ho p hs x hx (hK _ _ h)
end Go.Proofs.YtbhaoaobhgilkaaGreat
