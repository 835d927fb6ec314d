/- A part. -/
import Derived.Test.YtaegiihkgicdnaaGreatWl10
import Derived.Test.YtaegiihkgicdnaaGreatWl17
import Derived.Test.YtaegiihkgicdnaaGreatWl18

namespace Go.Proofs.YtaegiihkgicdnaaGreat.Zo

theorem le_dec {a b : Int} (ha : a ≤ 1099511627776) (hb : b ≤ 1099511627776) : le (dec a) (dec b) ↔ a ≤ b := by
  unfold dec
  by_cases h1 : a = 1099511627776
  · by_cases h2 : b = 1099511627776
    · simp [h1, h2, le]
    · rw [if_pos h1, if_neg h2]; simp [le]; omega
  · by_cases h2 : b = 1099511627776
    · rw [if_neg h1, if_pos h2]; simp [le]; omega
    · rw [if_neg h1, if_neg h2]; simp [le]

structure Cl (n : Nat) (c : List Int) (D : Nat → Nat → Lm) : Prop where
  rep : Rep n c D
  tri : Tri (n + 1) D
  bd : Bd D
  dg : ∀ k, k ≤ n → D k k = some 1
  row : ∀ a, a ≤ n → At n c 0 a ≤ 1

theorem Cl.top {n : Nat} {c : List Int} {D : Nat → Nat → Lm} (h : Cl n c D) {a b : Nat} (ha : a ≤ n) (hb : b ≤ n) : At n c a b ≤ 1099511627776 := by
  rw [h.rep.2 a b ha hb]
  cases e : D a b with
  | none => simp [enc]
  | some x => have := h.bd a b x e; simp [enc]; omega

theorem Cl.dec {n : Nat} {c : List Int} {D : Nat → Nat → Lm} (h : Cl n c D) {a b : Nat} (ha : a ≤ n) (hb : b ≤ n) : D a b = dec (At n c a b) := by
  rw [h.rep.2 a b ha hb]
  cases e : D a b with
  | none => simp [enc, Zo.dec]
  | some x =>
    have := h.bd a b x e
    show some x = Zo.dec x
    unfold Zo.dec
    rw [if_neg (by omega)]

theorem Cl.one {n : Nat} {c : List Int} {D : Nat → Nat → Lm} (h : Cl n c D) {a : Nat} (ha : a ≤ n) : At n c a a = 1 := by
  rw [h.rep.2 a a ha ha, h.dg a ha]; rfl

theorem clo_lows {n : Nat} {l : List Int} (hl : l.length = (n + 1) * (n + 1)) : ∀ a, a ≤ n → At n (clo n l) a a ≤ 1 ∧ At n (clo n l) 0 a ≤ 1 := by
  intro a ha
  have h := pre_low hl a ha
  have b1 := clo_below hl (k := 0) (i := 0) (by omega) (by omega) ha ha
  have b2 := clo_below hl (k := 0) (i := 0) (by omega) (by omega) (show 0 ≤ n by omega) ha
  have e : (List.range 0).foldl (rlxJ n 0) (rnd n l 0) = pre n l := rfl
  rw [e] at b1 b2
  exact ⟨Int.le_trans b1 h.1, Int.le_trans b2 h.2⟩

theorem Cl.of {n : Nat} {l : List Int} (hn : n ≤ 10) (hl : l.length = (n + 1) * (n + 1)) (hv : ∀ a b, a ≤ n → b ≤ n → Wl (At n l a b)) (hd : ∀ i, i ≤ n → 1 ≤ At n (clo n l) i i) : Cl n (clo n l) (fw (mat n l) (n + 1)) := by
  obtain ⟨h1, h2, h3, h4⟩ := fw_bd hn hl hv hd
  exact ⟨h1, h2, h3, h4, fun a ha => (clo_lows hl a ha).2⟩

theorem clo_over {n : Nat} {l c : List Int} {C : Nat → Nat → Lm} (hn : n ≤ 10) (hl : l.length = (n + 1) * (n + 1)) (hv : ∀ a b, a ≤ n → b ≤ n → Wl (At n l a b)) (hC : Cl n c C) (h : ∀ a b, a ≤ n → b ≤ n → At n c a b ≤ At n l a b) :
    (∀ i, i ≤ n → 1 ≤ At n (clo n l) i i) ∧ ∀ a b, a ≤ n → b ≤ n → At n c a b ≤ At n (clo n l) a b := by
  have pv := pre_wl hl hv
  have hp : ∀ a b, a ≤ n → b ≤ n → At n c a b ≤ At n (pre n l) a b := by
    intro a b ha hb
    rw [pre_at hl ha hb]
    have := h a b ha hb
    by_cases e : a = 0 ∨ a = b
    · rw [if_pos e]
      have h1 : At n c a b ≤ 1 := by
        rcases e with rfl | rfl
        · exact hC.row b hb
        · rw [hC.one ha]; omega
      omega
    · rw [if_neg e]; exact this
  have hle : ∀ a b, le (C a b) (mat n l a b) := by
    intro a b
    unfold mat
    by_cases e : a ≤ n ∧ b ≤ n
    · rw [if_pos e, hC.dec e.1 e.2, le_dec (hC.top e.1 e.2) (by have := pv a b e.1 e.2; unfold Wl at this; omega)]
      exact hp a b e.1 e.2
    · rw [if_neg e]; exact le_none _
  have below := below_fw hC.tri hle
  have hm : ∀ i j x, mat n l i j = some x → x ≤ 4294967297 ∧ -4294967297 + 1 ≤ x := by
    intro i j x h
    unfold mat at h
    split at h
    · rename_i c
      have := pv i j c.1 c.2
      unfold Zo.dec at h
      unfold Wl at this
      split at h
      · simp at h
      · simp at h; omega
    · simp at h
  have dg : ∀ t, t ≤ n + 1 → ∀ k, k ≤ n → fw (mat n l) t k k = some 1 := by
    intro t ht k hk
    have h1 := below t ht k k
    rw [hC.dg k hk] at h1
    have h2 := fw_le_m (mat n l) t k k
    have h3 : le (mat n l k k) (some 1) := by
      unfold mat
      rw [if_pos ⟨hk, hk⟩, show (some (1 : Int) : Lm) = Zo.dec 1 from rfl, le_dec (by have := pv k k hk hk; unfold Wl at this; omega) (by omega)]
      exact (pre_low hl k hk).1
    exact le_antisymm (le_trans h2 h3) h1
  have rep : ∀ t, t ≤ n + 1 → Rep n (rnd n l t) (fw (mat n l) t) := by
    intro t
    induction t with
    | zero =>
      intro _
      refine ⟨rnd_length hl 0 (by omega), fun a b ha hb => ?_⟩
      show At n (pre n l) a b = enc (mat n l a b)
      unfold mat
      rw [if_pos ⟨ha, hb⟩, enc_dec]
    | succ t ih =>
      intro ht
      have hr := ih (by omega)
      have hdg : ∀ k, k < t → fw (mat n l) k k k = some 1 := fun k hk => dg k (by omega) k (by omega)
      have hB : Bd (fw (mat n l) t) := by
        intro i j x h
        constructor
        · have := fw_low (c := 4294967297) (by omega) (fun i j x h => (hm i j x h).2) t i j x h
          have p : (2 : Int) ^ t ≤ 2 ^ 11 := by
            have : (2 : Nat) ^ t ≤ 2 ^ 11 := Nat.pow_le_pow_right (by omega) (by omega)
            exact_mod_cast this
          omega
        · obtain ⟨S, _, hx⟩ := fw_bound (U := 4294967297) (fun i j x h => (hm i j x h).1) t hdg i j x h
          have := cnt_le S t
          omega
      rw [rnd_succ]
      exact round_rep hB (dg t (by omega) t (by omega)) (by omega) hr
  have hr := rep (n + 1) (Nat.le_refl _)
  have hd : ∀ i, i ≤ n → 1 ≤ At n (clo n l) i i := by
    intro i hi
    rw [show clo n l = rnd n l (n + 1) from rfl, hr.2 i i hi hi, dg (n + 1) (Nat.le_refl _) i hi]
    simp [enc]
  refine ⟨hd, fun a b ha hb => ?_⟩
  have hc2 := Cl.of hn hl hv hd
  have h1 := below (n + 1) (Nat.le_refl _) a b
  rw [hC.dec ha hb, hc2.dec ha hb, le_dec (hC.top ha hb) (hc2.top ha hb)] at h1
  exact h1

def Le (n : Nat) (c l : List Int) : Prop := ∀ a b, a ≤ n → b ≤ n → At n c a b ≤ At n l a b

theorem le_clo {n : Nat} {l : List Int} (hl : l.length = (n + 1) * (n + 1)) : Le n (clo n l) l := by
  intro a b ha hb
  have b1 := clo_below hl (k := 0) (i := 0) (by omega) (by omega) ha hb
  have e : (List.range 0).foldl (rlxJ n 0) (rnd n l 0) = pre n l := rfl
  rw [e, pre_at hl ha hb] at b1
  split at b1 <;> omega

end Go.Proofs.YtaegiihkgicdnaaGreat.Zo

namespace Go.Proofs.YtaegiihkgicdnaaGreat
open Go.RowKit

theorem wl_of {n : Nat} {l : List Int} (hl : l.length = (n + 1) * (n + 1)) (hv : rdL l = true) : ∀ a b, a ≤ n → b ≤ n → Zo.Wl (Zo.At n l a b) := fun a b ha hb => (vl_of hl hv a b ha hb).wl

theorem cloB_iff {n : Nat} {l : List Int} : cloB n l = false ↔ ∀ i, i ≤ n → 1 ≤ Zo.At n (Zo.clo n l) i i :=
  ⟨diag_of, fun h => cloB_no fun i hi => by have := h i (by omega); omega⟩

theorem cloE_zero {n : Nat} {l : List Int} : cloE n l = 0 ↔ cloB n l = false ∧ rdL (Zo.clo n l) = true := by
  unfold cloE rdL
  cases cloB n l <;> cases (Zo.clo n l).all lvB <;> simp

theorem clo_chk {n : Nat} {l : List Int} (hn : n ≤ 10) (hl : l.length = (n + 1) * (n + 1)) (hv : ∀ a b, a ≤ n → b ≤ n → Zo.Wl (Zo.At n l a b)) (h : cloE n l = 0) : chkE n (Zo.clo n l) = 0 := by
  obtain ⟨hB, hr⟩ := cloE_zero.1 h
  have hd := diag_of hB
  have lo := Zo.clo_lows hl
  have hcl : (Zo.clo n l).length = (n + 1) * (n + 1) := by rw [Zo.clo_length, hl]
  have tr := Zo.clo_sums hn hl hv hd
  refine chkE_ok hn hcl (fun i hi j hj => ?_) (fun i hi j hj k hk => ?_)
  · unfold okI
    rw [lv_of_all hcl hr i j (by omega) (by omega)]
    simp only [Bool.true_and, Bool.and_eq_true, Bool.or_eq_true, decide_eq_true_eq]
    constructor
    · by_cases c : i = j
      · right
        subst c
        have := hd i (by omega)
        have := (lo i (by omega)).1
        omega
      · exact Or.inl c
    · by_cases c : i = 0
      · right
        subst c
        exact (lo j (by omega)).2
      · exact Or.inl c
  · unfold okT
    simpa using tr i j k (by omega) (by omega) (by omega)

theorem chk_tri {n : Nat} {l : List Int} (h : chkE n l = 0) : ∀ i j k, i ≤ n → j ≤ n → k ≤ n → Zo.At n l i j ≤ Zo.smW (Zo.At n l i k) (Zo.At n l k j) := by
  have hc : chkB n l = true := by
    unfold chkE at h
    cases e : chkB n l
    · rw [e] at h; simp at h
    · rfl
  unfold chkB at hc
  simp only [Bool.and_eq_true, Int.toNat_natCast] at hc
  have h2 := chk2_iff.1 hc.2
  intro i j k hi hj hk
  have := h2 i (by omega) j (by omega) k (by omega)
  unfold okT at this
  simpa using this

theorem chk_cl {n : Nat} {l : List Int} (hn : n ≤ 10) (hl : l.length = (n + 1) * (n + 1)) (h : chkE n l = 0) : ∃ D, Zo.Cl n l D := by
  have hv := (chk_64 h).2
  obtain ⟨hB, e⟩ := (chk_iff hn hl hv).1 h
  have := Zo.Cl.of hn hl (wl_of hl hv) (diag_of hB)
  rw [e] at this
  exact ⟨_, this⟩

def mk (n : Nat) (G : Nat → Nat → Int) : List Int := (List.range ((n + 1) * (n + 1))).map fun k => G (k / (n + 1)) (k % (n + 1))

theorem smW_no (a : Int) : Zo.smW a 1099511627776 = 1099511627776 := by unfold Zo.smW; rw [if_pos (Or.inr rfl)]

theorem no_smW (a : Int) : Zo.smW 1099511627776 a = 1099511627776 := by unfold Zo.smW; rw [if_pos (Or.inl rfl)]

end Go.Proofs.YtaegiihkgicdnaaGreat

namespace Go.Proofs.YtaegiihkgicdnaaGreat
open Go.RowKit

theorem smW_fin {a b : Int} (ha : -2147483648 ≤ a ∧ a ≤ 2147483649) (hb : -2147483648 ≤ b ∧ b ≤ 2147483649) : Zo.smW a b = if a % 2 = 0 ∧ b % 2 = 0 then a + b else a + b - 1 := by
  unfold Zo.smW Zo.w64
  rw [if_neg (by omega)]
  split <;> omega

theorem lv_two {a : Int} (h : lvB a = true) : a = 1099511627776 ∨ (-2147483648 ≤ a ∧ a ≤ 2147483649) := by unfold lvB at h; simpa using h

theorem su_eq {x y z : Int} (hx : lvB x = true) (hy : lvB y = true) (hz : lvB z = true) : suB x y z = decide (z = Zo.smW x y) := by
  rw [Bool.eq_iff_iff]
  unfold suB adE adL
  rw [hx, hy]
  simp only [Bool.and_true, if_true, Bool.and_eq_true, decide_eq_true_eq]
  have hz2 := lv_two hz
  rcases lv_two hx with rfl | fx
  · have n1 : noB 1099511627776 = true := rfl
    rw [n1, no_smW]; simp; omega
  rcases lv_two hy with rfl | fy
  · have n1 : noB 1099511627776 = true := rfl
    rw [n1, smW_no]; simp; omega
  have nx : noB x = false := by unfold noB; simp; omega
  have ny : noB y = false := by unfold noB; simp; omega
  rw [nx, ny, smW_fin fx fy]
  simp only [Bool.or_self, Bool.false_eq_true, if_false]
  unfold jnE jnL evB
  constructor
  · intro ⟨h1, h2⟩
    split at h1
    · rename_i c
      rw [if_pos c] at h2
      split at h2
      · rename_i d
        simp at d
        split <;> omega
      · rename_i d
        simp at d
        split <;> omega
    · omega
  · intro h
    have c : -1073741824 ≤ x / 2 + y / 2 ∧ x / 2 + y / 2 ≤ 1073741824 := by
      split at h <;> omega
    rw [if_pos c, if_pos c]
    refine ⟨rfl, ?_⟩
    split at h
    · rename_i d
      rw [if_pos (by simp; omega)]; omega
    · rename_i d
      split
      · rename_i e
        simp at e; omega
      · rename_i e
        simp at e; omega

structure Vz (n : Nat) (l : List Int) : Prop where
  hn : n ≤ 10
  hl : l.length = (n + 1) * (n + 1)
  hc : chkE n l = 0

theorem Vz.lv {n : Nat} {l : List Int} (h : Vz n l) {i j : Nat} (hi : i ≤ n) (hj : j ≤ n) : lvB (Zo.At n l i j) = true ∧ (i = j → Zo.At n l i j = 1) ∧ (i = 0 → Zo.At n l i j ≤ 1) := by
  have hc : chkB n l = true := by
    have := h.hc
    unfold chkE at this
    cases e : chkB n l
    · rw [e] at this; simp at this
    · rfl
  unfold chkB at hc
  simp only [Bool.and_eq_true, Int.toNat_natCast] at hc
  have := chk1_iff.1 hc.1.2 i (by omega) j (by omega)
  unfold okI at this
  simp only [Bool.and_eq_true, Bool.or_eq_true, decide_eq_true_eq] at this
  obtain ⟨⟨h1, h2⟩, h3⟩ := this
  exact ⟨h1, fun e => by rcases h2 with c | c <;> simp_all, fun e => by rcases h3 with c | c <;> simp_all⟩

theorem Vz.tri {n : Nat} {l : List Int} (h : Vz n l) {i j k : Nat} (hi : i ≤ n) (hj : j ≤ n) (hk : k ≤ n) : Zo.At n l i j ≤ Zo.smW (Zo.At n l i k) (Zo.At n l k j) := chk_tri h.hc i j k hi hj hk

theorem bd_fin {n : Nat} {l : List Int} (h : Vz n l) {i j : Nat} (hi : i ≤ n) (hj : j ≤ n) (hb : bdB n l i j = true) :
    (-2147483648 ≤ Zo.At n l i j ∧ Zo.At n l i j ≤ 2147483649) ∧ (-2147483648 ≤ Zo.At n l j i ∧ Zo.At n l j i ≤ 2147483649) ∧ Zo.At n l i j + Zo.At n l j i = 2 ∧ Zo.At n l i j % 2 = 1 := by
  unfold bdB at hb
  simp only [decide_eq_true_eq] at hb
  have a := lv_two (h.lv hi hj).1
  have b := lv_two (h.lv hj hi).1
  generalize Zo.At n l i j = x at *
  generalize Zo.At n l j i = y at *
  rcases a with rfl | fa
  · rw [no_smW] at hb; omega
  rcases b with rfl | fb
  · rw [smW_no] at hb; omega
  rw [smW_fin fa fb] at hb
  split at hb <;> omega

theorem bd_of {n : Nat} {l : List Int} {i j : Nat} (ha : -2147483648 ≤ Zo.At n l i j ∧ Zo.At n l i j ≤ 2147483649) (hb : -2147483648 ≤ Zo.At n l j i ∧ Zo.At n l j i ≤ 2147483649) (h : Zo.At n l i j + Zo.At n l j i = 2) (ho : Zo.At n l i j % 2 = 1) : bdB n l i j = true := by
  unfold bdB
  rw [smW_fin ha hb, if_neg (by omega)]
  simp; omega

theorem bd_self {n : Nat} {l : List Int} (h : Vz n l) {i : Nat} (hi : i ≤ n) : bdB n l i i = true := by
  have := (h.lv hi hi).2.1 rfl
  exact bd_of (by omega) (by omega) (by omega) (by omega)

theorem bd_symm {n : Nat} {l : List Int} (h : Vz n l) {i j : Nat} (hi : i ≤ n) (hj : j ≤ n) (hb : bdB n l i j = true) : bdB n l j i = true := by
  obtain ⟨h1, h2, h3, h4⟩ := bd_fin h hi hj hb
  exact bd_of h2 h1 (by omega) (by omega)

theorem bd_trans {n : Nat} {l : List Int} (h : Vz n l) {i j k : Nat} (hi : i ≤ n) (hj : j ≤ n) (hk : k ≤ n) (h1 : bdB n l i j = true) (h2 : bdB n l j k = true) : bdB n l i k = true := by
  obtain ⟨a1, a2, a3, a4⟩ := bd_fin h hi hj h1
  obtain ⟨b1, b2, b3, b4⟩ := bd_fin h hj hk h2
  have e := h.tri hi hk hj
  have f := h.tri hk hi hj
  have g := h.tri hi hi hk
  rw [(h.lv hi hi).2.1 rfl] at g
  have le := lv_two (h.lv hi hk).1
  have lf := lv_two (h.lv hk hi).1
  rw [smW_fin a1 b1] at e
  rw [smW_fin b2 a2] at f
  rw [if_neg (by omega)] at e f
  generalize Zo.At n l i j = a at *
  generalize Zo.At n l j i = b at *
  generalize Zo.At n l j k = c at *
  generalize Zo.At n l k j = d at *
  have fe : -2147483648 ≤ Zo.At n l i k ∧ Zo.At n l i k ≤ 2147483649 := by
    rcases le with q | q
    · omega
    · exact q
  have ff : -2147483648 ≤ Zo.At n l k i ∧ Zo.At n l k i ≤ 2147483649 := by
    rcases lf with q | q
    · omega
    · exact q
  rw [smW_fin fe ff] at g
  split at g
  · exfalso; omega
  · exact bd_of fe ff (by omega) (by omega)

theorem bd_comm {n : Nat} {l : List Int} (h : Vz n l) {i j : Nat} (hi : i ≤ n) (hj : j ≤ n) : bdB n l i j = bdB n l j i := by
  rw [Bool.eq_iff_iff]; exact ⟨bd_symm h hi hj, bd_symm h hj hi⟩

def clsF (n : Nat) (l : List Int) (i : Nat) : Nat := ((List.range i).find? fun c => bdB n l i c).getD i

theorem cls_of {n i t : Nat} {l : List Int} (h1 : t ≤ i) (h2 : t < i → bdB n l i t = true) (h3 : ∀ k, k < t → bdB n l i k = false) : clsF n l i = t := by
  unfold clsF
  by_cases c : t < i
  · have : (List.range i).find? (fun c => bdB n l i c) = some t := by
      rw [List.find?_range_eq_some]
      exact ⟨h2 c, by simpa using c, fun j hj => by simp [h3 j hj]⟩
    rw [this]; rfl
  · have : (List.range i).find? (fun c => bdB n l i c) = none := by
      rw [List.find?_range_eq_none]
      intro j hj
      simp [h3 j (by omega)]
    rw [this]; show i = t; omega

theorem cls_is {n i : Nat} {l : List Int} (h : Vz n l) (hi : i ≤ n) : clsF n l i ≤ i ∧ bdB n l i (clsF n l i) = true ∧ ∀ k, k < clsF n l i → bdB n l i k = false := by
  have key : ∀ m, m ≤ i → (∀ k, k < m → bdB n l i k = false) ∨ ∃ t, t < m ∧ bdB n l i t = true ∧ ∀ k, k < t → bdB n l i k = false := by
    intro m
    induction m with
    | zero => intro _; exact Or.inl fun k hk => by omega
    | succ m ih =>
      intro hm
      rcases ih (by omega) with c | ⟨t, ht, h1, h2⟩
      · cases e : bdB n l i m
        · exact Or.inl fun k hk => by
            by_cases g : k = m
            · rw [g]; exact e
            · exact c k (by omega)
        · exact Or.inr ⟨m, by omega, e, c⟩
      · exact Or.inr ⟨t, by omega, h1, h2⟩
  rcases key i (Nat.le_refl _) with c | ⟨t, ht, h1, h2⟩
  · rw [cls_of (Nat.le_refl i) (fun q => by omega) c]
    exact ⟨Nat.le_refl _, bd_self h hi, c⟩
  · rw [cls_of (by omega) (fun _ => h1) h2]
    exact ⟨by omega, h1, h2⟩

theorem cls_eq {n i j : Nat} {l : List Int} (h : Vz n l) (hi : i ≤ n) (hj : j ≤ n) : clsF n l i = clsF n l j ↔ bdB n l i j = true := by
  obtain ⟨i1, i2, i3⟩ := cls_is h hi
  obtain ⟨j1, j2, j3⟩ := cls_is h hj
  constructor
  · intro e
    rw [← e] at j2
    exact bd_trans h hi (by omega) hj i2 (bd_symm h hj (by omega) j2)
  · intro e
    have h1 : bdB n l j (clsF n l i) = true := bd_trans h hj hi (by omega) (bd_symm h hi hj e) i2
    have h2 : bdB n l i (clsF n l j) = true := bd_trans h hi hj (by omega) e j2
    by_cases c : clsF n l i < clsF n l j
    · rw [j3 _ c] at h1; cases h1
    · by_cases d : clsF n l j < clsF n l i
      · rw [i3 _ d] at h2; cases h2
      · omega

theorem cls_first {n i : Nat} {l : List Int} (h : Vz n l) (hi : i ≤ n) : clsF n l i = i ↔ fiB n l i = true := by
  obtain ⟨i1, i2, i3⟩ := cls_is h hi
  rw [fiB_iff]
  constructor
  · intro e k hk
    rw [bd_comm h (by omega) hi]
    exact i3 k (by omega)
  · intro e
    by_cases c : clsF n l i < i
    · have := e _ c
      rw [bd_comm h (by omega) hi, i2] at this; cases this
    · omega

theorem nx_eq {n i j : Nat} {l : List Int} (h : Vz n l) (hi : i ≤ n) (hj : j ≤ n) (hij : i ≠ j) (hb : bdB n l i j = true) : decide (j = nxN n (clsF n l) i) = nxB n l i j := by
  have key : ∀ k, k ≤ n → (clsF n l k = clsF n l i ↔ bdB n l k i = true) := fun k hk => cls_eq h hk hi
  rw [Bool.eq_iff_iff, decide_eq_true_eq]
  constructor
  · intro e
    refine nxB_yes fun k hk => ?_
    cases hbt : btB i j k
    · simp
    · simp only [Bool.not_true, Bool.or_false]
      cases hsk : skB n l i j k
      · exfalso
        unfold skB at hsk
        simp only [Bool.or_eq_false_iff, decide_eq_false_iff_not, Bool.not_eq_false'] at hsk
        obtain ⟨⟨s1, s2⟩, s3⟩ := hsk
        have s4 := (key k (by omega)).2 s3
        unfold btB at hbt
        simp only [Bool.or_eq_true, Bool.and_eq_true, decide_eq_true_eq] at hbt
        rcases (show (∃ t, i < t ∧ t ≤ n ∧ clsF n l t = clsF n l i ∧ (∀ k, i < k → k < t → clsF n l k ≠ clsF n l i)) ∨ (∀ k, i < k → k ≤ n → clsF n l k ≠ clsF n l i) from by
          have : ∀ m, m ≤ n + 1 → (∃ t, i < t ∧ t < m ∧ clsF n l t = clsF n l i ∧ (∀ k, i < k → k < t → clsF n l k ≠ clsF n l i)) ∨ (∀ k, i < k → k < m → clsF n l k ≠ clsF n l i) := by
            intro m
            induction m with
            | zero => intro _; exact Or.inr fun k _ hk => by omega
            | succ m ih =>
              intro hm
              rcases ih (by omega) with ⟨t, a, b, c, d⟩ | d
              · exact Or.inl ⟨t, a, by omega, c, d⟩
              · by_cases g : i < m ∧ clsF n l m = clsF n l i
                · exact Or.inl ⟨m, g.1, by omega, g.2, fun k q r => d k q r⟩
                · refine Or.inr fun k q r => ?_
                  by_cases x : k = m
                  · subst x; exact fun y => g ⟨q, y⟩
                  · exact d k q (by omega)
          rcases this (n + 1) (Nat.le_refl _) with ⟨t, a, b, c, d⟩ | d
          · exact Or.inl ⟨t, a, by omega, c, d⟩
          · exact Or.inr fun k q r => d k q (by omega)) with ⟨t, a, b, c, d⟩ | d
        · rw [nx_found a b c d] at e
          subst e
          rcases hbt with ⟨⟨p, q⟩, r⟩ | ⟨p, _⟩
          · exact d k q r s4
          · omega
        · rw [nx_none d] at e
          obtain ⟨i1, i2, i3⟩ := cls_is h hi
          rcases hbt with ⟨⟨p, q⟩, r⟩ | ⟨p, q⟩
          · exact d k q (by omega) s4
          · rcases q with q | q
            · exact d k q (by omega) s4
            · rw [e] at q
              have := i3 k q
              rw [bd_comm h hi (by omega), s3] at this; cases this
      · rfl
  · intro e
    unfold nxB at e
    rw [List.all_eq_true] at e
    have hno : ∀ k, k ≤ n → k ≠ i → k ≠ j → clsF n l k = clsF n l i → btB i j k = false := fun k hk q r s => by
      have := e k (List.mem_range.2 (by omega))
      have s3 := (key k hk).1 s
      cases g : btB i j k
      · rfl
      · rw [g] at this
        simp [skB, q, r, s3] at this
    have hj2 : clsF n l j = clsF n l i := (key j hj).2 (bd_symm h hi hj hb)
    by_cases c : i < j
    · rw [nx_found c hj hj2 fun k q r s => by
        have := hno k (by omega) (by omega) (by omega) s
        unfold btB at this; simp at this; omega]
    · rw [nx_none fun k q r s => by
        by_cases x : k = j
        · omega
        · have := hno k r (by omega) x s
          unfold btB at this; simp at this; omega]
      obtain ⟨i1, i2, i3⟩ := cls_is h hi
      by_cases x : clsF n l i < j
      · exfalso
        have hk : clsF n l (clsF n l i) = clsF n l i := (key _ (by omega)).2 (bd_symm h hi (by omega) i2)
        have := hno (clsF n l i) (by omega) (by omega) (by omega) hk
        unfold btB at this; simp at this; omega
      · by_cases y : j < clsF n l i
        · have := i3 j y
          rw [hb] at this; cases this
        · omega

theorem ks_kp {n i j : Nat} {l : List Int} (h : Vz n l) (hi : i ≤ n) (hj : j ≤ n) : ksB n l (clsF n l) i j = kpB n l i j := by
  unfold ksB kpB
  by_cases hij : i = j
  · simp [hij]
  by_cases hno : Zo.At n l i j = 1099511627776
  · simp [hno]
  simp only [decide_eq_false hij, decide_eq_false hno, Bool.not_false, Bool.true_and]
  by_cases hb : bdB n l i j = true
  · rw [if_pos ((cls_eq h hi hj).2 hb), if_pos hb]
    unfold kwB kpN
    rw [nx_eq h hi hj hij hb]
    unfold plB
    rw [Bool.not_and]
  · rw [if_neg (fun e => hb ((cls_eq h hi hj).1 e)), if_neg hb]
    unfold kbB kpM
    have ei : decide (clsF n l i = i) = fiB n l i := by rw [Bool.eq_iff_iff, decide_eq_true_eq]; exact cls_first h hi
    have ej : decide (clsF n l j = j) = fiB n l j := by rw [Bool.eq_iff_iff, decide_eq_true_eq]; exact cls_first h hj
    rw [ei, ej]
    cases hfj : fiB n l j
    · simp
    have hj1 := (cls_first h hj).2 hfj
    congr 1
    rw [Bool.eq_iff_iff, List.all_eq_true, List.all_eq_true]
    have : ∀ k, k ∈ List.range (n + 1) → (kbX n l (clsF n l) i j k || kbY n l (clsF n l) i j k) = (kpA n l i j k || kpC n l i j k) := fun k hk => by
      have hk : k ≤ n := by have := List.mem_range.1 hk; omega
      have e1 : kbX n l (clsF n l) i j k = kpA n l i j k := by
        unfold kbX kpA plB
        rw [show decide (clsF n l k = j) = bdB n l k j by
          rw [Bool.eq_iff_iff, decide_eq_true_eq, ← cls_eq h hk hj, hj1]]
        by_cases i0 : i = 0
        · subst i0
          cases bdB n l k j <;> simp
        · simp [i0]
      have e2 : kbY n l (clsF n l) i j k = kpC n l i j k := by
        unfold kbY kpC kpS
        rw [show decide (clsF n l k = k) = fiB n l k by rw [Bool.eq_iff_iff, decide_eq_true_eq]; exact cls_first h hk]
        rw [su_eq (h.lv hi hk).1 (h.lv hk hj).1 (h.lv hi hj).1]
      rw [e1, e2]
    constructor
    · intro q k hk
      rw [← this k hk]; exact q k hk
    · intro q k hk
      rw [this k hk]; exact q k hk
end Go.Proofs.YtaegiihkgicdnaaGreat
