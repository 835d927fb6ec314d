/- A part. -/
import Derived.Test.YthjapmdfcbngmaaGreatWp41
import Derived.Test.YthjapmdfcbngmaaGreatWp23
import Derived.Test.YthjapmdfcbngmaaGreatWp40

namespace Go.Proofs.YthjapmdfcbngmaaGreat
open Go.RowKit

def Ok1 (N : Int) (z : Zp) : Prop := chkE z.1 z.2 = 0 ∧ z.1 = N

def Ck (N : Int) (L : List Zp) : Prop := ∀ z ∈ L, Ok1 N z

theorem Ck.nil (N : Int) : Ck N [] := fun z h => by simp at h

theorem Ck.app {N : Int} {a b : List Zp} (h : Ck N a) (k : Ck N b) : Ck N (a ++ b) := fun z hz => (List.mem_append.1 hz).elim (h z) (k z)

theorem Ck.one {N : Int} {z : Zp} (h : Ok1 N z) : Ck N [z] := fun y hy => by rw [List.mem_singleton] at hy; subst hy; exact h

theorem Ck.seq {N : Int} {a b : Sq} (h : Ck N a.1) (k : Ck N b.1) : Ck N (seqA a b).1 := by
  unfold seqA; split
  · exact h.app k
  · exact h

theorem Ck.flat {α : Type} {N : Int} {f : α → Sq} : ∀ {l : List α}, (∀ x ∈ l, Ck N (f x).1) → Ck N (flatS f l).1
  | [], _ => Ck.nil N
  | x :: _, h => Ck.seq (h x (List.mem_cons_self ..)) (Ck.flat fun y hy => h y (List.mem_cons_of_mem _ hy))

theorem Ck.em {N : Int} {r : Zp × Int} (h : r.2 = 0 → Ok1 N r.1) : Ck N (emS r).1 := by
  unfold emS oneS
  split
  · exact Ck.nil N
  · split
    · rename_i q; exact Ck.one (h q)
    · exact Ck.nil N

structure VzM (n : Nat) (l : List Int) : Prop where
  hn : n ≤ 10
  hl : l.length = (n + 1) * (n + 1)
  hc : chkE (n : Int) l = 0

theorem Ok1.vz {N : Int} {z : Zp} (h : Ok1 N z) : ∃ n : Nat, N = n ∧ z = ((n : Int), z.2) ∧ VzM n z.2 := by
  obtain ⟨n, e, hn, hl, _⟩ := chk_ok h.1
  refine ⟨n, h.2.symm.trans e, by rw [← e], hn, hl, ?_⟩
  rw [← e]; exact h.1

theorem VzM.ok {n : Nat} {l : List Int} (h : VzM n l) : Ok1 (n : Int) ((n : Int), l) := ⟨h.hc, rfl⟩

theorem VzM.wl {n : Nat} {l : List Int} (h : VzM n l) : ∀ a b, a ≤ n → b ≤ n → Zo.Wl (Zo.At n l a b) := wl_of h.hl (chk_64 h.hc).2

theorem VzM.cl {n : Nat} {l : List Int} (h : VzM n l) : ∃ D, Zo.Cl n l D := chk_cl h.hn h.hl h.hc

theorem vz_clo {n : Nat} {l : List Int} (hn : n ≤ 10) (hl : l.length = (n + 1) * (n + 1)) (hv : ∀ a b, a ≤ n → b ≤ n → Zo.Wl (Zo.At n l a b)) (h : cloE n l = 0) : VzM n (Zo.clo n l) := ⟨hn, by rw [Zo.clo_length, hl], clo_chk hn hl hv h⟩

theorem over_no4 {n : Nat} {l c : List Int} (hn : n ≤ 10) (hl : l.length = (n + 1) * (n + 1)) (hv : ∀ a b, a ≤ n → b ≤ n → Zo.Wl (Zo.At n l a b)) (hc : VzM n c) (h : Zo.Le n c l) : cloE n l ≠ 4 ∧ Zo.Le n c (Zo.clo n l) := by
  obtain ⟨D, hD⟩ := hc.cl
  obtain ⟨k1, k2⟩ := Zo.clo_over hn hl hv hD h
  refine ⟨?_, k2⟩
  unfold cloE
  rw [cloB_iff.2 k1]
  simp only [Bool.false_eq_true, if_false]
  split <;> omega

theorem VzM.top {n : Nat} {l : List Int} (h : VzM n l) {a b : Nat} (ha : a ≤ n) (hb : b ≤ n) : Zo.At n l a b ≤ 1099511627776 := by
  obtain ⟨D, hD⟩ := h.cl
  exact hD.top ha hb

theorem Le.self {n : Nat} {l : List Int} : Zo.Le n l l := fun _ _ _ _ => Int.le_refl _

theorem me_fold1 (l m : List Int) : ∀ s, s ≤ l.length → ((List.range s).foldl (meS m) l).length = l.length ∧ ∀ k, Zo.gt ((List.range s).foldl (meS m) l) k = if k < s then imin (Zo.gt l k) (Zo.gt m k) else Zo.gt l k := by
  intro s
  induction s with
  | zero => intro _; exact ⟨rfl, fun k => by simp⟩
  | succ s ih =>
    intro hs
    obtain ⟨h1, h2⟩ := ih (by omega)
    rw [Zo.fold_succ]
    generalize (List.range s).foldl (meS m) l = u at *
    refine ⟨by simp [meS, h1], fun k => ?_⟩
    unfold meS
    rw [Zo.gt_set _ (by omega)]
    by_cases c : k = s
    · subst c
      rw [if_pos rfl, if_pos (by omega), h2 k, if_neg (by omega)]
    · rw [if_neg c, h2 k]
      by_cases d : k < s
      · rw [if_pos d, if_pos (by omega)]
      · rw [if_neg d, if_neg (by omega)]

theorem hu_fold1 (l m : List Int) : ∀ s, s ≤ l.length → ((List.range s).foldl (huS m) l).length = l.length ∧ ∀ k, Zo.gt ((List.range s).foldl (huS m) l) k = if k < s then imax (Zo.gt l k) (Zo.gt m k) else Zo.gt l k := by
  intro s
  induction s with
  | zero => intro _; exact ⟨rfl, fun k => by simp⟩
  | succ s ih =>
    intro hs
    obtain ⟨h1, h2⟩ := ih (by omega)
    rw [Zo.fold_succ]
    generalize (List.range s).foldl (huS m) l = u at *
    refine ⟨by simp [huS, h1], fun k => ?_⟩
    unfold huS
    rw [Zo.gt_set _ (by omega)]
    by_cases c : k = s
    · subst c
      rw [if_pos rfl, if_pos (by omega), h2 k, if_neg (by omega)]
    · rw [if_neg c, h2 k]
      by_cases d : k < s
      · rw [if_pos d, if_pos (by omega)]
      · rw [if_neg d, if_neg (by omega)]

theorem me_at1 {n : Nat} {l m : List Int} (hl : l.length = (n + 1) * (n + 1)) {a b : Nat} (ha : a ≤ n) (hb : b ≤ n) : Zo.At n (meL l m) a b = imin (Zo.At n l a b) (Zo.At n m a b) := by
  unfold meL Zo.At
  rw [(me_fold1 l m l.length (Nat.le_refl _)).2, if_pos (by rw [hl]; exact Zo.ix_lt ha hb)]

theorem hu_at1 {n : Nat} {l m : List Int} (hl : l.length = (n + 1) * (n + 1)) {a b : Nat} (ha : a ≤ n) (hb : b ≤ n) : Zo.At n (huL l m) a b = imax (Zo.At n l a b) (Zo.At n m a b) := by
  unfold huL Zo.At
  rw [(hu_fold1 l m l.length (Nat.le_refl _)).2, if_pos (by rw [hl]; exact Zo.ix_lt ha hb)]

theorem wl_min {x y : Int} (h : Zo.Wl x) (k : Zo.Wl y) : Zo.Wl (imin x y) := by unfold imin; unfold Zo.Wl at *; omega

theorem wl_max {x y : Int} (h : Zo.Wl x) (k : Zo.Wl y) : Zo.Wl (imax x y) := by unfold imax; unfold Zo.Wl at *; omega

theorem tw_vz {n : Nat} {l m : List Int} (h : VzM n l) (k : VzM n m) : twB n n l m = true := by unfold twB; simp [h.hc, k.hc]

theorem mt_vz {n : Nat} {l m : List Int} (h : VzM n l) (k : VzM n m) (q : zmE n n l m = 0) : VzM n (Zo.clo n (meL l m)) ∧ Zo.Le n (Zo.clo n (meL l m)) l ∧ Zo.Le n (Zo.clo n (meL l m)) m := by
  have e : zmE (n : Int) n l m = cloE n (meL l m) := by unfold zmE; rw [if_pos (tw_vz h k)]; simp
  have hl : (meL l m).length = (n + 1) * (n + 1) := by rw [meL_len, h.hl]
  have hv : ∀ a b, a ≤ n → b ≤ n → Zo.Wl (Zo.At n (meL l m) a b) := fun a b ha hb => by
    rw [me_at1 h.hl ha hb]; exact wl_min (h.wl a b ha hb) (k.wl a b ha hb)
  have le : Zo.Le n (Zo.clo n (meL l m)) (meL l m) := Zo.le_clo hl
  refine ⟨vz_clo h.hn hl hv (by rw [← e]; exact q), fun a b ha hb => ?_, fun a b ha hb => ?_⟩
  · have := le a b ha hb
    rw [me_at1 h.hl ha hb] at this
    unfold imin at this; omega
  · have := le a b ha hb
    rw [me_at1 h.hl ha hb] at this
    unfold imin at this; omega

theorem hl_vz {n : Nat} {l m : List Int} (h : VzM n l) (k : VzM n m) (q : huE n n l m = 0) : VzM n (Zo.clo n (huL l m)) := by
  have e : huE (n : Int) n l m = cloE n (huL l m) := by unfold huE; rw [if_pos (tw_vz h k)]; simp
  have hl : (huL l m).length = (n + 1) * (n + 1) := by rw [huL_len, h.hl]
  have hv : ∀ a b, a ≤ n → b ≤ n → Zo.Wl (Zo.At n (huL l m) a b) := fun a b ha hb => by
    rw [hu_at1 h.hl ha hb]; exact wl_max (h.wl a b ha hb) (k.wl a b ha hb)
  exact vz_clo h.hn hl hv (by rw [← e]; exact q)

theorem mt_ok {N : Int} {x y : Zp} (h : Ok1 N x) (k : Ok1 N y) (q : (mtP x y).2 = 0) : Ok1 N (mtP x y).1 := by
  obtain ⟨n, rfl, e, v⟩ := h.vz
  obtain ⟨n', e0, e', v'⟩ := k.vz
  have : n' = n := by omega
  subst this
  rw [e, e'] at q ⊢
  exact (mt_vz v v' q).1.ok

theorem hl_ok {N : Int} {x y : Zp} (h : Ok1 N x) (k : Ok1 N y) (q : (hlP x y).2 = 0) : Ok1 N (hlP x y).1 := by
  obtain ⟨n, rfl, e, v⟩ := h.vz
  obtain ⟨n', e0, e', v'⟩ := k.vz
  have : n' = n := by omega
  subst this
  rw [e, e'] at q ⊢
  exact (hl_vz v v' q).ok

theorem okC_wl {n : Nat} {c : Con} (h : okC n c = true) : c.1.toNat ≤ n ∧ c.2.1.toNat ≤ n ∧ Zo.Wl c.2.2 := by
  unfold okC at h
  simp only [Bool.and_eq_true, decide_eq_true_eq] at h
  exact ⟨by omega, by omega, (vl_of_lv h.2).wl⟩

theorem an1_at {n : Nat} {c : Con} {l : List Int} (hl : l.length = (n + 1) * (n + 1)) (h : okC n c = true) {a b : Nat} (hb : b ≤ n) : Zo.At n (anL n [c] l) a b = if a = c.1.toNat ∧ b = c.2.1.toNat then imin (Zo.At n l c.1.toNat c.2.1.toNat) c.2.2 else Zo.At n l a b := by
  obtain ⟨p1, p2, _⟩ := okC_wl h
  exact Zo.At_set hl p1 p2 _ hb

theorem an_cases {n : Nat} {c : Con} {l : List Int} (h : VzM n l) : anG n [c] l = 2 ∨ (okC n c = true ∧ anG n [c] l = cloE n (anL n [c] l)) := by
  unfold anG
  rw [if_pos h.hc, Int.toNat_natCast]
  unfold anE
  by_cases q : okC n c = true
  · right
    refine ⟨q, ?_⟩
    rw [if_pos (by simp [q])]
  · left
    rw [if_neg (by simp [q])]

theorem an_wl1 {n : Nat} {c : Con} {l : List Int} (h : VzM n l) (q : okC n c = true) : ∀ a b, a ≤ n → b ≤ n → Zo.Wl (Zo.At n (anL n [c] l) a b) := fun a b ha hb => by
  obtain ⟨p1, p2, p3⟩ := okC_wl q
  rw [an1_at h.hl q hb]
  split
  · exact wl_min (h.wl _ _ p1 p2) p3
  · exact h.wl a b ha hb

theorem an_vz {n : Nat} {c : Con} {l : List Int} (h : VzM n l) (q : anG n [c] l = 0) : VzM n (Zo.clo n (anL n [c] l)) := by
  rcases an_cases (c := c) h with k | ⟨k1, k2⟩
  · rw [q] at k; omega
  · exact vz_clo h.hn (by rw [anL_len, h.hl]) (an_wl1 h k1) (by rw [← k2]; exact q)

theorem an_ok {N : Int} {x : Zp} {c : Con} (h : Ok1 N x) (q : (anP x [c]).2 = 0) : Ok1 N (anP x [c]).1 := by
  obtain ⟨n, rfl, e, v⟩ := h.vz
  rw [e] at q ⊢
  exact (an_vz v q).ok

theorem an_over {n : Nat} {c : Con} {r k : List Int} (h : VzM n r) (hk : VzM n k) (hle : Zo.Le n k r) (hc : okC n c = true → Zo.At n k c.1.toNat c.2.1.toNat ≤ c.2.2) : anG n [c] r ≠ 4 ∧ (anG n [c] r = 0 → Zo.Le n k (Zo.clo n (anL n [c] r))) := by
  rcases an_cases (c := c) h with q | ⟨q1, q2⟩
  · rw [q]; exact ⟨by omega, fun e => by omega⟩
  · obtain ⟨p1, p2, _⟩ := okC_wl q1
    have le : Zo.Le n k (anL n [c] r) := fun a b ha hb => by
      rw [an1_at h.hl q1 hb]
      split
      · rename_i e
        have h1 := hle _ _ p1 p2
        have h2 := hc q1
        rw [e.1, e.2]
        unfold imin; omega
      · exact hle a b ha hb
    obtain ⟨k1, k2⟩ := over_no4 h.hn (by rw [anL_len, h.hl]) (an_wl1 h q1) hk le
    rw [q2]
    exact ⟨k1, fun _ => k2⟩

theorem rdc_at {n : Nat} {l : List Int} (h : VzM n l) {c : Con} (hc : c ∈ rdcL n l) : c.2.2 = Zo.At n l c.1.toNat c.2.1.toNat := by
  unfold rdcL at hc
  rw [if_pos h.hc, Int.toNat_natCast] at hc
  unfold redL redS redT at hc
  simp only [List.mem_flatMap, List.mem_range] at hc
  obtain ⟨i, hi, j, hj, hm⟩ := hc
  split at hm
  · rw [List.mem_singleton] at hm
    subst hm
    simp
  · cases hm
end Go.Proofs.YthjapmdfcbngmaaGreat

namespace Go.Proofs.YthjapmdfcbngmaaGreat
open Go.RowKit

def InZ (n : Nat) (D : Int) (X : Nat → Int) (z : Zp) : Prop := Zo.In n z.2 D X

def mtc (D : Int) (X : Nat → Int) (c : Con) : Prop := Zo.mt D (X c.1.toNat - X c.2.1.toNat) c.2.2

section
variable {n : Nat} {D : Int} {X : Nat → Int}

theorem VzM.tops {l : List Int} (h : VzM n l) : Zo.Top n l := ⟨h.hl, fun _ _ hi hj => h.top hi hj⟩

theorem Ok1.vzn {z : Zp} (h : Ok1 (n : Int) z) : z = ((n : Int), z.2) ∧ VzM n z.2 := by
  obtain ⟨n', e0, e, v⟩ := h.vz
  have : n' = n := by omega
  subst this
  exact ⟨e, v⟩

theorem in_me {l m : List Int} (hD : 0 < D) (h : VzM n l) (k : VzM n m) : Zo.In n (meL l m) D X ↔ Zo.In n l D X ∧ Zo.In n m D X := by
  constructor
  · intro q
    refine ⟨fun i j hi hj => ?_, fun i j hi hj => ?_⟩
    · have := q i j hi hj
      rw [me_at1 h.hl hi hj] at this
      exact Zo.mt_mono hD (by unfold imin; omega) (h.top hi hj) this
    · have := q i j hi hj
      rw [me_at1 h.hl hi hj] at this
      exact Zo.mt_mono hD (by unfold imin; omega) (k.top hi hj) this
  · intro q i j hi hj
    rw [me_at1 h.hl hi hj]
    exact Zo.mt_min (q.1 i j hi hj) (q.2 i j hi hj)

theorem me_top {l m : List Int} (h : VzM n l) : Zo.Top n (meL l m) := ⟨by rw [meL_len]; exact h.hl, fun i j hi hj => by
  rw [me_at1 h.hl hi hj]
  have := h.top hi hj
  unfold imin; omega⟩

theorem mt_in {x y : Zp} (hp : Zo.Pt n D X 1099511627776) (h : Ok1 (n : Int) x) (k : Ok1 (n : Int) y) :
    ((mtP x y).2 = 0 → (InZ n D X (mtP x y).1 ↔ InZ n D X x ∧ InZ n D X y)) ∧ ((mtP x y).2 = 4 → ¬ (InZ n D X x ∧ InZ n D X y)) := by
  obtain ⟨ex, vx⟩ := h.vzn
  obtain ⟨ey, vy⟩ := k.vzn
  have hD := hp.pos
  rw [ex, ey]
  have e : zmE (n : Int) n x.2 y.2 = cloE n (meL x.2 y.2) := by unfold zmE; rw [if_pos (tw_vz vx vy)]; simp
  refine ⟨fun _ => ?_, fun q => ?_⟩
  · unfold InZ mtP
    simp only [Int.toNat_natCast]
    rw [clo_in hp (by omega) (me_top vx), in_me hD vx vy]
  · intro a
    have f := clo_full hp (by omega) (me_top vx) ((in_me hD vx vy).2 a)
    have : cloE n (meL x.2 y.2) = 4 := by rw [← e]; exact q
    exact cloE_full f this

theorem in_an1 {l : List Int} {c : Con} (hD : 0 < D) (h : VzM n l) (hc : okC n c = true) : Zo.In n (anL n [c] l) D X ↔ Zo.In n l D X ∧ mtc D X c := by
  have := an_in (n := n) (cs := [c]) (l := l) (D := D) (X := X) hD h.tops (fun t ht => by
    have : t = 0 := by simpa using ht
    subst this
    exact hc)
  rw [this]
  refine ⟨fun q => ⟨q.1, q.2 0 (by simp)⟩, fun q => ⟨q.1, fun t ht => ?_⟩⟩
  have : t = 0 := by simpa using ht
  subst this
  exact q.2

theorem an_top1 {l : List Int} {c : Con} (h : VzM n l) (hc : okC n c = true) : Zo.Top n (anL n [c] l) := ⟨by rw [anL_len]; exact h.hl, fun i j hi hj => by
  obtain ⟨p1, p2, _⟩ := okC_wl hc
  rw [an1_at h.hl hc hj]
  have := h.top p1 p2
  have := h.top hi hj
  split
  · unfold imin; omega
  · assumption⟩

theorem an_in1 {x : Zp} {c : Con} (hp : Zo.Pt n D X 1099511627776) (h : Ok1 (n : Int) x) :
    ((anP x [c]).2 = 0 → (InZ n D X (anP x [c]).1 ↔ InZ n D X x ∧ mtc D X c)) ∧ ((anP x [c]).2 = 4 → ¬ (InZ n D X x ∧ mtc D X c)) := by
  obtain ⟨ex, vx⟩ := h.vzn
  have hD := hp.pos
  rw [ex]
  have key := an_cases (c := c) vx
  refine ⟨fun q => ?_, fun q => ?_⟩
  · rcases key with k | ⟨k1, k2⟩
    · exact absurd (k.symm.trans q) (by decide)
    · unfold InZ anP
      simp only [Int.toNat_natCast]
      rw [clo_in hp (by omega) (an_top1 vx k1), in_an1 hD vx k1]
  · rcases key with k | ⟨k1, k2⟩
    · exact absurd (k.symm.trans q) (by decide)
    · intro a
      have f := clo_full hp (by omega) (an_top1 vx k1) ((in_an1 hD vx k1).2 a)
      exact cloE_full f (k2.symm.trans q)

theorem mt_not {q l : Int} (h : spE l = 0) : Zo.mt D (-q) (ntL l) ↔ ¬ Zo.mt D q l := by
  unfold spE lvB noB at h
  split at h
  · split at h
    · cases h
    · rename_i h1 h2
      have e : ntL l = 1 - l := by unfold ntL lvB noB; rw [h1]; simp at h2 ⊢; exact fun q => absurd q h2
      rw [e]
      simp at h1 h2
      unfold Zo.mt
      rcases (show l % 2 = 0 ∨ l % 2 = 1 by omega) with p | p
      · have e2 : (1 - l) / 2 * D = -(l / 2 * D) := by
          rw [show (1 - l) / 2 = -(l / 2) by omega, Int.neg_mul]
        rw [e2]
        omega
      · have e2 : (1 - l) / 2 * D = -(l / 2 * D) := by
          rw [show (1 - l) / 2 = -(l / 2) by omega, Int.neg_mul]
        rw [e2]
        omega
  · cases h

theorem mtc_op {c : Con} (h : spE c.2.2 = 0) : mtc D X (opC c) ↔ ¬ mtc D X c := by
  unfold mtc opC
  have := mt_not (D := D) (q := X c.1.toNat - X c.2.1.toNat) h
  rw [← this]
  show Zo.mt D (X c.2.1.toNat - X c.1.toNat) (ntL c.2.2) ↔ _
  rw [show X c.2.1.toNat - X c.1.toNat = -(X c.1.toNat - X c.2.1.toNat) by omega]

def AnyZ (n : Nat) (D : Int) (X : Nat → Int) (L : List Zp) : Prop := ∃ z ∈ L, InZ n D X z

theorem any_app {a b : List Zp} : AnyZ n D X (a ++ b) ↔ AnyZ n D X a ∨ AnyZ n D X b := by
  unfold AnyZ
  simp only [List.mem_append]
  exact ⟨fun ⟨z, h, k⟩ => h.elim (fun h => Or.inl ⟨z, h, k⟩) (fun h => Or.inr ⟨z, h, k⟩), fun h => h.elim (fun ⟨z, h, k⟩ => ⟨z, Or.inl h, k⟩) (fun ⟨z, h, k⟩ => ⟨z, Or.inr h, k⟩)⟩

theorem any_nil : ¬ AnyZ n D X [] := fun ⟨_, h, _⟩ => by simp at h

theorem any_one {z : Zp} : AnyZ n D X [z] ↔ InZ n D X z := ⟨fun ⟨y, h, k⟩ => by rw [List.mem_singleton] at h; rw [← h]; exact k, fun h => ⟨z, List.mem_singleton.2 rfl, h⟩⟩

theorem any_seq {a b : Sq} (h : (seqA a b).2 = 0) : AnyZ n D X (seqA a b).1 ↔ AnyZ n D X a.1 ∨ AnyZ n D X b.1 := by
  have ha := (seqA_ok h).1
  rw [seqA_of ha]
  exact any_app

theorem em_in {r : Zp × Int} {P : Prop} (h0 : r.2 = 0 → (InZ n D X r.1 ↔ P)) (h4 : r.2 = 4 → ¬ P) (h : (emS r).2 = 0) : AnyZ n D X (emS r).1 ↔ P := by
  by_cases e4 : r.2 = 4
  · rw [emS_em e4]
    exact ⟨fun q => absurd q any_nil, fun q => absurd q (h4 e4)⟩
  · by_cases e0 : r.2 = 0
    · rw [emS_ok e0, any_one]; exact h0 e0
    · rw [emS_no e0 e4] at h
      exact absurd h e0

theorem cut_in (hp : Zo.Pt n D X 1099511627776) : ∀ {cs : List Con} {r : Zp}, Ok1 (n : Int) r → (∀ c ∈ cs, spE c.2.2 = 0) → (cutR r cs).2 = 0 → (AnyZ n D X (cutR r cs).1 ↔ InZ n D X r ∧ ∃ c ∈ cs, ¬ mtc D X c)
  | [], r, _, _, _ => ⟨fun h => absurd h any_nil, fun h => by obtain ⟨_, c, q, _⟩ := h; simp at q⟩
  | c :: cs, r, hr, hs, h => by
    unfold cutR at h ⊢
    rw [any_seq h]
    obtain ⟨h1, h2⟩ := seqA_ok h
    have e1 := em_in (an_in1 (c := opC c) hp hr).1 (an_in1 (c := opC c) hp hr).2 h1
    rw [e1, mtc_op (hs c (List.mem_cons_self ..))]
    by_cases q : (anP r [c]).2 = 0
    · rw [if_pos q] at h2 ⊢
      rw [cut_in hp (an_ok hr q) (fun c hc => hs c (List.mem_cons_of_mem _ hc)) h2, (an_in1 hp hr).1 q]
      constructor
      · rintro (⟨a, b⟩ | ⟨⟨a, b⟩, c', d, e⟩)
        · exact ⟨a, c, List.mem_cons_self .., b⟩
        · exact ⟨a, c', List.mem_cons_of_mem _ d, e⟩
      · rintro ⟨a, c', d, e⟩
        by_cases m : mtc D X c
        · rcases List.mem_cons.1 d with rfl | d
          · exact absurd m e
          · exact Or.inr ⟨⟨a, m⟩, c', d, e⟩
        · exact Or.inl ⟨a, m⟩
    · rw [if_neg q] at h2
      exact absurd h2 q
end
end Go.Proofs.YthjapmdfcbngmaaGreat
