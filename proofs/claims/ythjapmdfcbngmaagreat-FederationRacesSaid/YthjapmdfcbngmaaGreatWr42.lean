/- A part. -/
import Derived.Test.YthjapmdfcbngmaaGreatWr40
import Derived.Test.YthjapmdfcbngmaaGreatWr20
import Derived.Test.YthjapmdfcbngmaaGreatWr38
import Derived.Test.YthjapmdfcbngmaaGreatWr41
import Derived.Test.YthjapmdfcbngmaaGreatWr34
import Derived.Test.YthjapmdfcbngmaaGreatWr33
namespace Go.Proofs.YthjapmdfcbngmaaGreat
set_option maxHeartbeats 4000000
open Go.RowKit
def Ok1 (N : Int) (z : Zp) : Prop := chkE z.1 z.2 = 0 ∧ z.1 = N
def Ck (N : Int) (L : List Zp) : Prop := ∀ z ∈ L, Ok1 N z
theorem Ck.nil (N : Int) : Ck N [] := fun z h => by simp at h
theorem Ck.app {N : Int} {a b : List Zp} (h : Ck N a) (k : Ck N b) : Ck N (a ++ b) := fun z hz => (List.mem_append.1 hz).elim (h z) (k z)
theorem Ck.one {N : Int} {z : Zp} (h : Ok1 N z) : Ck N [z] := fun y hy => by rw [List.mem_singleton] at hy; subst hy; exact h
theorem Ck.seq {N : Int} {a b : Sq} (h : Ck N a.1) (k : Ck N b.1) : Ck N (seqA a b).1 := by
 unfold seqA; split
 · exact h.app k
 · exact h
theorem Ck.flat {α : Type} {N : Int} {f : α → Sq} : ∀ {l : List α}, (∀ x ∈ l, Ck N (f x).1) → Ck N (flatS f l).1
 | [], _ => Ck.nil N
 | x :: _, h => Ck.seq (h x (List.mem_cons_self ..)) (Ck.flat fun y hy => h y (List.mem_cons_of_mem _ hy))
theorem Ck.em {N : Int} {r : Zp × Int} (h : r.2 = 0 → Ok1 N r.1) : Ck N (emS r).1 := by
 unfold emS oneS
 split
 · exact Ck.nil N
 · split
   · rename_i q; exact Ck.one (h q)
   · exact Ck.nil N
theorem Ck.ones {N : Int} {r : Zp × Int} (h : r.2 = 0 → Ok1 N r.1) : Ck N (oneS r).1 := by
 unfold oneS
 split
 · rename_i q; exact Ck.one (h q)
 · exact Ck.nil N
structure VzM (n : Nat) (l : List Int) : Prop where
 hn : n ≤ 10
 hl : l.length = (n + 1) * (n + 1)
 hc : chkE (n : Int) l = 0
theorem Ok1.vz {N : Int} {z : Zp} (h : Ok1 N z) : ∃ n : Nat, N = n ∧ z = ((n : Int), z.2) ∧ VzM n z.2 := by
 obtain ⟨n, e, hn, hl, _⟩ := chk_ok h.1
 refine ⟨n, h.2.symm.trans e, by rw [← e], hn, hl, ?_⟩
 rw [← e]; exact h.1
theorem VzM.ok {n : Nat} {l : List Int} (h : VzM n l) : Ok1 (n : Int) ((n : Int), l) := ⟨h.hc, rfl⟩
theorem VzM.wl {n : Nat} {l : List Int} (h : VzM n l) : ∀ a b, a ≤ n → b ≤ n → Zo.Wl (Zo.At n l a b) := wl_of h.hl (chk_64 h.hc).2
theorem VzM.cl {n : Nat} {l : List Int} (h : VzM n l) : ∃ D, Zo.Cl n l D := chk_cl h.hn h.hl h.hc
theorem vz_clo {n : Nat} {l : List Int} (hn : n ≤ 10) (hl : l.length = (n + 1) * (n + 1)) (hv : ∀ a b, a ≤ n → b ≤ n → Zo.Wl (Zo.At n l a b)) (h : cloE n l = 0) : VzM n (Zo.clo n l) := ⟨hn, by rw [Zo.clo_length, hl], clo_chk hn hl hv h⟩
theorem over_no4 {n : Nat} {l c : List Int} (hn : n ≤ 10) (hl : l.length = (n + 1) * (n + 1)) (hv : ∀ a b, a ≤ n → b ≤ n → Zo.Wl (Zo.At n l a b)) (hc : VzM n c) (h : Zo.Le n c l) : cloE n l ≠ 4 ∧ Zo.Le n c (Zo.clo n l) := by
 obtain ⟨D, hD⟩ := hc.cl
 obtain ⟨k1, k2⟩ := Zo.clo_over hn hl hv hD h
 refine ⟨?_, k2⟩
 unfold cloE
 rw [cloB_iff.2 k1]
 simp only [Bool.false_eq_true, if_false]
 split <;> omega
theorem wl_one : Zo.Wl 1 := by unfold Zo.Wl; omega
theorem chk_row {n : Nat} {l : List Int} (h : VzM n l) {a : Nat} (ha : a ≤ n) : Zo.At n l 0 a ≤ 1 := by
 obtain ⟨D, hD⟩ := h.cl
 exact hD.row a ha
theorem VzM.top {n : Nat} {l : List Int} (h : VzM n l) {a b : Nat} (ha : a ≤ n) (hb : b ≤ n) : Zo.At n l a b ≤ 1099511627776 := by
 obtain ⟨D, hD⟩ := h.cl
 exact hD.top ha hb
theorem dn_vz {n : Nat} {l : List Int} (h : VzM n l) : dnE n l ≠ 4 ∧ (dnE n l = 0 → VzM n (Zo.clo n (dnL n l))) := by
 have e : dnE (n : Int) l = cloE n (dnL n l) := by unfold dnE; rw [if_pos h.hc]; simp
 have hl : (dnL n l).length = (n + 1) * (n + 1) := by rw [dnL_len, h.hl]
 have hv : ∀ a b, a ≤ n → b ≤ n → Zo.Wl (Zo.At n (dnL n l) a b) := fun a b ha hb => by
  rw [dnL_at h.hl ha hb]; split
  · exact wl_one
  · exact h.wl a b ha hb
 rw [e]
 refine ⟨(over_no4 h.hn hl hv h fun a b ha hb => ?_).1, fun q => vz_clo h.hn hl hv q⟩
 rw [dnL_at h.hl ha hb]; split
 · rename_i q; rw [q.1]; exact chk_row h hb
 · exact Int.le_refl _
theorem dn_ok {N : Int} {z : Zp} (h : Ok1 N z) : (dnP z).2 ≠ 4 ∧ ((dnP z).2 = 0 → Ok1 N (dnP z).1) := by
 obtain ⟨n, rfl, e, v⟩ := h.vz
 rw [e]
 obtain ⟨k1, k2⟩ := dn_vz v
 exact ⟨k1, fun q => (k2 q).ok⟩
theorem me_fold1 (l m : List Int) : ∀ s, s ≤ l.length → ((List.range s).foldl (meS m) l).length = l.length ∧ ∀ k, Zo.gt ((List.range s).foldl (meS m) l) k = if k < s then imin (Zo.gt l k) (Zo.gt m k) else Zo.gt l k := by
 intro s
 induction s with
 | zero => intro _; exact ⟨rfl, fun k => by simp⟩
 | succ s ih =>
  intro hs
  obtain ⟨h1, h2⟩ := ih (by omega)
  rw [Zo.fold_succ]
  generalize (List.range s).foldl (meS m) l = u at *
  refine ⟨by simp [meS, h1], fun k => ?_⟩
  unfold meS
  rw [Zo.gt_set _ (by omega)]
  by_cases c : k = s
  · subst c
    rw [if_pos rfl, if_pos (by omega), h2 k, if_neg (by omega)]
  · rw [if_neg c, h2 k]
    by_cases d : k < s
    · rw [if_pos d, if_pos (by omega)]
    · rw [if_neg d, if_neg (by omega)]
theorem me_at1 {n : Nat} {l m : List Int} (hl : l.length = (n + 1) * (n + 1)) {a b : Nat} (ha : a ≤ n) (hb : b ≤ n) : Zo.At n (meL l m) a b = imin (Zo.At n l a b) (Zo.At n m a b) := by
 unfold meL Zo.At
 rw [(me_fold1 l m l.length (Nat.le_refl _)).2, if_pos (by rw [hl]; exact Zo.ix_lt ha hb)]
theorem wl_min {x y : Int} (h : Zo.Wl x) (k : Zo.Wl y) : Zo.Wl (imin x y) := by unfold imin; unfold Zo.Wl at *; omega
theorem tw_vz {n : Nat} {l m : List Int} (h : VzM n l) (k : VzM n m) : twB n n l m = true := by unfold twB; simp [h.hc, k.hc]
theorem mt_vz {n : Nat} {l m : List Int} (h : VzM n l) (k : VzM n m) (q : zmE n n l m = 0) : VzM n (Zo.clo n (meL l m)) ∧ Zo.Le n (Zo.clo n (meL l m)) l ∧ Zo.Le n (Zo.clo n (meL l m)) m := by
 have e : zmE (n : Int) n l m = cloE n (meL l m) := by unfold zmE; rw [if_pos (tw_vz h k)]; simp
 have hl : (meL l m).length = (n + 1) * (n + 1) := by rw [meL_len, h.hl]
 have hv : ∀ a b, a ≤ n → b ≤ n → Zo.Wl (Zo.At n (meL l m) a b) := fun a b ha hb => by
  rw [me_at1 h.hl ha hb]; exact wl_min (h.wl a b ha hb) (k.wl a b ha hb)
 have le : Zo.Le n (Zo.clo n (meL l m)) (meL l m) := Zo.le_clo hl
 refine ⟨vz_clo h.hn hl hv (by rw [← e]; exact q), fun a b ha hb => ?_, fun a b ha hb => ?_⟩
 · have := le a b ha hb
   rw [me_at1 h.hl ha hb] at this
   unfold imin at this; omega
 · have := le a b ha hb
   rw [me_at1 h.hl ha hb] at this
   unfold imin at this; omega
theorem mt_ok {N : Int} {x y : Zp} (h : Ok1 N x) (k : Ok1 N y) (q : (mtP x y).2 = 0) : Ok1 N (mtP x y).1 := by
 obtain ⟨n, rfl, e, v⟩ := h.vz
 obtain ⟨n', e0, e', v'⟩ := k.vz
 have : n' = n := by omega
 subst this
 rw [e, e'] at q ⊢
 exact (mt_vz v v' q).1.ok
theorem okC_wl {n : Nat} {c : Con} (h : okC n c = true) : c.1.toNat ≤ n ∧ c.2.1.toNat ≤ n ∧ Zo.Wl c.2.2 := by
 unfold okC at h
 simp only [Bool.and_eq_true, decide_eq_true_eq] at h
 exact ⟨by omega, by omega, (vl_of_lv h.2).wl⟩
theorem an1_at {n : Nat} {c : Con} {l : List Int} (hl : l.length = (n + 1) * (n + 1)) (h : okC n c = true) {a b : Nat} (hb : b ≤ n) : Zo.At n (anL n [c] l) a b = if a = c.1.toNat ∧ b = c.2.1.toNat then imin (Zo.At n l c.1.toNat c.2.1.toNat) c.2.2 else Zo.At n l a b := by
 obtain ⟨p1, p2, _⟩ := okC_wl h
 exact Zo.At_set hl p1 p2 _ hb
theorem an_cases {n : Nat} {c : Con} {l : List Int} (h : VzM n l) : anG n [c] l = 2 ∨ (okC n c = true ∧ anG n [c] l = cloE n (anL n [c] l)) := by
 unfold anG
 rw [if_pos h.hc, Int.toNat_natCast]
 unfold anE
 by_cases q : okC n c = true
 · right
   refine ⟨q, ?_⟩
   rw [if_pos (by simp [q])]
 · left
   rw [if_neg (by simp [q])]
theorem an_wl1 {n : Nat} {c : Con} {l : List Int} (h : VzM n l) (q : okC n c = true) : ∀ a b, a ≤ n → b ≤ n → Zo.Wl (Zo.At n (anL n [c] l) a b) := fun a b ha hb => by
 obtain ⟨p1, p2, p3⟩ := okC_wl q
 rw [an1_at h.hl q hb]
 split
 · exact wl_min (h.wl _ _ p1 p2) p3
 · exact h.wl a b ha hb
theorem an_vz {n : Nat} {c : Con} {l : List Int} (h : VzM n l) (q : anG n [c] l = 0) : VzM n (Zo.clo n (anL n [c] l)) := by
 rcases an_cases (c := c) h with k | ⟨k1, k2⟩
 · rw [q] at k; omega
 · exact vz_clo h.hn (by rw [anL_len, h.hl]) (an_wl1 h k1) (by rw [← k2]; exact q)
theorem an_ok {N : Int} {x : Zp} {c : Con} (h : Ok1 N x) (q : (anP x [c]).2 = 0) : Ok1 N (anP x [c]).1 := by
 obtain ⟨n, rfl, e, v⟩ := h.vz
 rw [e] at q ⊢
 exact (an_vz v q).ok
theorem an_over {n : Nat} {c : Con} {r k : List Int} (h : VzM n r) (hk : VzM n k) (hle : Zo.Le n k r) (hc : okC n c = true → Zo.At n k c.1.toNat c.2.1.toNat ≤ c.2.2) : anG n [c] r ≠ 4 ∧ (anG n [c] r = 0 → Zo.Le n k (Zo.clo n (anL n [c] r))) := by
 rcases an_cases (c := c) h with q | ⟨q1, q2⟩
 · rw [q]; exact ⟨by omega, fun e => by omega⟩
 · obtain ⟨p1, p2, _⟩ := okC_wl q1
   have le : Zo.Le n k (anL n [c] r) := fun a b ha hb => by
    rw [an1_at h.hl q1 hb]
    split
    · rename_i e
      have h1 := hle _ _ p1 p2
      have h2 := hc q1
      rw [e.1, e.2]
      unfold imin; omega
    · exact hle a b ha hb
   obtain ⟨k1, k2⟩ := over_no4 h.hn (by rw [anL_len, h.hl]) (an_wl1 h q1) hk le
   rw [q2]
   exact ⟨k1, fun _ => k2⟩
theorem rdc_at {n : Nat} {l : List Int} (h : VzM n l) {c : Con} (hc : c ∈ rdcL n l) : c.2.2 = Zo.At n l c.1.toNat c.2.1.toNat := by
 unfold rdcL at hc
 rw [if_pos h.hc, Int.toNat_natCast] at hc
 unfold redL redS redT at hc
 simp only [List.mem_flatMap, List.mem_range] at hc
 obtain ⟨i, hi, j, hj, hm⟩ := hc
 split at hm
 · rw [List.mem_singleton] at hm
   subst hm
   simp
 · cases hm
def InZ (n : Nat) (D : Int) (X : Nat → Int) (z : Zp) : Prop := Zo.In n z.2 D X
def mtc (D : Int) (X : Nat → Int) (c : Con) : Prop := Zo.mt D (X c.1.toNat - X c.2.1.toNat) c.2.2
section
variable {n : Nat} {D : Int} {X : Nat → Int}
theorem VzM.tops {l : List Int} (h : VzM n l) : Zo.Top n l := ⟨h.hl, fun _ _ hi hj => h.top hi hj⟩
theorem Ok1.vzn {z : Zp} (h : Ok1 (n : Int) z) : z = ((n : Int), z.2) ∧ VzM n z.2 := by
 obtain ⟨n', e0, e, v⟩ := h.vz
 have : n' = n := by omega
 subst this
 exact ⟨e, v⟩
theorem in_me {l m : List Int} (hD : 0 < D) (h : VzM n l) (k : VzM n m) : Zo.In n (meL l m) D X ↔ Zo.In n l D X ∧ Zo.In n m D X := by
 constructor
 · intro q
   refine ⟨fun i j hi hj => ?_, fun i j hi hj => ?_⟩
   · have := q i j hi hj
     rw [me_at1 h.hl hi hj] at this
     exact Zo.mt_mono hD (by unfold imin; omega) (h.top hi hj) this
   · have := q i j hi hj
     rw [me_at1 h.hl hi hj] at this
     exact Zo.mt_mono hD (by unfold imin; omega) (k.top hi hj) this
 · intro q i j hi hj
   rw [me_at1 h.hl hi hj]
   exact Zo.mt_min (q.1 i j hi hj) (q.2 i j hi hj)
theorem me_top {l m : List Int} (h : VzM n l) : Zo.Top n (meL l m) := ⟨by rw [meL_len]; exact h.hl, fun i j hi hj => by
 rw [me_at1 h.hl hi hj]
 have := h.top hi hj
 unfold imin; omega⟩
theorem mt_in {x y : Zp} (hp : Zo.Pt n D X 1099511627776) (h : Ok1 (n : Int) x) (k : Ok1 (n : Int) y) :
  ((mtP x y).2 = 0 → (InZ n D X (mtP x y).1 ↔ InZ n D X x ∧ InZ n D X y)) ∧ ((mtP x y).2 = 4 → ¬ (InZ n D X x ∧ InZ n D X y)) := by
 obtain ⟨ex, vx⟩ := h.vzn
 obtain ⟨ey, vy⟩ := k.vzn
 have hD := hp.pos
 rw [ex, ey]
 have e : zmE (n : Int) n x.2 y.2 = cloE n (meL x.2 y.2) := by unfold zmE; rw [if_pos (tw_vz vx vy)]; simp
 refine ⟨fun _ => ?_, fun q => ?_⟩
 · unfold InZ mtP
   simp only [Int.toNat_natCast]
   rw [clo_in hp (by omega) (me_top vx), in_me hD vx vy]
 · intro a
   have f := clo_full hp (by omega) (me_top vx) ((in_me hD vx vy).2 a)
   have : cloE n (meL x.2 y.2) = 4 := by rw [← e]; exact q
   exact cloE_full f this
theorem in_an1 {l : List Int} {c : Con} (hD : 0 < D) (h : VzM n l) (hc : okC n c = true) : Zo.In n (anL n [c] l) D X ↔ Zo.In n l D X ∧ mtc D X c := by
 have := an_in (n := n) (cs := [c]) (l := l) (D := D) (X := X) hD h.tops (fun t ht => by
  have : t = 0 := by simpa using ht
  subst this
  exact hc)
 rw [this]
 refine ⟨fun q => ⟨q.1, q.2 0 (by simp)⟩, fun q => ⟨q.1, fun t ht => ?_⟩⟩
 have : t = 0 := by simpa using ht
 subst this
 exact q.2
theorem an_top1 {l : List Int} {c : Con} (h : VzM n l) (hc : okC n c = true) : Zo.Top n (anL n [c] l) := ⟨by rw [anL_len]; exact h.hl, fun i j hi hj => by
 obtain ⟨p1, p2, _⟩ := okC_wl hc
 rw [an1_at h.hl hc hj]
 have := h.top p1 p2
 have := h.top hi hj
 split
 · unfold imin; omega
 · assumption⟩
theorem an_in1 {x : Zp} {c : Con} (hp : Zo.Pt n D X 1099511627776) (h : Ok1 (n : Int) x) :
  ((anP x [c]).2 = 0 → (InZ n D X (anP x [c]).1 ↔ InZ n D X x ∧ mtc D X c)) ∧ ((anP x [c]).2 = 4 → ¬ (InZ n D X x ∧ mtc D X c)) := by
 obtain ⟨ex, vx⟩ := h.vzn
 have hD := hp.pos
 rw [ex]
 have key := an_cases (c := c) vx
 refine ⟨fun q => ?_, fun q => ?_⟩
 · rcases key with k | ⟨k1, k2⟩
   · exact absurd (k.symm.trans q) (by decide)
   · unfold InZ anP
     simp only [Int.toNat_natCast]
     rw [clo_in hp (by omega) (an_top1 vx k1), in_an1 hD vx k1]
 · rcases key with k | ⟨k1, k2⟩
   · exact absurd (k.symm.trans q) (by decide)
   · intro a
     have f := clo_full hp (by omega) (an_top1 vx k1) ((in_an1 hD vx k1).2 a)
     exact cloE_full f (k2.symm.trans q)
theorem mt_not {q l : Int} (h : spE l = 0) : Zo.mt D (-q) (ntL l) ↔ ¬ Zo.mt D q l := by
 unfold spE lvB noB at h
 split at h
 · split at h
   · cases h
   · rename_i h1 h2
     have e : ntL l = 1 - l := by unfold ntL lvB noB; rw [h1]; simp at h2 ⊢; exact fun q => absurd q h2
     rw [e]
     simp at h1 h2
     unfold Zo.mt
     rcases (show l % 2 = 0 ∨ l % 2 = 1 by omega) with p | p
     · have e2 : (1 - l) / 2 * D = -(l / 2 * D) := by
        rw [show (1 - l) / 2 = -(l / 2) by omega, Int.neg_mul]
       rw [e2]
       omega
     · have e2 : (1 - l) / 2 * D = -(l / 2 * D) := by
        rw [show (1 - l) / 2 = -(l / 2) by omega, Int.neg_mul]
       rw [e2]
       omega
 · cases h
theorem mtc_op {c : Con} (h : spE c.2.2 = 0) : mtc D X (opC c) ↔ ¬ mtc D X c := by
 unfold mtc opC
 have := mt_not (D := D) (q := X c.1.toNat - X c.2.1.toNat) h
 rw [← this]
 show Zo.mt D (X c.2.1.toNat - X c.1.toNat) (ntL c.2.2) ↔ _
 rw [show X c.2.1.toNat - X c.1.toNat = -(X c.1.toNat - X c.2.1.toNat) by omega]
def AnyZ (n : Nat) (D : Int) (X : Nat → Int) (L : List Zp) : Prop := ∃ z ∈ L, InZ n D X z
theorem any_app {a b : List Zp} : AnyZ n D X (a ++ b) ↔ AnyZ n D X a ∨ AnyZ n D X b := by
 unfold AnyZ
 simp only [List.mem_append]
 exact ⟨fun ⟨z, h, k⟩ => h.elim (fun h => Or.inl ⟨z, h, k⟩) (fun h => Or.inr ⟨z, h, k⟩), fun h => h.elim (fun ⟨z, h, k⟩ => ⟨z, Or.inl h, k⟩) (fun ⟨z, h, k⟩ => ⟨z, Or.inr h, k⟩)⟩
theorem any_nil : ¬ AnyZ n D X [] := fun ⟨_, h, _⟩ => by simp at h
theorem any_one {z : Zp} : AnyZ n D X [z] ↔ InZ n D X z := ⟨fun ⟨y, h, k⟩ => by rw [List.mem_singleton] at h; rw [← h]; exact k, fun h => ⟨z, List.mem_singleton.2 rfl, h⟩⟩
theorem any_seq {a b : Sq} (h : (seqA a b).2 = 0) : AnyZ n D X (seqA a b).1 ↔ AnyZ n D X a.1 ∨ AnyZ n D X b.1 := by
 have ha := (seqA_ok h).1
 rw [seqA_of ha]
 exact any_app
theorem em_in {r : Zp × Int} {P : Prop} (h0 : r.2 = 0 → (InZ n D X r.1 ↔ P)) (h4 : r.2 = 4 → ¬ P) (h : (emS r).2 = 0) : AnyZ n D X (emS r).1 ↔ P := by
 by_cases e4 : r.2 = 4
 · rw [emS_em e4]
   exact ⟨fun q => absurd q any_nil, fun q => absurd q (h4 e4)⟩
 · by_cases e0 : r.2 = 0
   · rw [emS_ok e0, any_one]; exact h0 e0
   · rw [emS_no e0 e4] at h
     exact absurd h e0
theorem cut_in (hp : Zo.Pt n D X 1099511627776) : ∀ {cs : List Con} {r : Zp}, Ok1 (n : Int) r → (∀ c ∈ cs, spE c.2.2 = 0) → (cutR r cs).2 = 0 → (AnyZ n D X (cutR r cs).1 ↔ InZ n D X r ∧ ∃ c ∈ cs, ¬ mtc D X c)
 | [], r, _, _, _ => ⟨fun h => absurd h any_nil, fun h => by obtain ⟨_, c, q, _⟩ := h; simp at q⟩
 | c :: cs, r, hr, hs, h => by
  unfold cutR at h ⊢
  rw [any_seq h]
  obtain ⟨h1, h2⟩ := seqA_ok h
  have e1 := em_in (an_in1 (c := opC c) hp hr).1 (an_in1 (c := opC c) hp hr).2 h1
  rw [e1, mtc_op (hs c (List.mem_cons_self ..))]
  by_cases q : (anP r [c]).2 = 0
  · rw [if_pos q] at h2 ⊢
    rw [cut_in hp (an_ok hr q) (fun c hc => hs c (List.mem_cons_of_mem _ hc)) h2, (an_in1 hp hr).1 q]
    constructor
    · rintro (⟨a, b⟩ | ⟨⟨a, b⟩, c', d, e⟩)
      · exact ⟨a, c, List.mem_cons_self .., b⟩
      · exact ⟨a, c', List.mem_cons_of_mem _ d, e⟩
    · rintro ⟨a, c', d, e⟩
      by_cases m : mtc D X c
      · rcases List.mem_cons.1 d with rfl | d
        · exact absurd m e
        · exact Or.inr ⟨⟨a, m⟩, c', d, e⟩
      · exact Or.inl ⟨a, m⟩
  · rw [if_neg q] at h2
    exact absurd h2 q
end
theorem seq_no4 {a b : Sq} (h : a.2 ≠ 4) (k : b.2 ≠ 4) : (seqA a b).2 ≠ 4 := by unfold seqA; split <;> assumption
theorem flat_no4 {α : Type} {f : α → Sq} : ∀ {l : List α}, (∀ x ∈ l, (f x).2 ≠ 4) → (flatS f l).2 ≠ 4
 | [], _ => by simp [flatS]
 | x :: r, h => seq_no4 (h x (List.mem_cons_self ..)) (flat_no4 fun y hy => h y (List.mem_cons_of_mem _ hy))
theorem em_no4 (r : Zp × Int) : (emS r).2 ≠ 4 := by
 unfold emS oneS
 split
 · simp
 · split
   · simp
   · assumption
theorem co_no4 {s : Sq} (h : s.2 ≠ 4) : colE s.1 s.2 ≠ 4 := by unfold colE; split <;> omega
theorem seq_len (a b : Sq) : (seqA a b).1.length ≤ a.1.length + b.1.length := by
 unfold seqA; split
 · simp
 · omega
theorem flat_len1 {α : Type} {f : α → Sq} {k : Nat} : ∀ {l : List α}, (∀ x ∈ l, (f x).1.length ≤ k) → (flatS f l).1.length ≤ l.length * k
 | [], _ => by simp [flatS]
 | x :: r, h => by
  have h1 := h x (List.mem_cons_self ..)
  have h2 := flat_len1 fun y hy => h y (List.mem_cons_of_mem _ hy)
  have h3 := seq_len (f x) (flatS f r)
  show (seqA (f x) (flatS f r)).1.length ≤ _
  rw [List.length_cons, Nat.add_mul]
  omega
theorem em_len (r : Zp × Int) : (emS r).1.length ≤ 1 := by
 unfold emS oneS
 split
 · simp
 · split <;> simp
theorem one_len (r : Zp × Int) : (oneS r).1.length ≤ 1 := by unfold oneS; split <;> simp
theorem cutR_ok {n : Nat} {b k : List Int} (hb : VzM n b) (hk : VzM n k) (hkb : Zo.Le n k b) : ∀ {cs : List Con} {r : List Int}, (∀ c ∈ cs, c ∈ rdcL n b) → VzM n r → Zo.Le n k r → (cutR ((n : Int), r) cs).2 ≠ 4 ∧ Ck n (cutR ((n : Int), r) cs).1 ∧ (cutR ((n : Int), r) cs).1.length ≤ cs.length
 | [], r, _, _, _ => ⟨by simp [cutR], Ck.nil _, by simp [cutR]⟩
 | c :: cs, r, hc, hr, hkr => by
  have ov := an_over (c := c) hr hk hkr (fun q => by
   rw [rdc_at hb (hc c (List.mem_cons_self ..))]
   obtain ⟨p1, p2, _⟩ := okC_wl q
   exact hkb _ _ p1 p2)
  have oc : (anP ((n : Int), r) [opC c]).2 = 0 → Ok1 n (anP ((n : Int), r) [opC c]).1 := fun q => an_ok hr.ok q
  have l1 := em_len (anP ((n : Int), r) [opC c])
  have e : cutR ((n : Int), r) (c :: cs) = seqA (emS (anP ((n : Int), r) [opC c])) (if (anP ((n : Int), r) [c]).2 = 0 then cutR (anP ((n : Int), r) [c]).1 cs else ([], (anP ((n : Int), r) [c]).2)) := rfl
  rw [e]
  by_cases q : (anP ((n : Int), r) [c]).2 = 0
  · rw [if_pos q]
    obtain ⟨i1, i2, i3⟩ := cutR_ok hb hk hkb (cs := cs) (fun d hd => hc d (List.mem_cons_of_mem _ hd)) (an_vz hr q) (ov.2 q)
    have el := seq_len (emS (anP ((n : Int), r) [opC c])) (cutR (anP ((n : Int), r) [c]).1 cs)
    refine ⟨seq_no4 (em_no4 _) i1, Ck.seq (Ck.em oc) i2, ?_⟩
    rw [List.length_cons]
    have i3' : (cutR (anP ((n : Int), r) [c]).1 cs).1.length ≤ cs.length := i3
    omega
  · rw [if_neg q]
    have el := seq_len (emS (anP ((n : Int), r) [opC c])) ([], (anP ((n : Int), r) [c]).2)
    refine ⟨seq_no4 (em_no4 _) ov.1, Ck.seq (Ck.em oc) (Ck.nil _), ?_⟩
    rw [List.length_cons]
    simp at el
    omega
theorem cutS_ok {N : Int} {x b : Zp} (hx : Ok1 N x) (hb : Ok1 N b) : (cutS x b (rdcL b.1 b.2)).2 ≠ 4 ∧ Ck N (cutS x b (rdcL b.1 b.2)).1 ∧ (cutS x b (rdcL b.1 b.2)).1.length ≤ 121 := by
 unfold cutS
 split
 · exact ⟨by simp, Ck.one hx, by simp⟩
 · rename_i h4
   split
   · rename_i h0
     obtain ⟨n, rfl, e, v⟩ := hx.vz
     obtain ⟨n', e0, e', v'⟩ := hb.vz
     have : n' = n := by omega
     subst this
     rw [e, e'] at h0 ⊢
     obtain ⟨k1, k2, k3⟩ := mt_vz v v' h0
     obtain ⟨i1, i2, i3⟩ := cutR_ok v' k1 k3 (cs := rdcL (n' : Int) b.2) (fun c hc => hc) v k2
     exact ⟨i1, i2, Nat.le_trans i3 rdc_len⟩
   · exact ⟨h4, Ck.nil _, by simp⟩
theorem rdc_zero {N : Int} {b : Zp} (h : Ok1 N b) : rdcE b.1 b.2 = 0 := by unfold rdcE; rw [if_pos h.1]
theorem woS_ok {N : Int} {b : Zp} {L : List Zp} (hb : Ok1 N b) (hL : Ck N L) : (woS b L).2 ≠ 4 ∧ Ck N (woS b L).1 ∧ (woS b L).1.length ≤ L.length * 121 := by
 unfold woS woC
 rw [if_pos (rdc_zero hb)]
 exact ⟨flat_no4 fun x hx => (cutS_ok (hL x hx) hb).1, Ck.flat fun x hx => (cutS_ok (hL x hx) hb).2.1, flat_len1 fun x hx => (cutS_ok (hL x hx) hb).2.2⟩
theorem mnP_ok {N : Int} : ∀ {M a : List Zp}, Ck N M → Ck N a → (mnP a M).2 ≠ 4 ∧ Ck N (mnP a M).1
 | [], a, _, ha => ⟨by simp [mnP], ha⟩
 | z :: r, a, hM, ha => by
  have k := woS_ok (hM z (List.mem_cons_self ..)) ha
  unfold mnP
  split
  · exact mnP_ok (fun y hy => hM y (List.mem_cons_of_mem _ hy)) k.2.1
  · exact ⟨co_no4 k.1, Ck.nil _⟩
theorem mnP_one_len {N : Int} {a : List Zp} {b : Zp} (hb : Ok1 N b) (ha : Ck N a) : (mnP a [b]).1.length ≤ a.length * 121 := by
 have k := woS_ok hb ha
 unfold mnP
 split
 · exact k.2.2
 · simp
theorem mtS_ok {N : Int} {L M : List Zp} (hL : Ck N L) (hM : Ck N M) : (mtS L M).2 ≠ 4 ∧ Ck N (mtS L M).1 := ⟨flat_no4 fun _ _ => flat_no4 fun _ _ => em_no4 _, Ck.flat fun x hx => Ck.flat fun y hy => Ck.em fun q => mt_ok (hL x hx) (hM y hy) q⟩
theorem mtS_len (g p : Zp) : (mtS [g] [p]).1.length ≤ 1 := by
 unfold mtS mtR
 rw [flatS_one, flatS_one]
 exact em_len _
theorem eaS_dn {N : Int} {L : List Zp} (hL : Ck N L) : (eaS dnP L).2 ≠ 4 ∧ Ck N (eaS dnP L).1 ∧ (eaS dnP L).1.length ≤ L.length * 1 :=
 ⟨flat_no4 fun x hx => by
  unfold oneS
  split
  · simp
  · exact (dn_ok (hL x hx)).1, Ck.flat fun x hx => Ck.ones (dn_ok (hL x hx)).2, flat_len1 fun x _ => one_len _⟩
theorem thE_two {r : List Zp × Int} {k : List Zp → List Zp × Int} (h : (thE r k).2 = 0) : r.2 = 0 ∧ (k r.1).2 = 0 ∧ (thE r k) = k r.1 := by
 unfold thE at h ⊢
 by_cases q : r.2 = 0
 · rw [if_pos q] at h ⊢; exact ⟨q, h, rfl⟩
 · rw [if_neg q] at h; exact absurd h q
theorem thE_no4 {r : List Zp × Int} {k : List Zp → List Zp × Int} (h : r.2 ≠ 4) (hk : r.2 = 0 → (k r.1).2 ≠ 4) : (thE r k).2 ≠ 4 := by
 unfold thE
 split
 · rename_i q; exact hk q
 · exact h
theorem dnR_ok {N : Int} {b : Zp} (hb : Ok1 N b) (h : (dnR b).2 = 0) : Ok1 N (dnP b).1 := (dn_ok hb).2 h
theorem av_ok {N : Int} {g z b : Zp} (hg : Ok1 N g) (hz : Ok1 N z) (hb : Ok1 N b) : (avP g [z] b).2 ≠ 4 ∧ ((avP g [z] b).2 = 0 → Ck N (avP g [z] b).1 ∧ (avP g [z] b).1.length ≤ 2000) := by
 have D1 : (dnR b).2 ≠ 4 := (dn_ok hb).1
 constructor
 · unfold avP
   refine thE_no4 D1 fun q1 => ?_
   have o1 := dnR_ok hb q1
   refine thE_no4 (mnP_ok (Ck.one o1) (Ck.one hz)).1 fun q2 => thE_no4 (co_no4 (mtS_ok (Ck.one hg) (Ck.one o1)).1) fun q3 => thE_no4 (mnP_ok (Ck.one hb) (mtS_ok (Ck.one hg) (Ck.one o1)).2).1 fun q4 => thE_no4 (co_no4 (eaS_dn (mnP_ok (Ck.one hb) (mtS_ok (Ck.one hg) (Ck.one o1)).2).2).1) fun q5 => by simp
 · intro h
   unfold avP at h ⊢
   obtain ⟨q1, h, e1⟩ := thE_two h
   rw [e1]
   have o1 := dnR_ok hb q1
   obtain ⟨q2, h, e2⟩ := thE_two h
   rw [e2]
   obtain ⟨q3, h, e3⟩ := thE_two h
   rw [e3]
   obtain ⟨q4, h, e4⟩ := thE_two h
   rw [e4]
   obtain ⟨q5, h, e5⟩ := thE_two h
   rw [e5]
   have m1 := mtS_ok (Ck.one hg) (Ck.one o1)
   have m2 := mnP_ok (Ck.one hb) m1.2
   have m3 := eaS_dn m2.2
   have n1 := mnP_ok (Ck.one o1) (Ck.one hz)
   have l1 := mnP_one_len o1 (Ck.one hz)
   have l2 := mnP_one_len hb m1.2
   have l3 := mtS_len g (dnP b).1
   have l4 := m3.2.2
   refine ⟨n1.2.app m3.2.1, ?_⟩
   show ((mnP [z] [(dnP b).1]).1 ++ (eaS dnP (mnP (mtS [g] [(dnP b).1]).1 [b]).1).1).length ≤ 2000
   rw [List.length_append]
   simp only [List.length_cons, List.length_nil] at l1
   have l5 : (mtS [g] [(dnP b).1]).1.length * 121 ≤ 1 * 121 := Nat.mul_le_mul l3 (Nat.le_refl _)
   omega
section
variable {n : Nat} {D : Int} {X : Nat → Int}
theorem rdc_in {z : Zp} (hp : Zo.Pt n D X 1099511627776) (h : Ok1 (n : Int) z) : InZ n D X z ↔ ∀ c ∈ rdcL (n : Int) z.2, mtc D X c := by
 obtain ⟨_, v⟩ := h.vzn
 have w : Vz n z.2 := ⟨v.hn, v.hl, v.hc⟩
 have e : rdcL (n : Int) z.2 = redL n z.2 := by unfold rdcL; rw [if_pos v.hc, Int.toNat_natCast]
 rw [e]
 obtain ⟨_, f2, f3⟩ := bum_facts n (by have := v.hn; omega)
 have hml : (buM (n : Int)).length = (n + 1) * (n + 1) := by unfold buM; rw [Zo.clo_length]; simp
 have f3' : ∀ a b, a ≤ n → b ≤ n → Zo.At n (buM (n : Int)) a b = if a = b ∨ a = 0 then 1 else 1099511627776 := fun a b ha hb => f3 a (by omega) b (by omega)
 have tm : Zo.Top n (buM (n : Int)) := ⟨hml, fun i j hi hj => by rw [f3' i j hi hj]; split <;> omega⟩
 have im : Zo.In n (buM (n : Int)) D X := fun i j hi hj => by
  rw [f3' i j hi hj]
  split
  · rename_i q
    refine Zo.mt_one.2 ?_
    rcases q with q | q
    · subst q; omega
    · subst q
      have := hp.zero
      have := hp.low j hj
      omega
  · exact Zo.mt_none _ _
 have b := (bu_of w (cs := redL n z.2) fun c hc => red_mem.1 hc).1
 have hb := (back_all w).2
 have hok : ∀ t, t < (redL n z.2).length → okC n (gc (redL n z.2) t) = true := fun t ht => fr_ok w (red_mem.1 (gc_mem ht))
 have e2 : z.2 = Zo.clo n (anL n (redL n z.2) (buM (n : Int))) := by
  have : buL (n : Int) (redL n z.2) = Zo.clo n (anL n (redL n z.2) (buM (n : Int))) := by unfold buL; rw [Int.toNat_natCast]
  rw [← this, hb]
 have key : Zo.In n z.2 D X ↔ Zo.In n (anL n (redL n z.2) (buM (n : Int))) D X := by
  have := clo_in (n := n) (l := anL n (redL n z.2) (buM (n : Int))) hp (by omega) ⟨b.len, b.top⟩
  rw [← e2] at this
  exact this
 unfold InZ
 rw [key, an_in hp.pos tm hok]
 constructor
 · rintro ⟨_, q⟩ c hc
   obtain ⟨t, ht, rfl⟩ := List.getElem_of_mem hc
   have := q t ht
   rw [show gc (redL n z.2) t = (redL n z.2)[t] by simp [gc, ht]] at this
   exact this
 · intro q
   exact ⟨im, fun t ht => q _ (gc_mem ht)⟩
theorem cutS_in {x b : Zp} (hp : Zo.Pt n D X 1099511627776) (h : Ok1 (n : Int) x) (k : Ok1 (n : Int) b) (q : (cutS x b (rdcL b.1 b.2)).2 = 0) : AnyZ n D X (cutS x b (rdcL b.1 b.2)).1 ↔ InZ n D X x ∧ ¬ InZ n D X b := by
 have e : b.1 = (n : Int) := k.2
 rw [e] at q ⊢
 unfold cutS at q ⊢
 by_cases h4 : (mtP x b).2 = 4
 · rw [if_pos h4, any_one]
   exact ⟨fun a => ⟨a, fun c => (mt_in hp h k).2 h4 ⟨a, c⟩⟩, fun a => a.1⟩
 · rw [if_neg h4] at q ⊢
   by_cases h0 : (mtP x b).2 = 0
   · rw [if_pos h0] at q ⊢
     rw [cut_in hp h (fun c hc => (rdc_ok hc).2) q, rdc_in hp k]
     constructor
     · rintro ⟨a, c, hc, d⟩
       exact ⟨a, fun f => d (f c hc)⟩
     · rintro ⟨a, d⟩
       refine ⟨a, ?_⟩
       by_cases f : ∃ c ∈ rdcL (n : Int) b.2, ¬ mtc D X c
       · exact f
       · exact absurd (fun c hc => by
          by_cases m : mtc D X c
          · exact m
          · exact absurd ⟨c, hc, m⟩ f) d
   · rw [if_neg h0] at q
     exact absurd q h0
theorem flat_in {α : Type} {f : α → Sq} {P : α → Prop} : ∀ {l : List α}, (∀ x ∈ l, (f x).2 = 0 → (AnyZ n D X (f x).1 ↔ P x)) → (flatS f l).2 = 0 → (AnyZ n D X (flatS f l).1 ↔ ∃ x ∈ l, P x)
 | [], _, _ => ⟨fun h => absurd h any_nil, fun ⟨_, h, _⟩ => by simp at h⟩
 | x :: r, h, q => by
  unfold flatS at q ⊢
  rw [any_seq q]
  obtain ⟨q1, q2⟩ := seqA_ok q
  rw [h x (List.mem_cons_self ..) q1, flat_in (fun y hy => h y (List.mem_cons_of_mem _ hy)) q2]
  constructor
  · rintro (a | ⟨y, hy, a⟩)
    · exact ⟨x, List.mem_cons_self .., a⟩
    · exact ⟨y, List.mem_cons_of_mem _ hy, a⟩
  · rintro ⟨y, hy, a⟩
    rcases List.mem_cons.1 hy with rfl | hy
    · exact Or.inl a
    · exact Or.inr ⟨y, hy, a⟩
theorem woS_in {b : Zp} {L : List Zp} (hp : Zo.Pt n D X 1099511627776) (hL : Ck (n : Int) L) (k : Ok1 (n : Int) b) (q : (woS b L).2 = 0) : AnyZ n D X (woS b L).1 ↔ AnyZ n D X L ∧ ¬ InZ n D X b := by
 unfold woS at q ⊢
 split
 · rename_i e
   rw [if_pos e] at q
   unfold woC at q ⊢
   rw [flat_in (P := fun x => InZ n D X x ∧ ¬ InZ n D X b) (fun x hx hq => cutS_in hp (hL x hx) k hq) q]
   exact ⟨fun ⟨x, h1, h2, h3⟩ => ⟨⟨x, h1, h2⟩, h3⟩, fun ⟨⟨x, h1, h2⟩, h3⟩ => ⟨x, h1, h2, h3⟩⟩
 · rename_i e
   rw [if_neg e] at q
   exact absurd q e
theorem mnP_in (hp : Zo.Pt n D X 1099511627776) : ∀ {M L : List Zp}, Ck (n : Int) L → Ck (n : Int) M → (mnP L M).2 = 0 → (AnyZ n D X (mnP L M).1 ↔ AnyZ n D X L ∧ ¬ AnyZ n D X M)
 | [], L, _, _, _ => ⟨fun h => ⟨h, any_nil⟩, fun h => h.1⟩
 | b :: r, L, hL, hM, q => by
  have hb := hM b (List.mem_cons_self ..)
  unfold mnP at q ⊢
  split
  · rename_i e
    rw [if_pos e] at q
    have e0 : (woS b L).2 = 0 := (colE_zero e).2
    rw [mnP_in hp (woS_ok hb hL).2.1 (fun y hy => hM y (List.mem_cons_of_mem _ hy)) q, woS_in hp hL hb e0]
    constructor
    · rintro ⟨⟨a, c⟩, d⟩
      refine ⟨a, ?_⟩
      rintro ⟨y, hy, f⟩
      rcases List.mem_cons.1 hy with rfl | hy
      · exact c f
      · exact d ⟨y, hy, f⟩
    · rintro ⟨a, c⟩
      exact ⟨⟨a, fun f => c ⟨b, List.mem_cons_self .., f⟩⟩, fun ⟨y, hy, f⟩ => c ⟨y, List.mem_cons_of_mem _ hy, f⟩⟩
  · rename_i e
    rw [if_neg e] at q
    exact absurd q e
theorem mtS_in {L M : List Zp} (hp : Zo.Pt n D X 1099511627776) (hL : Ck (n : Int) L) (hM : Ck (n : Int) M) (q : (mtS L M).2 = 0) : AnyZ n D X (mtS L M).1 ↔ AnyZ n D X L ∧ AnyZ n D X M := by
 unfold mtS at q ⊢
 rw [flat_in (P := fun x => InZ n D X x ∧ AnyZ n D X M) (fun x hx hq => by
  unfold mtR at hq ⊢
  rw [flat_in (P := fun y => InZ n D X x ∧ InZ n D X y) (fun y hy hr => em_in (mt_in hp (hL x hx) (hM y hy)).1 (mt_in hp (hL x hx) (hM y hy)).2 hr) hq]
  exact ⟨fun ⟨y, h1, h2, h3⟩ => ⟨h2, y, h1, h3⟩, fun ⟨h2, y, h1, h3⟩ => ⟨y, h1, h2, h3⟩⟩) q]
 exact ⟨fun ⟨x, h1, h2, h3⟩ => ⟨⟨x, h1, h2⟩, h3⟩, fun ⟨⟨x, h1, h2⟩, h3⟩ => ⟨x, h1, h2, h3⟩⟩
end
def haS (ps : List Pq) (L : List Zp) : Bool × Int := anyZ (fun z => hsR z.1 z.2 ps) (fun z => rdE z.1 z.2 ps) L
theorem one_list {L : List ZV} {go po : Option Addr} {gc pn pc : Nat} {w w3 : World} (hL : RdW w go L) (h1 : go = none → gc = 0)
  (hw : w3 = ((w.alloc (.cells #[.slice go L.length gc] 22)).alloc (.cells #[.slice po pn pc] 40)).alloc (.cells #[.slice go L.length gc] 22)) :
  Below w.heap.size w w3 ∧ Bx1 w3 w.heap.size (.slice go L.length gc) 22 ∧ Bx1 w3 (w.heap.size + 1) (.slice po pn pc) 40 ∧ RdGW w3 (some ⟨w.heap.size + 2, 0, none⟩) [L] := by
 have B : Below w.heap.size w w3 := by rw [hw]; exact past_three (Below.refl _ _)
 have X2 : Bx1 w3 (w.heap.size + 2) (.slice go L.length gc) 22 := by
  rw [hw]
  have := Bx1.made ((w.alloc (.cells #[.slice go L.length gc] 22)).alloc (.cells #[.slice po pn pc] 40)) (.slice go L.length gc) 22
  rw [World.size_alloc, World.size_alloc] at this
  exact this
 refine ⟨B, ?_, ?_, ⟨fun t ht => ?_⟩⟩
 · rw [hw]; exact ((Bx1.made w _ _).kept (one_more _)).kept (one_more _)
 · rw [hw]
   have := Bx1.made (w.alloc (.cells #[.slice go L.length gc] 22)) (.slice po pn pc) 40
   rw [World.size_alloc] at this
   exact this.kept (one_more _)
 · match t, ht with
   | 0, _ => exact ⟨_, go, gc, rfl, by rw [addr_add]; exact X2.cell, hL.on B, h1⟩
set_option maxRecDepth 100000 in
theorem fhas1_any (L : List ZV) (go : Option Addr) (gc pa pb : Nat) (ps : List Pq) (po : Option Addr) (pc : Nat) (W : World) (c0 : W.cell? ⟨pa, 0, none⟩ = some (.slice go L.length gc)) (c1 : W.cell? ⟨pb, 0, none⟩ = some (.slice po ps.length pc)) (hL : RdW W go L) (hl : L.length ≤ 3000) (hP : Arg2 W po ps) (hI : Fits ps) (hN : po = none → pc = 0) :
  Calls Tryz.prog 70 #[.pointer (some ⟨pa, 0, none⟩), .pointer (some ⟨pb, 0, none⟩)] W (fun e W' => ((haS ps (L.map ZV.p)).2 = 0 ∧ ∃ v, e = .returned v ∧ v = .bool (haS ps (L.map ZV.p)).1 ∧ Below W.heap.size W W') ∨ ((haS ps (L.map ZV.p)).2 ≠ 0 ∧ e = .panicked (pan (haS ps (L.map ZV.p)).2) ∧ Below W.heap.size W W')) := by
 have CN := Lib.hid (conZ_any L go gc (.func (.func 72) #[] #[.pointer (some ⟨pb, 0, none⟩)]) (fun z => hsR z.1 z.2 ps) (fun z => rdE z.1 z.2 ps) W (by omega) hL ⟨_, _, rfl, fclosure _ Tryz.func72 (by kernel_rfl) rfl, fun V hV x hx => by
  have := fhas11_any x.N x.l x.a x.c pb ps po pc V ((hL.el x hx).on hV).1 (hP.on hV) hI hN (kept hV c1)
  exact this⟩)
 have hmf : ∀ (fn : Go.Fn) (first cap : Array Value) (w : World), (Instr.makeFunc fn first cap).run Tryz.prog w = .ok (.func fn first cap) w := fun _ _ _ _ => rfl
 unfold CnZ at CN
 unfold haS
 generalize anyZ (fun z => hsR z.1 z.2 ps) (fun z => rdE z.1 z.2 ps) (L.map ZV.p) = r at *
 obtain ⟨bb, er⟩ := r
 generalize L.length = n at *
 clear hL hl hP hI hN c1
 go_enter Tryz.func70, Tryz.ntmps70
 go_wp2_with fail
 refine CN.out.mono ?_
 rintro e w2 ⟨hb, (⟨h1, rfl⟩ | ⟨h1, rfl⟩)⟩
 · have HB := Lib.hid hb
   have H1 := Lib.hid h1
   clear hb h1 CN
   go_wp2_with fail
   go_ret
   exact Or.inl ⟨H1.out, _, rfl, rfl, HB.out⟩
 · exact And.intro rfl (Or.inr ⟨h1, rfl, hb⟩)
def haR (ps : List Pq) (L : List Zp) : Bool × Int := if ansE [L] (haS ps L).2 = 0 then ((haS ps L).1, 0) else (false, ansE [L] (haS ps L).2)
set_option maxRecDepth 100000 in
theorem fhasW_out (L : List ZV) (go : Option Addr) (gc : Nat) (ps : List Pq) (po : Option Addr) (pc : Nat) (w : World) (hL : RdW w go L) (h1 : go = none → gc = 0) (hl : L.length ≤ 3000) (hP : Arg2 w po ps) (hI : Fits ps) (hN : po = none → pc = 0) :
  Calls Tryz.prog 29 #[.slice go L.length gc, .slice po ps.length pc] w (Made (.tuple #[.bool (haR ps (L.map ZV.p)).1, .int .i64 (haR ps (L.map ZV.p)).2]) w) := by
 obtain ⟨w3, hw3⟩ : ∃ w3, w3 = ((w.alloc (.cells #[.slice go L.length gc] 22)).alloc (.cells #[.slice po ps.length pc] 40)).alloc (.cells #[.slice go L.length gc] 22) := ⟨_, rfl⟩
 obtain ⟨t1, t2, t3, t4⟩ := one_list hL h1 hw3
 have B3 := Lib.hid t1
 have AN := Lib.hid (answerBW_any 70 #[.pointer (some ⟨w.heap.size, 0, none⟩), .pointer (some ⟨w.heap.size + 1, 0, none⟩)] [L] (some ⟨w.heap.size + 2, 0, none⟩) 1 (haS ps (L.map ZV.p)).2 w3 t4 (by simp) (by intro X hX; simp at hX; subst hX; exact hl) (fclosure _ Tryz.func70 (by kernel_rfl) rfl) (fun _ v _ => v = .bool (haS ps (L.map ZV.p)).1) (fun _ _ _ _ _ h _ => h) (fun _ W hW => fhas1_any L go gc w.heap.size (w.heap.size + 1) ps po pc W (t2.kept hW).cell (t3.kept hW).cell ((hL.on t1).on hW) hl ((hP.on t1).on hW) hI hN))
 simp only [List.map_cons, List.map_nil, List.length_cons, List.length_nil, Nat.zero_add] at AN
 unfold haR
 generalize haS ps (L.map ZV.p) = r at *
 obtain ⟨bb, er⟩ := r
 unfold AnsRes at AN
 generalize ansE [L.map ZV.p] er = ae at *
 obtain ⟨rr, hrr⟩ : ∃ rr : Bool × Int, rr = (if ae = 0 then (bb, 0) else (false, ae)) := ⟨_, rfl⟩
 rw [← show rr = (if ae = 0 then ((bb, er).1, 0) else (false, ae)) from hrr]
 have HRR := Lib.hid hrr
 clear hrr
 generalize hLl : L.length = n at *
 generalize hPl : ps.length = pn at *
 clear hL h1 t1 t2 t3 t4 hl hLl hP hI hN hPl
 go_enter Tryz.func29, Tryz.ntmps29
 go_wp2_with fail
 rw [← hw3]
 refine AN.out.mono ?_
 intro e w4 h
 rcases h.2 with ⟨e1, W, v, e2, rfl, hv⟩ | ⟨e1, rfl⟩
 · have HB := Lib.hid (below_on B3.out h.1)
   have E1 := Lib.hid (show rr = (bb, 0) by rw [HRR.out, if_pos e1])
   subst hv
   clear h e1 e2 AN
   go_wp2_with fail
   go_ret2
   refine ⟨?_, HB.out⟩
   rw [E1.out]; rfl
 · have HB := Lib.hid (below_on B3.out h.1)
   have E1 := Lib.hid (show rr = (false, ae) by rw [HRR.out, if_neg e1])
   clear h e1 AN
   go_wp2_with fail
   go_ret2
   refine ⟨?_, HB.out⟩
   rw [E1.out]; rfl
theorem haS_eq {ps : List Pq} : ∀ {L : List Zp}, (haS ps L).2 = (hsL ps L).2 ∧ ((hsL ps L).2 = 0 → (haS ps L).1 = (hsL ps L).1) ∧ ((hsL ps L).2 ≠ 0 → (hsL ps L).1 = false)
 | [] => ⟨rfl, fun _ => rfl, fun h => absurd rfl h⟩
 | z :: r => by
  have ih := haS_eq (ps := ps) (L := r)
  unfold haS at ih ⊢
  unfold anyZ hsL
  by_cases he : rdE z.1 z.2 ps = 0
  · rw [if_neg (fun q => q he)]
    cases hb : hsR z.1 z.2 ps with
    | true => 
     rw [if_pos rfl, if_neg (fun q => by cases q.2)]
     exact ⟨he.symm, fun _ => rfl, fun h => absurd he h⟩
    | false =>
     rw [if_neg (by simp), if_pos ⟨he, rfl⟩]
     exact ih
  · have hb : hsR z.1 z.2 ps = false := by unfold hsR; simp [he]
    rw [if_pos he, if_neg (fun q => he q.1), hb]
    exact ⟨rfl, fun _ => rfl, fun _ => rfl⟩
theorem haR_eq {ps : List Pq} {L : List Zp} : haR ps L = hsF ps L := by
 unfold haR hsF
 have e : ansE [L] (haS ps L).2 = if rchk L = 0 then (haS ps L).2 else rchk L := by
  unfold ansE
  rw [show chkG [L] = rchk L from by unfold chkG rchk; simp]
 rw [e]
 obtain ⟨h1, h2, h3⟩ := haS_eq (ps := ps) (L := L)
 by_cases c : rchk L = 0
 · rw [if_pos c, if_pos c, h1]
   by_cases d : (hsL ps L).2 = 0
   · rw [if_pos d, h2 d]
     exact Prod.ext rfl d.symm
   · rw [if_neg d]
     exact Prod.ext (h3 d).symm rfl
 · rw [if_neg c, if_neg c, if_neg c]
section
variable {n : Nat} {D : Int} {X : Nat → Int}
end
section
variable {n : Nat} {D : Int} {X : Nat → Int}
end
theorem hsL_in {n : Nat} {D : Int} {X : Nat → Int} {ps : List Pq} (ho : Ov D X ps) (hr : ∀ l, chkE n l = 0 → rdE n l ps = 0) : ∀ {L : List Zp}, Ck (n : Int) L → (hsL ps L).2 = 0 ∧ ((hsL ps L).1 = true ↔ AnyZ n D X L)
 | [], _ => ⟨rfl, ⟨fun h => by simp [hsL] at h, fun h => absurd h any_nil⟩⟩
 | z :: r, h => by
  have hz := h z (List.mem_cons_self ..)
  have ih := hsL_in ho hr (L := r) (fun y hy => h y (List.mem_cons_of_mem _ hy))
  have e0 : rdE z.1 z.2 ps = 0 := by rw [hz.2]; exact hr _ (by rw [← hz.2]; exact hz.1)
  have hi : hsR z.1 z.2 ps = true ↔ InZ n D X z := by
   rw [hz.2]
   exact has_in (by rw [← hz.2]; exact e0) ho
  unfold hsL
  cases b : hsR z.1 z.2 ps with
  | false =>
   rw [if_pos ⟨e0, rfl⟩]
   refine ⟨ih.1, ih.2.trans ⟨fun ⟨y, hy, q⟩ => ⟨y, List.mem_cons_of_mem _ hy, q⟩, fun ⟨y, hy, q⟩ => ?_⟩⟩
   rcases List.mem_cons.1 hy with rfl | hy
   · rw [hi.2 q] at b; cases b
   · exact ⟨y, hy, q⟩
  | true =>
   rw [if_neg (fun q => by cases q.2)]
   exact ⟨e0, fun _ => ⟨z, List.mem_cons_self .., hi.1 b⟩, fun _ => rfl⟩
theorem hsF_in {n : Nat} {D : Int} {X : Nat → Int} {ps : List Pq} (ho : Ov D X ps) (hr : ∀ l, chkE n l = 0 → rdE n l ps = 0) {L : List Zp} (hc : rchk L = 0) (hL : Ck (n : Int) L) : (hsF ps L).2 = 0 ∧ ((hsF ps L).1 = true ↔ AnyZ n D X L) := by
 unfold hsF
 rw [if_pos hc]
 exact hsL_in ho hr hL
theorem hsF_chk {ps : List Pq} {L : List Zp} (h : (hsF ps L).2 = 0) : rchk L = 0 ∧ ∀ z r, L = z :: r → rdE z.1 z.2 ps = 0 := by
 unfold hsF at h
 by_cases c : rchk L = 0
 · rw [if_pos c] at h
   refine ⟨c, ?_⟩
   rintro z r rfl
   unfold hsL at h
   split at h
   · rename_i q; exact q.1
   · exact h
 · rw [if_neg c] at h
   exact absurd h c
theorem rchk_ck {L : List Zp} (h : rchk L = 0) : L.length ≤ 2000 ∧ Ck (L.headD (0, [])).1 L := by
 unfold rchk at h
 split at h
 · cases h
 · exact ⟨by omega, fun z hz => (ckL_iff.1 h) z hz⟩
section
variable {N : Int} {l : List Zp} (hC : Ck N l)
include hC
end
theorem ck_of {L : List Zp} (h : rchk L = 0) : ∃ N, Ck N L := by
 refine ⟨(L.headD (0, [])).1, ?_⟩
 unfold rchk at h
 split at h
 · cases h
 · exact fun z hz => (ckL_iff.1 h) z hz
set_option maxRecDepth 100000 in
theorem rdown_bad (L : List ZV) (go : Option Addr) (gc : Nat) (w : World) (hL : RdW w go L) (hl : L.length ≤ 1000000) (hbad : rchk (L.map ZV.p) ≠ 0) :
  Calls Tryz.prog 26 #[.slice go L.length gc] w (fun e w' => Below w.heap.size w w' ∧ e = .returned (.tuple #[.slice none 0 0, .int .i64 (rchk (L.map ZV.p))])) := by
 have BO := Lib.hid (rcheckW_any L go gc w hL hl)
 generalize L.length = n at *
 clear hL hl
 obtain ⟨c, hc0⟩ : ∃ c, c = rchk (L.map ZV.p) := ⟨_, rfl⟩
 rw [← hc0] at BO hbad ⊢
 have h0b : (c != 0) = true := by simpa using hbad
 clear hc0
 go_enter Tryz.func26, Tryz.ntmps26
 go_wp2_with fail
 refine BO.out.mono ?_
 rintro e w1 ⟨rfl, hb⟩
 have B1 := Lib.hid hb
 clear hb BO
 go_wp2_with fail
 go_ret2
 exact ⟨B1.out, rfl⟩
theorem rdownW_any (L : List ZV) (go : Option Addr) (gc : Nat) (w : World) (hL : RdW w go L) (hl : L.length ≤ 1000000) (_ : go = none → gc = 0) :
  Calls Tryz.prog 26 #[.slice go L.length gc] w (RsL (peR dnP (L.map ZV.p)) w) := by
 by_cases h : rchk (L.map ZV.p) = 0
 · obtain ⟨N, hN⟩ := ck_of h
   have st := hL.strong (chk_ne fun z hz => (hN z.p (List.mem_map.2 ⟨z, hz, rfl⟩)).1)
   have e := ua_pe (f := dnP) (L := L.map ZV.p) fun z hz => (dn_ok (hN z hz)).1
   rw [← e]
   exact (rdown_any L go gc w st hl).mono fun _ _ h => h.rs
 · refine (rdown_bad L go gc w hL hl h).mono ?_
   rintro e w' ⟨hb, rfl⟩
   have e1 : (peR dnP (L.map ZV.p)).2 = rchk (L.map ZV.p) := by
    show ansE [L.map ZV.p] _ = _
    rw [ansE_bad (by rw [chkG_one]; exact h), chkG_one]
   rw [← e1]
   exact rs_nil hb (by rw [e1]; exact h)
end Go.Proofs.YthjapmdfcbngmaaGreat
