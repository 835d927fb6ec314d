/- A part. -/
import Derived.Test.YtaegiihkgicdnaaGreatWl47
import Derived.Test.YtaegiihkgicdnaaGreatWl19
import Derived.Test.YtaegiihkgicdnaaGreatWl48
import Derived.Test.YtaegiihkgicdnaaGreatWl42

namespace Go.Proofs.YtaegiihkgicdnaaGreat
open Go.RowKit

def Ok1 (N : Int) (z : Zp) : Prop := chkE z.1 z.2 = 0 ∧ z.1 = N

def Ck (N : Int) (L : List Zp) : Prop := ∀ z ∈ L, Ok1 N z

theorem Ck.app {N : Int} {a b : List Zp} (h : Ck N a) (k : Ck N b) : Ck N (a ++ b) := fun z hz => (List.mem_append.1 hz).elim (h z) (k z)

theorem Ck.one {N : Int} {z : Zp} (h : Ok1 N z) : Ck N [z] := fun y hy => by rw [List.mem_singleton] at hy; subst hy; exact h

structure VzM (n : Nat) (l : List Int) : Prop where
  hn : n ≤ 10
  hl : l.length = (n + 1) * (n + 1)
  hc : chkE (n : Int) l = 0

theorem Ok1.vz {N : Int} {z : Zp} (h : Ok1 N z) : ∃ n : Nat, N = n ∧ z = ((n : Int), z.2) ∧ VzM n z.2 := by
  obtain ⟨n, e, hn, hl, _⟩ := chk_ok h.1
  refine ⟨n, h.2.symm.trans e, by rw [← e], hn, hl, ?_⟩
  rw [← e]; exact h.1

theorem VzM.ok {n : Nat} {l : List Int} (h : VzM n l) : Ok1 (n : Int) ((n : Int), l) := ⟨h.hc, rfl⟩

theorem VzM.wl {n : Nat} {l : List Int} (h : VzM n l) : ∀ a b, a ≤ n → b ≤ n → Zo.Wl (Zo.At n l a b) := wl_of h.hl (chk_64 h.hc).2

theorem VzM.cl {n : Nat} {l : List Int} (h : VzM n l) : ∃ D, Zo.Cl n l D := chk_cl h.hn h.hl h.hc

theorem vz_clo {n : Nat} {l : List Int} (hn : n ≤ 10) (hl : l.length = (n + 1) * (n + 1)) (hv : ∀ a b, a ≤ n → b ≤ n → Zo.Wl (Zo.At n l a b)) (h : cloE n l = 0) : VzM n (Zo.clo n l) := ⟨hn, by rw [Zo.clo_length, hl], clo_chk hn hl hv h⟩

theorem over_no4 {n : Nat} {l c : List Int} (hn : n ≤ 10) (hl : l.length = (n + 1) * (n + 1)) (hv : ∀ a b, a ≤ n → b ≤ n → Zo.Wl (Zo.At n l a b)) (hc : VzM n c) (h : Zo.Le n c l) : cloE n l ≠ 4 ∧ Zo.Le n c (Zo.clo n l) := by
  obtain ⟨D, hD⟩ := hc.cl
  obtain ⟨k1, k2⟩ := Zo.clo_over hn hl hv hD h
  refine ⟨?_, k2⟩
  unfold cloE
  rw [cloB_iff.2 k1]
  simp only [Bool.false_eq_true, if_false]
  split <;> omega

theorem wl_one : Zo.Wl 1 := by unfold Zo.Wl; omega

theorem wl_top : Zo.Wl 1099511627776 := by unfold Zo.Wl; omega

theorem chk_row {n : Nat} {l : List Int} (h : VzM n l) {a : Nat} (ha : a ≤ n) : Zo.At n l 0 a ≤ 1 := by
  obtain ⟨D, hD⟩ := h.cl
  exact hD.row a ha

theorem VzM.top {n : Nat} {l : List Int} (h : VzM n l) {a b : Nat} (ha : a ≤ n) (hb : b ≤ n) : Zo.At n l a b ≤ 1099511627776 := by
  obtain ⟨D, hD⟩ := h.cl
  exact hD.top ha hb

theorem dn_vz {n : Nat} {l : List Int} (h : VzM n l) : dnE n l ≠ 4 ∧ (dnE n l = 0 → VzM n (Zo.clo n (dnL n l))) := by
  have e : dnE (n : Int) l = cloE n (dnL n l) := by unfold dnE; rw [if_pos h.hc]; simp
  have hl : (dnL n l).length = (n + 1) * (n + 1) := by rw [dnL_len, h.hl]
  have hv : ∀ a b, a ≤ n → b ≤ n → Zo.Wl (Zo.At n (dnL n l) a b) := fun a b ha hb => by
    rw [dnL_at h.hl ha hb]; split
    · exact wl_one
    · exact h.wl a b ha hb
  rw [e]
  refine ⟨(over_no4 h.hn hl hv h fun a b ha hb => ?_).1, fun q => vz_clo h.hn hl hv q⟩
  rw [dnL_at h.hl ha hb]; split
  · rename_i q; rw [q.1]; exact chk_row h hb
  · exact Int.le_refl _

theorem up_vz {n : Nat} {l : List Int} (h : VzM n l) : upE n l ≠ 4 ∧ (upE n l = 0 → VzM n (Zo.clo n (upL n l))) := by
  have e : upE (n : Int) l = cloE n (upL n l) := by unfold upE; rw [if_pos h.hc]; simp
  have hl : (upL n l).length = (n + 1) * (n + 1) := by rw [upL_len, h.hl]
  have hv : ∀ a b, a ≤ n → b ≤ n → Zo.Wl (Zo.At n (upL n l) a b) := fun a b ha hb => by
    rw [upL_at h.hl ha hb]; split
    · exact wl_top
    · exact h.wl a b ha hb
  rw [e]
  refine ⟨(over_no4 h.hn hl hv h fun a b ha hb => ?_).1, fun q => vz_clo h.hn hl hv q⟩
  rw [upL_at h.hl ha hb]; split
  · exact h.top ha hb
  · exact Int.le_refl _

theorem dn_ok {N : Int} {z : Zp} (h : Ok1 N z) : (dnP z).2 ≠ 4 ∧ ((dnP z).2 = 0 → Ok1 N (dnP z).1) := by
  obtain ⟨n, rfl, e, v⟩ := h.vz
  rw [e]
  obtain ⟨k1, k2⟩ := dn_vz v
  exact ⟨k1, fun q => (k2 q).ok⟩

theorem up_ok {N : Int} {z : Zp} (h : Ok1 N z) : (upP z).2 ≠ 4 ∧ ((upP z).2 = 0 → Ok1 N (upP z).1) := by
  obtain ⟨n, rfl, e, v⟩ := h.vz
  rw [e]
  obtain ⟨k1, k2⟩ := up_vz v
  exact ⟨k1, fun q => (k2 q).ok⟩

theorem me_fold1 (l m : List Int) : ∀ s, s ≤ l.length → ((List.range s).foldl (meS m) l).length = l.length ∧ ∀ k, Zo.gt ((List.range s).foldl (meS m) l) k = if k < s then imin (Zo.gt l k) (Zo.gt m k) else Zo.gt l k := by
  intro s
  induction s with
  | zero => intro _; exact ⟨rfl, fun k => by simp⟩
  | succ s ih =>
    intro hs
    obtain ⟨h1, h2⟩ := ih (by omega)
    rw [Zo.fold_succ]
    generalize (List.range s).foldl (meS m) l = u at *
    refine ⟨by simp [meS, h1], fun k => ?_⟩
    unfold meS
    rw [Zo.gt_set _ (by omega)]
    by_cases c : k = s
    · subst c
      rw [if_pos rfl, if_pos (by omega), h2 k, if_neg (by omega)]
    · rw [if_neg c, h2 k]
      by_cases d : k < s
      · rw [if_pos d, if_pos (by omega)]
      · rw [if_neg d, if_neg (by omega)]

theorem hu_fold1 (l m : List Int) : ∀ s, s ≤ l.length → ((List.range s).foldl (huS m) l).length = l.length ∧ ∀ k, Zo.gt ((List.range s).foldl (huS m) l) k = if k < s then imax (Zo.gt l k) (Zo.gt m k) else Zo.gt l k := by
  intro s
  induction s with
  | zero => intro _; exact ⟨rfl, fun k => by simp⟩
  | succ s ih =>
    intro hs
    obtain ⟨h1, h2⟩ := ih (by omega)
    rw [Zo.fold_succ]
    generalize (List.range s).foldl (huS m) l = u at *
    refine ⟨by simp [huS, h1], fun k => ?_⟩
    unfold huS
    rw [Zo.gt_set _ (by omega)]
    by_cases c : k = s
    · subst c
      rw [if_pos rfl, if_pos (by omega), h2 k, if_neg (by omega)]
    · rw [if_neg c, h2 k]
      by_cases d : k < s
      · rw [if_pos d, if_pos (by omega)]
      · rw [if_neg d, if_neg (by omega)]

theorem me_at1 {n : Nat} {l m : List Int} (hl : l.length = (n + 1) * (n + 1)) {a b : Nat} (ha : a ≤ n) (hb : b ≤ n) : Zo.At n (meL l m) a b = imin (Zo.At n l a b) (Zo.At n m a b) := by
  unfold meL Zo.At
  rw [(me_fold1 l m l.length (Nat.le_refl _)).2, if_pos (by rw [hl]; exact Zo.ix_lt ha hb)]

theorem hu_at1 {n : Nat} {l m : List Int} (hl : l.length = (n + 1) * (n + 1)) {a b : Nat} (ha : a ≤ n) (hb : b ≤ n) : Zo.At n (huL l m) a b = imax (Zo.At n l a b) (Zo.At n m a b) := by
  unfold huL Zo.At
  rw [(hu_fold1 l m l.length (Nat.le_refl _)).2, if_pos (by rw [hl]; exact Zo.ix_lt ha hb)]

theorem wl_min {x y : Int} (h : Zo.Wl x) (k : Zo.Wl y) : Zo.Wl (imin x y) := by unfold imin; unfold Zo.Wl at *; omega

theorem wl_max {x y : Int} (h : Zo.Wl x) (k : Zo.Wl y) : Zo.Wl (imax x y) := by unfold imax; unfold Zo.Wl at *; omega

theorem tw_vz {n : Nat} {l m : List Int} (h : VzM n l) (k : VzM n m) : twB n n l m = true := by unfold twB; simp [h.hc, k.hc]

theorem mt_vz {n : Nat} {l m : List Int} (h : VzM n l) (k : VzM n m) (q : zmE n n l m = 0) : VzM n (Zo.clo n (meL l m)) ∧ Zo.Le n (Zo.clo n (meL l m)) l ∧ Zo.Le n (Zo.clo n (meL l m)) m := by
  have e : zmE (n : Int) n l m = cloE n (meL l m) := by unfold zmE; rw [if_pos (tw_vz h k)]; simp
  have hl : (meL l m).length = (n + 1) * (n + 1) := by rw [meL_len, h.hl]
  have hv : ∀ a b, a ≤ n → b ≤ n → Zo.Wl (Zo.At n (meL l m) a b) := fun a b ha hb => by
    rw [me_at1 h.hl ha hb]; exact wl_min (h.wl a b ha hb) (k.wl a b ha hb)
  have le : Zo.Le n (Zo.clo n (meL l m)) (meL l m) := Zo.le_clo hl
  refine ⟨vz_clo h.hn hl hv (by rw [← e]; exact q), fun a b ha hb => ?_, fun a b ha hb => ?_⟩
  · have := le a b ha hb
    rw [me_at1 h.hl ha hb] at this
    unfold imin at this; omega
  · have := le a b ha hb
    rw [me_at1 h.hl ha hb] at this
    unfold imin at this; omega

theorem hl_vz {n : Nat} {l m : List Int} (h : VzM n l) (k : VzM n m) (q : huE n n l m = 0) : VzM n (Zo.clo n (huL l m)) := by
  have e : huE (n : Int) n l m = cloE n (huL l m) := by unfold huE; rw [if_pos (tw_vz h k)]; simp
  have hl : (huL l m).length = (n + 1) * (n + 1) := by rw [huL_len, h.hl]
  have hv : ∀ a b, a ≤ n → b ≤ n → Zo.Wl (Zo.At n (huL l m) a b) := fun a b ha hb => by
    rw [hu_at1 h.hl ha hb]; exact wl_max (h.wl a b ha hb) (k.wl a b ha hb)
  exact vz_clo h.hn hl hv (by rw [← e]; exact q)

theorem mt_ok {N : Int} {x y : Zp} (h : Ok1 N x) (k : Ok1 N y) (q : (mtP x y).2 = 0) : Ok1 N (mtP x y).1 := by
  obtain ⟨n, rfl, e, v⟩ := h.vz
  obtain ⟨n', e0, e', v'⟩ := k.vz
  have : n' = n := by omega
  subst this
  rw [e, e'] at q ⊢
  exact (mt_vz v v' q).1.ok

theorem hl_ok {N : Int} {x y : Zp} (h : Ok1 N x) (k : Ok1 N y) (q : (hlP x y).2 = 0) : Ok1 N (hlP x y).1 := by
  obtain ⟨n, rfl, e, v⟩ := h.vz
  obtain ⟨n', e0, e', v'⟩ := k.vz
  have : n' = n := by omega
  subst this
  rw [e, e'] at q ⊢
  exact (hl_vz v v' q).ok

end Go.Proofs.YtaegiihkgicdnaaGreat

namespace Go.Proofs.YtaegiihkgicdnaaGreat
open Go.RowKit

theorem ckq2 {N : Int} {a b : List Zp} (ha : Ck N a) (hb : Ck N b) (la : a.length ≤ 2000) (lb : b.length ≤ 2000) : chkG [a, b] = 0 := by
  rw [chkG_short (by omega), ckL_iff]
  intro z hz
  have hab := ha.app hb
  have k := hab z hz
  refine ⟨k.1, ?_⟩
  cases e : a ++ b with
  | nil => rw [e] at hz; simp at hz
  | cons y r =>
    have hy := hab y (by rw [e]; exact List.mem_cons_self ..)
    simp only [List.headD_cons]
    exact k.2.trans hy.2.symm

theorem mi_eq {N : Int} {a b : List Zp} (ha : Ck N a) (hb : Ck N b) (la : a.length ≤ 2000) (lb : b.length ≤ 2000) : minR a b = mnP a b := by
  unfold minR ansE
  rw [if_pos (ckq2 ha hb la lb)]

end Go.Proofs.YtaegiihkgicdnaaGreat

namespace Go.Proofs.YtaegiihkgicdnaaGreat
open Go.RowKit

theorem try_eq {N : Int} {x y : Zp} (hx : Ok1 N x) (hy : Ok1 N y) : tryR x y = tryP x y := by
  unfold tryR tryP
  by_cases q : (hlP x y).2 = 0
  · have e : minR [(hlP x y).1] [x, y] = mnP [(hlP x y).1] [x, y] := mi_eq (Ck.one (hl_ok hx hy q)) (fun z hz => by simp at hz; rcases hz with rfl | rfl <;> assumption) (by simp) (by simp)
    rw [e]
  · rw [if_pos q, if_pos q]

def Clr (l : List Zp) (a b : Nat) : Prop := (tryP (gz l a) (gz l b)).2 = 0 ∧ (tryP (gz l a) (gz l b)).1.2 = false

def resP (l : List Zp) (a b : Nat) : Pr := if (tryP (gz l a) (gz l b)).2 ≠ 0 then pr0 (tryP (gz l a) (gz l b)).2 else ((a, b, (tryP (gz l a) (gz l b)).1.1), 0)

theorem ck_gz {N : Int} {l : List Zp} (h : Ck N l) {k : Nat} (hk : k < l.length) : Ok1 N (gz l k) := by rw [gz_eq hk]; exact h _ (List.getElem_mem hk)
section
variable {N : Int} {l : List Zp} (hC : Ck N l)
include hC

theorem rpK_none : ∀ {n i k : Nat}, i < l.length → (∀ b, k ≤ b → b < l.length → Clr l i b) → rpK l i n k = none
  | 0, _, _, _, _ => rfl
  | n + 1, i, k, hi, h => by
    rw [rpK]
    split
    · rename_i hk
      rw [try_eq (ck_gz hC hi) (ck_gz hC hk)]
      obtain ⟨c1, c2⟩ := h k (Nat.le_refl _) hk
      rw [if_neg (by rw [c1]; simp), if_neg (by rw [c2]; simp)]
      exact rpK_none hi fun b hb hl => h b (by omega) hl
    · rfl

theorem rpK_first {b0 : Nat} (hb : b0 < l.length) : ∀ {n i k : Nat}, i < l.length → k ≤ b0 → b0 < k + n → (∀ b, k ≤ b → b < b0 → Clr l i b) → ¬ Clr l i b0 → rpK l i n k = some (resP l i b0)
  | 0, _, _, _, _, h, _, _ => by omega
  | n + 1, i, k, hi, hk, hf, h, hn => by
    rw [rpK, if_pos (by omega), try_eq (ck_gz hC hi) (ck_gz hC (by omega))]
    by_cases e : k = b0
    · subst e
      unfold resP
      by_cases q : (tryP (gz l i) (gz l k)).2 = 0
      · have nq : ¬ (tryP (gz l i) (gz l k)).2 ≠ 0 := by rw [q]; simp
        rw [if_neg nq, if_neg nq]
        have : (tryP (gz l i) (gz l k)).1.2 = true := by
          cases c : (tryP (gz l i) (gz l k)).1.2 with
          | true => rfl
          | false => exact absurd ⟨q, c⟩ hn
        rw [if_pos this]
      · rw [if_pos q, if_pos q]
    · obtain ⟨c1, c2⟩ := h k (Nat.le_refl _) (by omega)
      rw [if_neg (by rw [c1]; simp), if_neg (by rw [c2]; simp)]
      exact rpK_first hb hi (by omega) (by omega) (fun b h1 h2 => h b (by omega) h2) hn

theorem rpI_none : ∀ {n i : Nat}, (∀ a b, i ≤ a → a < b → b < l.length → Clr l a b) → rpI l n i = pr0 0
  | 0, _, _ => rfl
  | n + 1, i, h => by
    rw [rpI]
    split
    · rename_i hi
      rw [rpK_none hC hi fun b hb hl => h i b (Nat.le_refl _) (by omega) hl]
      exact rpI_none fun a b ha hab hl => h a b (by omega) hab hl
    · rfl

theorem rpI_first {a0 b0 : Nat} (hab : a0 < b0) (hb : b0 < l.length) (hn : ¬ Clr l a0 b0) (h2 : ∀ b, a0 < b → b < b0 → Clr l a0 b) : ∀ {n i : Nat}, i ≤ a0 → a0 < i + n → (∀ a b, i ≤ a → a < a0 → a < b → b < l.length → Clr l a b) → rpI l n i = resP l a0 b0
  | 0, _, _, h, _ => by omega
  | n + 1, i, hi, hf, h => by
    rw [rpI, if_pos (by omega)]
    by_cases e : i = a0
    · subst e
      rw [rpK_first hC hb (by omega) (by omega) (by omega) (fun b h1 h3 => h2 b (by omega) h3) hn]
      rfl
    · rw [rpK_none hC (by omega) fun b h1 h3 => h i b (Nat.le_refl _) (by omega) (by omega) h3]
      exact rpI_first hab hb hn h2 (by omega) (by omega) fun a b h1 h3 h4 h5 => h a b (by omega) h3 h4 h5
end

theorem prP_scan {l : List Zp} {i : Nat} : ∀ {n j : Nat}, l.length ≤ j + n →
    ((prP l i n j = ((i, (0, [])), 0) ∧ ∀ t, j ≤ t → t < l.length → t ≠ i → Clr l (min i t) (max i t)) ∨
     ∃ t, j ≤ t ∧ t < l.length ∧ t ≠ i ∧ (∀ s, j ≤ s → s < t → s ≠ i → Clr l (min i s) (max i s)) ∧ ¬ Clr l (min i t) (max i t) ∧
       (((prP l i n j).2 ≠ 0 ∧ resP l (min i t) (max i t) = pr0 (prP l i n j).2) ∨
        ((prP l i n j).2 = 0 ∧ (prP l i n j).1.1 = t ∧ resP l (min i t) (max i t) = ((min i t, max i t, (prP l i n j).1.2), 0) ∧ (hlP (gz l (min i t)) (gz l (max i t))).2 = 0 ∧ (prP l i n j).1.2 = (hlP (gz l (min i t)) (gz l (max i t))).1)))
  | 0, j, h => Or.inl ⟨rfl, fun t h1 h2 => by omega⟩
  | n + 1, j, h => by
    rw [prP]
    by_cases hj : j < l.length
    · rw [if_pos hj]
      by_cases hi : j = i
      · rw [if_pos hi]
        rcases prP_scan (l := l) (i := i) (n := n) (j := j + 1) (by omega) with ⟨h1, h2⟩ | ⟨t, h1, h2, h3, h4, h5, h6⟩
        · exact Or.inl ⟨h1, fun t k1 k2 k3 => h2 t (by omega) k2 k3⟩
        · exact Or.inr ⟨t, by omega, h2, h3, fun s k1 k2 k3 => h4 s (by omega) k2 k3, h5, h6⟩
      · rw [if_neg hi]
        by_cases e : (tryP (gz l (min i j)) (gz l (max i j))).2 = 0
        · rw [if_neg (by rw [e]; simp)]
          by_cases c : (tryP (gz l (min i j)) (gz l (max i j))).1.2 = true
          · rw [if_pos c]
            refine Or.inr ⟨j, Nat.le_refl _, hj, hi, fun s k1 k2 => by omega, (fun q => by rw [q.2] at c; cases c), Or.inr ⟨rfl, rfl, ?_, ?_, ?_⟩⟩
            · unfold resP; rw [if_neg (by rw [e]; simp)]
            · unfold tryP at e
              split at e
              · rename_i q; exact absurd e q
              · rename_i q; simpa using q
            · unfold tryP at e ⊢
              split at e
              · rename_i q; exact absurd e q
              · rename_i q
                rw [if_neg q]
                split at e
                · rename_i q2; exact absurd e q2
                · rename_i q2; rw [if_neg q2]
          · rw [if_neg c]
            have cl : Clr l (min i j) (max i j) := ⟨e, by simpa using c⟩
            rcases prP_scan (l := l) (i := i) (n := n) (j := j + 1) (by omega) with ⟨h1, h2⟩ | ⟨t, h1, h2, h3, h4, h5, h6⟩
            · refine Or.inl ⟨h1, fun t k1 k2 k3 => ?_⟩
              by_cases q : t = j
              · subst q; exact cl
              · exact h2 t (by omega) k2 k3
            · refine Or.inr ⟨t, by omega, h2, h3, fun s k1 k2 k3 => ?_, h5, h6⟩
              by_cases q : s = j
              · subst q; exact cl
              · exact h4 s (by omega) k2 k3
        · rw [if_pos e]
          refine Or.inr ⟨j, Nat.le_refl _, hj, hi, fun s k1 k2 => by omega, fun q => e q.1, Or.inl ⟨e, ?_⟩⟩
          unfold resP; rw [if_pos e]
    · rw [if_neg hj]
      exact Or.inl ⟨rfl, fun t h1 h2 => by omega⟩

theorem gz_join {l : List Zp} {lo hi : Nat} (h : Zp) (hlo : lo < hi) {b : Nat} (hb : b ≠ lo) : gz ((l.set lo h).eraseIdx hi) b = if b < hi then gz l b else gz l (b + 1) := by
  unfold gz
  rw [List.getD_eq_getElem?_getD, List.getElem?_eraseIdx]
  split
  · rw [List.getElem?_set_ne (by omega), List.getD_eq_getElem?_getD]
  · rw [List.getElem?_set_ne (by omega), List.getD_eq_getElem?_getD]

theorem jo_ri {N : Int} : ∀ {n m : Nat} {l : List Zp} {i fr : Nat}, Ck N l → l.length < m → l.length * l.length + l.length + (l.length - i) ≤ n →
    ((fr = i + 1 ∧ ∀ a b, a < i → a < b → b < l.length → Clr l a b) ∨ (fr = 0 ∧ ∀ a b, a < i → a < b → b < l.length → b ≠ i → Clr l a b)) → joP n l i fr = riP m l
  | n, 0, _, _, _, _, h, _, _ => by omega
  | 0, m + 1, l, i, fr, hC, hm, hn, _ => by
    have h0 : l.length = 0 := by omega
    have e : l = [] := List.length_eq_zero_iff.1 h0
    subst e
    rfl
  | n + 1, m + 1, l, i, fr, hC, hm, hn, hI => by
    have hW : ∀ a b, a < i → a < b → b < l.length → b ≠ i → Clr l a b := by
      rcases hI with ⟨_, h⟩ | ⟨_, h⟩
      · exact fun a b h1 h2 h3 _ => h a b h1 h2 h3
      · exact h
    rw [joP, riP]
    by_cases hi : i < l.length
    · rw [if_pos hi]
      -- what has been looked at: rows before i, and, from fr on, the row of i
      have row : ∀ t, (∀ s, fr ≤ s → s < t → s ≠ i → Clr l (min i s) (max i s)) → ∀ a, a < i → a < t → Clr l a i := fun t h a h1 h2 => by
        rcases hI with ⟨e, k⟩ | ⟨e, _⟩
        · exact k a i h1 h1 hi
        · have := h a (by omega) h2 (by omega)
          rw [show min i a = a by omega, show max i a = i by omega] at this
          exact this
      rcases prP_scan (l := l) (i := i) (n := l.length - fr) (j := fr) (by omega) with ⟨h1, h2⟩ | ⟨t, h1, h2, h3, h4, h5, h6⟩
      · -- none
        rw [h1, if_neg (by simp), if_pos rfl, ← riP]
        have all : ∀ a b, a < i + 1 → a < b → b < l.length → Clr l a b := fun a b k1 k2 k3 => by
          by_cases c : a = i
          · subst c
            have hb : fr ≤ b := by rcases hI with ⟨e, _⟩ | ⟨e, _⟩ <;> omega
            have := h2 b hb k3 (by omega)
            rw [show min a b = a by omega, show max a b = b by omega] at this
            exact this
          · by_cases d : b = i
            · subst d
              exact row l.length (fun s u1 u2 u3 => h2 s u1 u2 u3) a (by omega) (by omega)
            · exact hW a b (by omega) k2 k3 d
        exact jo_ri hC hm (by omega) (Or.inl ⟨rfl, all⟩)
      · -- something is found at t
        have first : rpI l l.length 0 = resP l (min i t) (max i t) := by
          refine rpI_first hC (by omega) (by omega) h5 (fun b k1 k2 => ?_) (Nat.zero_le _) (by omega) (fun a b _ k1 k2 k3 => ?_)
          · by_cases c : t < i
            · have e1 : min i t = t := by omega
              have e2 : max i t = i := by omega
              rw [e1] at k1 ⊢
              rw [e2] at k2
              exact hW t b (by omega) k1 (by omega) (by omega)
            · have e1 : min i t = i := by omega
              have e2 : max i t = t := by omega
              rw [e1] at k1 ⊢
              rw [e2] at k2
              have hb : fr ≤ b := by rcases hI with ⟨e, _⟩ | ⟨e, _⟩ <;> omega
              have := h4 b hb k2 (by omega)
              rw [show min i b = i by omega, show max i b = b by omega] at this
              exact this
          · by_cases d : b = i
            · subst d
              exact row t h4 a (by omega) (by omega)
            · exact hW a b (by omega) k2 k3 d
        rw [first]
        rcases h6 with ⟨q1, q2⟩ | ⟨q1, q2, q3, q4, q5⟩
        · rw [if_pos q1, q2]
          have : (pr0 (prP l i (l.length - fr) fr).2).2 = (prP l i (l.length - fr) fr).2 := rfl
          rw [this, if_pos q1]
        · rw [if_neg (by rw [q1]; simp), if_neg (by rw [q2]; exact h3), q3]
          rw [if_neg (by simp)]
          have hk : max i t ≠ 0 := by omega
          rw [if_neg (by exact hk)]
          rw [q2]
          have lo : min i t < max i t := by omega
          have hm1 : max i t < l.length := by omega
          have ll : ((l.set (min i t) (prP l i (l.length - fr) fr).1.2).eraseIdx (max i t)).length = l.length - 1 := by rw [List.length_eraseIdx, List.length_set, if_pos hm1]
          refine jo_ri (N := N) ?_ (by rw [ll]; omega) ?_ (Or.inr ⟨rfl, fun a b k1 k2 k3 k4 => ?_⟩)
          · intro z hz
            rcases List.mem_or_eq_of_mem_set (List.mem_of_mem_eraseIdx hz) with q | q
            · exact hC z q
            · rw [q, q5]
              exact hl_ok (ck_gz hC (by omega)) (ck_gz hC hm1) q4
          · rw [ll]
            have := jo_less (m := l.length) (t := i) (t2 := min i t) (by omega) (by omega) hi
            exact Nat.le_of_lt_succ (Nat.lt_of_lt_of_le this hn)
          · rw [ll] at k3
            unfold Clr
            rw [gz_join _ lo (by omega), gz_join _ lo k4]
            rw [if_pos (show a < max i t by omega)]
            split
            · rename_i c
              exact hW a b (by omega) k2 (by omega) (by omega)
            · rename_i c
              exact hW a (b + 1) (by omega) (by omega) (by omega) (by omega)
    · rw [if_neg hi, rpI_none hC (i := 0) (n := l.length) fun a b _ k1 k2 => hW a b (by omega) k1 k2 (by omega)]
      rfl

theorem wp_ck {N : Int} : ∀ {n i : Nat} {l : List Zp}, Ck N l → Ck N (wpP n i l)
  | 0, _, _, h => h
  | n + 1, i, l, h => by
    rw [wpP]
    split
    · split
      · exact wp_ck fun z hz => h z (List.mem_of_mem_eraseIdx hz)
      · exact wp_ck h
    · exact h

theorem sim_eq {L : List Zp} (h : rchk L = 0) : riR L = siR L := by
  have hN : Ck (L.headD (0, [])).1 L := by
    unfold rchk at h
    split at h
    · cases h
    · exact fun z hz => (ckL_iff.1 h) z hz
  have e : siP L = riP ((wpP L.length 0 L).length + 1) (wpP L.length 0 L) := by
    unfold siP
    exact jo_ri (wp_ck hN) (Nat.lt_succ_self _) (by omega) (Or.inl ⟨rfl, fun a b h => by omega⟩)
  unfold riR siR ansE
  rw [if_pos h, chkG_one, if_pos h, ← e]

theorem sim_two (L : List Zp) : (riR L).2 = (siR L).2 ∧ (if (riR L).2 = 0 then (riR L).1 else []) = (if (siR L).2 = 0 then (siR L).1 else []) := by
  by_cases h : rchk L = 0
  · rw [sim_eq h]; exact ⟨rfl, rfl⟩
  · have e1 : (riR L).2 = rchk L := if_neg h
    have e2 : (siR L).2 = rchk L := by
      show ansE [L] (siP L).2 = _
      rw [ansE_bad (by rw [chkG_one]; exact h), chkG_one]
    rw [e1, e2, if_neg h, if_neg h]
    exact ⟨rfl, rfl⟩
end Go.Proofs.YtaegiihkgicdnaaGreat

namespace Go.Proofs.YtaegiihkgicdnaaGreat
open Go.RowKit

theorem RsL.congr2 {r s : List Zp × Int} {w : World} {e : Ending} {w' : World} (h : RsL r w e w') (h1 : r.2 = s.2) (h2 : (if r.2 = 0 then r.1 else []) = (if s.2 = 0 then s.1 else [])) : RsL s w e w' := by
  obtain ⟨k1, ao, cap, L, rfl, k2, k3, k4⟩ := h
  exact ⟨k1, ao, cap, L, by rw [h1], k2, k3.trans h2, k4⟩

theorem rsimpW_any2 (L : List ZV) (go : Option Addr) (gc : Nat) (w : World) (hL : RdW w go L) (hl : L.length ≤ 1000000) (hgo : go = none → gc = 0) :
    Calls Tryz.prog 22 #[.slice go L.length gc] w (RsL (siR (L.map ZV.p)) w) := by
  obtain ⟨e1, e2⟩ := sim_two (L.map ZV.p)
  exact (rsimpW_any L go gc w hL hl hgo).mono fun _ _ h => h.congr2 e1 e2

theorem ck_of {L : List Zp} (h : rchk L = 0) : ∃ N, Ck N L := by
  refine ⟨(L.headD (0, [])).1, ?_⟩
  unfold rchk at h
  split at h
  · cases h
  · exact fun z hz => (ckL_iff.1 h) z hz

theorem gz_lb {n : Nat} {l : List Zp} (h : Lb n l) (k : Nat) : (gz l k).2.length ≤ n := by
  by_cases q : k < l.length
  · rw [gz_eq q]; exact h _ (List.getElem_mem q)
  · unfold gz; rw [List.getD_eq_getElem?_getD, List.getElem?_eq_none (by omega)]; simp

theorem tr_lb {n : Nat} {x y : Zp} (h : x.2.length ≤ n) : (tryP x y).1.1.2.length ≤ n := by
  unfold tryP
  split
  · simp
  · split
    · simp
    · rw [hlP_len]; exact h

theorem prP_lb {n : Nat} {l : List Zp} (h : Lb n l) (i : Nat) : ∀ k j, (prP l i k j).1.2.2.length ≤ n
  | 0, _ => by simp [prP]
  | k + 1, j => by
    rw [prP]
    split
    · split
      · exact prP_lb h i k (j + 1)
      · split
        · simp
        · split
          · exact tr_lb (gz_lb h _)
          · exact prP_lb h i k (j + 1)
    · simp

theorem wpP_lb {n : Nat} : ∀ {k i : Nat} {l : List Zp}, Lb n l → Lb n (wpP k i l)
  | 0, _, _, h => h
  | k + 1, i, l, h => by
    rw [wpP]
    split
    · split
      · exact wpP_lb fun z hz => h z (List.mem_of_mem_eraseIdx hz)
      · exact wpP_lb h
    · exact h

theorem joP_lb {n : Nat} : ∀ {k : Nat} {l : List Zp} {i fr : Nat}, Lb n l → Lb n (joP k l i fr).1
  | 0, _, _, _, h => h
  | k + 1, l, i, fr, h => by
    rw [joP]
    split
    · split
      · exact Lb.nil n
      · split
        · exact joP_lb h
        · refine joP_lb fun z hz => ?_
          rcases List.mem_or_eq_of_mem_set (List.mem_of_mem_eraseIdx hz) with q | q
          · exact h z q
          · rw [q]; exact prP_lb h i _ _
    · exact h

theorem si_lb {n : Nat} {L : List Zp} (h : Lb n L) : Lb n (siR L).1 := joP_lb (wpP_lb h)

set_option maxRecDepth 100000 in
set_option maxHeartbeats 4000000 in
theorem rup_bad (L : List ZV) (go : Option Addr) (gc : Nat) (w : World) (hL : RdW w go L) (hl : L.length ≤ 1000000) (hbad : rchk (L.map ZV.p) ≠ 0) :
    Calls Tryz.prog 24 #[.slice go L.length gc] w (fun e w' => Below w.heap.size w w' ∧ e = .returned (.tuple #[.slice none 0 0, .int .i64 (rchk (L.map ZV.p))])) := by
  have BO := Lib.hid (rcheckW_any L go gc w hL hl)
  generalize L.length = n at *
  clear hL hl
  obtain ⟨c, hc0⟩ : ∃ c, c = rchk (L.map ZV.p) := ⟨_, rfl⟩
  rw [← hc0] at BO hbad ⊢
  have h0b : (c != 0) = true := by simpa using hbad
  clear hc0
  go_enter Tryz.func24, Tryz.ntmps24
  go_wp2_with fail
  refine BO.out.mono ?_
  rintro e w1 ⟨rfl, hb⟩
  have B1 := Lib.hid hb
  clear hb BO
  go_wp2_with fail
  go_ret2
  exact ⟨B1.out, rfl⟩

theorem rupW_any (L : List ZV) (go : Option Addr) (gc : Nat) (w : World) (hL : RdW w go L) (hl : L.length ≤ 1000000) (_ : go = none → gc = 0) :
    Calls Tryz.prog 24 #[.slice go L.length gc] w (RsL (peR upP (L.map ZV.p)) w) := by
  by_cases h : rchk (L.map ZV.p) = 0
  · obtain ⟨N, hN⟩ := ck_of h
    have st := hL.strong (chk_ne fun z hz => (hN z.p (List.mem_map.2 ⟨z, hz, rfl⟩)).1)
    have e := ua_pe (f := upP) (L := L.map ZV.p) fun z hz => (up_ok (hN z hz)).1
    rw [← e]
    exact (rup_any L go gc w st hl).mono fun _ _ h => h.rs
  · refine (rup_bad L go gc w hL hl h).mono ?_
    rintro e w' ⟨hb, rfl⟩
    have e1 : (peR upP (L.map ZV.p)).2 = rchk (L.map ZV.p) := by
      show ansE [L.map ZV.p] _ = _
      rw [ansE_bad (by rw [chkG_one]; exact h), chkG_one]
    rw [← e1]
    exact rs_nil hb (by rw [e1]; exact h)

set_option maxRecDepth 100000 in
set_option maxHeartbeats 4000000 in
theorem rdown_bad (L : List ZV) (go : Option Addr) (gc : Nat) (w : World) (hL : RdW w go L) (hl : L.length ≤ 1000000) (hbad : rchk (L.map ZV.p) ≠ 0) :
    Calls Tryz.prog 26 #[.slice go L.length gc] w (fun e w' => Below w.heap.size w w' ∧ e = .returned (.tuple #[.slice none 0 0, .int .i64 (rchk (L.map ZV.p))])) := by
  have BO := Lib.hid (rcheckW_any L go gc w hL hl)
  generalize L.length = n at *
  clear hL hl
  obtain ⟨c, hc0⟩ : ∃ c, c = rchk (L.map ZV.p) := ⟨_, rfl⟩
  rw [← hc0] at BO hbad ⊢
  have h0b : (c != 0) = true := by simpa using hbad
  clear hc0
  go_enter Tryz.func26, Tryz.ntmps26
  go_wp2_with fail
  refine BO.out.mono ?_
  rintro e w1 ⟨rfl, hb⟩
  have B1 := Lib.hid hb
  clear hb BO
  go_wp2_with fail
  go_ret2
  exact ⟨B1.out, rfl⟩

theorem rdownW_any (L : List ZV) (go : Option Addr) (gc : Nat) (w : World) (hL : RdW w go L) (hl : L.length ≤ 1000000) (_ : go = none → gc = 0) :
    Calls Tryz.prog 26 #[.slice go L.length gc] w (RsL (peR dnP (L.map ZV.p)) w) := by
  by_cases h : rchk (L.map ZV.p) = 0
  · obtain ⟨N, hN⟩ := ck_of h
    have st := hL.strong (chk_ne fun z hz => (hN z.p (List.mem_map.2 ⟨z, hz, rfl⟩)).1)
    have e := ua_pe (f := dnP) (L := L.map ZV.p) fun z hz => (dn_ok (hN z hz)).1
    rw [← e]
    exact (rdown_any L go gc w st hl).mono fun _ _ h => h.rs
  · refine (rdown_bad L go gc w hL hl h).mono ?_
    rintro e w' ⟨hb, rfl⟩
    have e1 : (peR dnP (L.map ZV.p)).2 = rchk (L.map ZV.p) := by
      show ansE [L.map ZV.p] _ = _
      rw [ansE_bad (by rw [chkG_one]; exact h), chkG_one]
    rw [← e1]
    exact rs_nil hb (by rw [e1]; exact h)

set_option maxRecDepth 100000 in
set_option maxHeartbeats 32000000 in
theorem lists_any (L : List ZV) (go : Option Addr) (gc : Nat) (w : World) (hL : RdW w go L) (hgo : go = none → gc = 0)
    (hbl : L.length ≤ 9223372036854775807 ∧ ∀ z ∈ L, z.l.length ≤ 9223372036854775807) (hzl : ∀ z ∈ L, z.a = none → z.c = 0) :
    Calls Tryz.prog 4 #[.slice go L.length gc] w (Made (.bool true) w) := by
  obtain ⟨n, hn⟩ : ∃ n, n = L.length := ⟨_, rfl⟩
  have HN := Lib.hid hn
  have RL := Lib.hid hL
  have GO := Lib.hid hgo
  have ZL := Lib.hid hzl
  have SH := Lib.hid (fun W => shown_any W)
  obtain ⟨w1, hw1⟩ : ∃ w1, w1 = w.alloc (.cells #[.slice go n gc] 22) := ⟨_, rfl⟩
  have BE := Lib.hid (show Calls Tryz.prog 8 #[.int .i64 5, .slice (some ⟨w.heap.size, 0, none⟩) 1 1] w1 (BeRes [L] w1) from by
    rw [hw1, hn]
    exact beyondW_any 5 [L] (some ⟨w.heap.size, 0, none⟩) 1 _ (one_w hL hgo) (by simp) (fun X hX => by
      simp at hX
      subst hX
      exact ⟨hbl.1, hbl.2⟩))
  have B1 := Lib.hid (show Below w.heap.size w w1 by rw [hw1]; exact one_more _)
  rw [← hn]
  clear hL hgo hbl hzl hn
  go_enter Tryz.func4, Tryz.ntmps4
  go_wp2_with fail
  rw [← hw1]
  clear hw1
  refine BE.out.mono ?_
  rintro e w2 ⟨hb, bb, rfl, hfine⟩
  have BW := Lib.hid (below_on B1.out hb)
  have FI := Lib.hid hfine
  clear hb hfine BE B1
  cases bb with
  | true =>
    go_wp2_with fail
    refine (SH.out _).mono ?_
    rintro e w3 ⟨rfl, hb⟩
    have B3 := Lib.hid (below_on BW.out hb)
    clear hb
    go_wp2_with fail
    go_ret
    exact ⟨rfl, B3.out⟩
  | false =>
    have FL := Lib.hid (FI.out rfl L (by simp))
    have nle : n ≤ 3000 := by have := FL.out.1; have := HN.out; omega
    clear FI
    have LE1 := Lib.hid (show ∀ W, Below w.heap.size w W → Calls Tryz.prog 10 #[.slice go n gc] W (fun e w' => Below W.heap.size W w' ∧ ∃ ao cap Z, e = .returned (.slice ao Z.length cap) ∧ OwnZ W.heap.size W.heap.size w' (.slice ao Z.length cap) Z ∧ Z.map ZV.p = L.map ZV.p ∧ ∀ z ∈ Z, OwL W.heap.size w' z) from fun W h => by
      rw [HN.out]
      exact lentW_any L go gc W (RL.out.on h) (by have := HN.out; omega) (fun z hz => ⟨by have := FL.out.2 z hz; omega, ZL.out z hz⟩))
    go_wp2_with fail
    refine (LE1.out _ BW.out).mono ?_
    rintro e w4 ⟨hb, uo, uc, U, rfl, ou, up, _⟩
    have OU := Lib.hid ou
    have UP := Lib.hid up
    have UN := Lib.hid (show U.length = n by have e := congrArg List.length up; simp at e; have := HN.out; omega)
    have BW := Lib.hid (below_on BW.out hb)
    obtain ⟨un, hun⟩ : ∃ un, un = U.length := ⟨_, rfl⟩
    have HUN := Lib.hid hun
    have unle : un ≤ 3000 := by have := UN.out; omega
    rw [← hun]
    clear hb ou up hun LE1
    have RU := Lib.hid (show RdZ 0 w4 uo U from OU.out.rd.1.low (Nat.zero_le _))
    have CU := Lib.hid OU.out.rd.2
    have LU := Lib.hid (show Lb 200 (U.map ZV.p) by rw [UP.out]; exact FL.out.lb)
    have SU := Lib.hid (show ∀ W, Below w4.heap.size w4 W → RdW W uo U from fun W h => (OU.out.rd.1.on h).weak)
    have SA1 := Lib.hid (show ∀ W, Below w.heap.size w W → RdW W uo U → Calls Tryz.prog 19 #[.slice uo un uc, .slice go n gc] W (Made (.bool true) W) from fun W h k => by
      rw [HN.out, HUN.out]
      exact rsameLW_any U L uo go uc gc W k (RL.out.on h) (by have := HUN.out; omega) UP.out (fun z hz => by have := LU.out z.p (List.mem_map.2 ⟨z, hz, rfl⟩); have e : z.l.length ≤ 200 := this; omega))
    have LS := Lib.hid (show ∀ (r : List Zp × Int) W (X Y : List ZV) xo xc yo yc, Lb 200 r.1 → RdZ 0 W xo X → RdZ 0 W yo Y → X.length ≤ 1000000 → X.map ZV.p = (if r.2 = 0 then r.1 else []) → Y.map ZV.p = (if r.2 = 0 then r.1 else []) → Calls Tryz.prog 15 #[.slice xo X.length xc, .slice yo Y.length yc, .int .i64 r.2, .int .i64 r.2] W (Made (.bool true) W) from fun r W X Y xo xc yo yc hb h1 h2 h3 h4 h5 => lsameR_any X Y xo yo xc yc r.2 W h1 h2 h3 (h4.trans h5.symm) (res_lb hb h4 (by omega)))
    have SI1 := Lib.hid (show ∀ W, Below w4.heap.size w4 W → Calls Tryz.prog 21 #[.slice uo un uc] W (RsL (siR (L.map ZV.p)) W) from fun W h => by
      have := fsimp_out U uo uc W (RU.out.on h) CU.out (by have := HUN.out; omega)
      rw [UP.out, ← HUN.out] at this; exact this.mono fun _ _ k => k.rs)
    have SI2 := Lib.hid (show ∀ W, Below w.heap.size w W → Calls Tryz.prog 22 #[.slice go n gc] W (RsL (siR (L.map ZV.p)) W) from fun W h => by rw [HN.out]; exact rsimpW_any2 L go gc W (RL.out.on h) (by have := HN.out; omega) GO.out)
    have SIL := Lib.hid (show Lb 200 (siR (L.map ZV.p)).1 from si_lb FL.out.lb)
    have UU1 := Lib.hid (show ∀ W, Below w4.heap.size w4 W → Calls Tryz.prog 23 #[.slice uo un uc] W (RsL (peR upP (L.map ZV.p)) W) from fun W h => by
      have := fup_out U uo uc W (RU.out.on h) CU.out (by have := HUN.out; omega)
      rw [UP.out, ← HUN.out] at this; exact this.mono fun _ _ k => k.rs)
    have UU2 := Lib.hid (show ∀ W, Below w.heap.size w W → Calls Tryz.prog 24 #[.slice go n gc] W (RsL (peR upP (L.map ZV.p)) W) from fun W h => by rw [HN.out]; exact rupW_any L go gc W (RL.out.on h) (by have := HN.out; omega) GO.out)
    have UUL := Lib.hid (show Lb 200 (peR upP (L.map ZV.p)).1 from eaS_lb upP_len FL.out.lb)
    have DD1 := Lib.hid (show ∀ W, Below w4.heap.size w4 W → Calls Tryz.prog 25 #[.slice uo un uc] W (RsL (peR dnP (L.map ZV.p)) W) from fun W h => by
      have := fdown_out U uo uc W (RU.out.on h) CU.out (by have := HUN.out; omega)
      rw [UP.out, ← HUN.out] at this; exact this.mono fun _ _ k => k.rs)
    have DD2 := Lib.hid (show ∀ W, Below w.heap.size w W → Calls Tryz.prog 26 #[.slice go n gc] W (RsL (peR dnP (L.map ZV.p)) W) from fun W h => by rw [HN.out]; exact rdownW_any L go gc W (RL.out.on h) (by have := HN.out; omega) GO.out)
    have DDL := Lib.hid (show Lb 200 (peR dnP (L.map ZV.p)).1 from eaS_lb dnP_len FL.out.lb)
    have B4 := Lib.hid (Below.refl w4.heap.size w4)
    clear RU OU
    go_wp2_with fail
    refine (SI1.out _ B4.out).mono ?_
    rintro e w7 ⟨hb, xo, xc, X, rfl, rx, xp, xl⟩
    have RX := Lib.hid rx
    have XP := Lib.hid xp
    have XL := Lib.hid xl
    have B4 := Lib.hid (below_on B4.out hb)
    have LS1 := Lib.hid (LS.out (siR (L.map ZV.p)))
    obtain ⟨me, hme⟩ : ∃ me, me = (siR (L.map ZV.p)).2 := ⟨_, rfl⟩
    rw [← hme]
    obtain ⟨xn, hxn⟩ : ∃ xn, xn = X.length := ⟨_, rfl⟩
    rw [← hxn]
    have HME := Lib.hid hme
    have HXN := Lib.hid hxn
    clear hb rx xp xl SI1 hme hxn
    go_wp2_with fail
    refine (SI2.out _ (below_on BW.out B4.out)).mono ?_
    rintro e w8 ⟨hb, yo, yc, Y, rfl, ry, yp, yl⟩
    have SM := Lib.hid (LS1.out w8 X Y xo xc yo yc SIL.out (RX.out.on hb) ry XL.out XP.out yp)
    have B4 := Lib.hid (below_on B4.out hb)
    rw [← HME.out, ← HXN.out] at SM
    rw [← HME.out]
    clear hb ry yp yl SI2 HME HXN RX XP XL LS1
    generalize Y.length = yn at *
    go_wp2_with fail
    refine SM.out.mono ?_
    rintro e w9 ⟨rfl, hb⟩
    have B4 := Lib.hid (below_on B4.out hb)
    clear hb SM
    go_wp2_with fail
    refine (UU1.out _ B4.out).mono ?_
    rintro e w7 ⟨hb, xo, xc, X, rfl, rx, xp, xl⟩
    have RX := Lib.hid rx
    have XP := Lib.hid xp
    have XL := Lib.hid xl
    have B4 := Lib.hid (below_on B4.out hb)
    have LS1 := Lib.hid (LS.out (peR upP (L.map ZV.p)))
    obtain ⟨me, hme⟩ : ∃ me, me = (peR upP (L.map ZV.p)).2 := ⟨_, rfl⟩
    rw [← hme]
    obtain ⟨xn, hxn⟩ : ∃ xn, xn = X.length := ⟨_, rfl⟩
    rw [← hxn]
    have HME := Lib.hid hme
    have HXN := Lib.hid hxn
    clear hb rx xp xl UU1 hme hxn
    go_wp2_with fail
    refine (UU2.out _ (below_on BW.out B4.out)).mono ?_
    rintro e w8 ⟨hb, yo, yc, Y, rfl, ry, yp, yl⟩
    have SM := Lib.hid (LS1.out w8 X Y xo xc yo yc UUL.out (RX.out.on hb) ry XL.out XP.out yp)
    have B4 := Lib.hid (below_on B4.out hb)
    rw [← HME.out, ← HXN.out] at SM
    rw [← HME.out]
    clear hb ry yp yl UU2 HME HXN RX XP XL LS1
    generalize Y.length = yn at *
    go_wp2_with fail
    refine SM.out.mono ?_
    rintro e w9 ⟨rfl, hb⟩
    have B4 := Lib.hid (below_on B4.out hb)
    clear hb SM
    go_wp2_with fail
    refine (DD1.out _ B4.out).mono ?_
    rintro e w7 ⟨hb, xo, xc, X, rfl, rx, xp, xl⟩
    have RX := Lib.hid rx
    have XP := Lib.hid xp
    have XL := Lib.hid xl
    have B4 := Lib.hid (below_on B4.out hb)
    have LS1 := Lib.hid (LS.out (peR dnP (L.map ZV.p)))
    obtain ⟨me, hme⟩ : ∃ me, me = (peR dnP (L.map ZV.p)).2 := ⟨_, rfl⟩
    rw [← hme]
    obtain ⟨xn, hxn⟩ : ∃ xn, xn = X.length := ⟨_, rfl⟩
    rw [← hxn]
    have HME := Lib.hid hme
    have HXN := Lib.hid hxn
    clear hb rx xp xl DD1 hme hxn
    go_wp2_with fail
    refine (DD2.out _ (below_on BW.out B4.out)).mono ?_
    rintro e w8 ⟨hb, yo, yc, Y, rfl, ry, yp, yl⟩
    have SM := Lib.hid (LS1.out w8 X Y xo xc yo yc DDL.out (RX.out.on hb) ry XL.out XP.out yp)
    have B4 := Lib.hid (below_on B4.out hb)
    rw [← HME.out, ← HXN.out] at SM
    rw [← HME.out]
    clear hb ry yp yl DD2 HME HXN RX XP XL LS1
    generalize Y.length = yn at *
    go_wp2_with fail
    refine SM.out.mono ?_
    rintro e w9 ⟨rfl, hb⟩
    have B4 := Lib.hid (below_on B4.out hb)
    clear hb SM
    go_wp2_with fail
    refine (SA1.out _ (below_on BW.out B4.out) (SU.out _ B4.out)).mono ?_
    rintro e w13 ⟨rfl, hb⟩
    have B4 := Lib.hid (below_on B4.out hb)
    clear hb SA1
    go_wp2_with fail
    refine (SH.out _).mono ?_
    rintro e w17 ⟨rfl, hb⟩
    have B4 := Lib.hid (below_on BW.out (below_on B4.out hb))
    clear hb
    go_wp2_with fail
    go_ret
    exact ⟨rfl, B4.out⟩
end Go.Proofs.YtaegiihkgicdnaaGreat
