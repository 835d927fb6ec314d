/- A part. -/
import Derived.Test.YthjapmdfcbngmaaGreatWr2
namespace Go.Proofs.YthjapmdfcbngmaaGreat.Zo
abbrev Lm := Option Int
def le : Lm → Lm → Prop
 | _, none => True
 | none, some _ => False
 | some a, some b => a ≤ b
def ps (a b : Int) : Int := if a % 2 = 0 ∧ b % 2 = 0 then a + b else a + b - 1
def add : Lm → Lm → Lm
 | some a, some b => some (ps a b)
 | _, _ => none
def mn : Lm → Lm → Lm
 | some a, some b => some (min a b)
 | some a, none => some a
 | none, b => b
theorem ps_comm (a b : Int) : ps a b = ps b a := by unfold ps; split <;> split <;> omega
theorem ps_assoc (a b c : Int) : ps (ps a b) c = ps a (ps b c) := by
 unfold ps
 by_cases ha : a % 2 = 0 <;> by_cases hb : b % 2 = 0 <;> by_cases hc : c % 2 = 0
 all_goals (repeat' split) <;> omega
theorem ps_mono {a a' b b' : Int} (h : a ≤ a') (k : b ≤ b') : ps a b ≤ ps a' b' := by
 unfold ps; split <;> split <;> omega
theorem ps_one (a : Int) : ps a 1 = a := by unfold ps; split <;> omega
theorem le_refl (a : Lm) : le a a := by cases a <;> simp [le]
theorem le_trans {a b c : Lm} (h : le a b) (k : le b c) : le a c := by
 cases a <;> cases b <;> cases c <;> simp_all [le]; omega
theorem le_antisymm {a b : Lm} (h : le a b) (k : le b a) : a = b := by
 cases a <;> cases b <;> simp_all [le]; omega
theorem le_none (a : Lm) : le a none := by cases a <;> simp [le]
theorem mn_left (a b : Lm) : le (mn a b) a := by cases a <;> cases b <;> simp [le, mn]; omega
theorem mn_right (a b : Lm) : le (mn a b) b := by cases a <;> cases b <;> simp [le, mn]; omega
theorem le_mn {a b c : Lm} (h : le a b) (k : le a c) : le a (mn b c) := by
 cases a <;> cases b <;> cases c <;> simp_all [le, mn]; omega
theorem mn_cases (a b : Lm) : mn a b = a ∨ mn a b = b := by
 cases a <;> cases b <;> simp [mn]; omega
theorem mn_eq_left {a b : Lm} (h : le a b) : mn a b = a := le_antisymm (mn_left a b) (le_mn (le_refl a) h)
theorem add_comm (a b : Lm) : add a b = add b a := by cases a <;> cases b <;> simp [add, ps_comm]
theorem add_assoc (a b c : Lm) : add (add a b) c = add a (add b c) := by cases a <;> cases b <;> cases c <;> simp [add, ps_assoc]
theorem add_mono {a a' b b' : Lm} (h : le a a') (k : le b b') : le (add a b) (add a' b') := by
 cases a <;> cases a' <;> cases b <;> cases b' <;> simp_all [le, add]
 exact ps_mono h k
theorem add_one (a : Lm) : add a (some 1) = a := by cases a <;> simp [add, ps_one]
theorem one_add (a : Lm) : add (some 1) a = a := by rw [add_comm]; exact add_one a
def stp (k : Nat) (d : Nat → Nat → Lm) : Nat → Nat → Lm := fun i j => mn (d i j) (add (d i k) (d k j))
def fw (m : Nat → Nat → Lm) : Nat → Nat → Nat → Lm
 | 0 => m
 | k + 1 => stp k (fw m k)
theorem fw_le (m : Nat → Nat → Lm) (k i j : Nat) : le (fw m (k + 1) i j) (fw m k i j) := mn_left _ _
theorem fw_le_m (m : Nat → Nat → Lm) (k i j : Nat) : le (fw m k i j) (m i j) := by
 induction k with
 | zero => exact le_refl _
 | succ k ih => exact le_trans (fw_le m k i j) ih
theorem stp_row {k : Nat} {d : Nat → Nat → Lm} (h : d k k = some 1) (j : Nat) : stp k d k j = d k j := by
 unfold stp; rw [h, one_add]; exact mn_eq_left (le_refl _)
theorem stp_col {k : Nat} {d : Nat → Nat → Lm} (h : d k k = some 1) (i : Nat) : stp k d i k = d i k := by
 unfold stp; rw [h, add_one]; exact mn_eq_left (le_refl _)
def Tri (k : Nat) (d : Nat → Nat → Lm) : Prop := ∀ v, v < k → ∀ i j, le (d i j) (add (d i v) (d v j))
theorem tri_step {k : Nat} {d : Nat → Nat → Lm} (h : Tri k d) (hk : d k k = some 1) : Tri (k + 1) (stp k d) := by
 intro v hv i j
 by_cases e : v = k
 · subst e
   rw [stp_col hk i, stp_row hk j]
   exact mn_right _ _
 · have hv' : v < k := by omega
   have one : le (stp k d i j) (add (d i k) (d k j)) := mn_right _ _
   have old : le (stp k d i j) (d i j) := mn_left _ _
   rcases mn_cases (d i v) (add (d i k) (d k v)) with e1 | e1 <;> rcases mn_cases (d v j) (add (d v k) (d k j)) with e2 | e2
   · show le _ (add (mn _ _) (mn _ _)); rw [e1, e2]; exact le_trans old (h v hv' i j)
   · show le _ (add (mn _ _) (mn _ _)); rw [e1, e2, ← add_assoc]
     exact le_trans one (add_mono (h v hv' i k) (le_refl _))
   · show le _ (add (mn _ _) (mn _ _)); rw [e1, e2, add_assoc]
     exact le_trans one (add_mono (le_refl _) (h v hv' k j))
   · show le _ (add (mn _ _) (mn _ _)); rw [e1, e2, add_assoc, ← add_assoc (d k v)]
     refine le_trans one (add_mono (le_refl _) ?_)
     have t := h v hv' k k
     rw [hk] at t
     have := add_mono t (le_refl (d k j))
     rwa [one_add] at this
theorem tri_fw {m : Nat → Nat → Lm} (K : Nat) (hd : ∀ k, k < K → fw m k k k = some 1) : Tri K (fw m K) := by
 induction K with
 | zero => intro v hv; omega
 | succ k ih => exact tri_step (ih fun j hj => hd j (by omega)) (hd k (by omega))
theorem below_fw {m c : Nat → Nat → Lm} {K : Nat} (hc : Tri K c) (hm : ∀ i j, le (c i j) (m i j)) : ∀ k, k ≤ K → ∀ i j, le (c i j) (fw m k i j) := by
 intro k
 induction k with
 | zero => intro _ i j; exact hm i j
 | succ k ih =>
  intro hk i j
  exact le_mn (ih (by omega) i j) (le_trans (hc k (by omega) i j) (add_mono (ih (by omega) i k) (ih (by omega) k j)))
def cnt (S : Nat → Bool) : Nat → Nat
 | 0 => 0
 | k + 1 => cnt S k + if S k then 1 else 0
theorem cnt_succ (S : Nat → Bool) (k : Nat) : cnt S (k + 1) = cnt S k + if S k then 1 else 0 := rfl
theorem cnt_le (S : Nat → Bool) (k : Nat) : cnt S k ≤ k := by
 induction k with
 | zero => simp [cnt]
 | succ k ih => unfold cnt; split <;> omega
theorem cnt_or {S T : Nat → Bool} (k : Nat) (h : ∀ v, v < k → ¬ (S v = true ∧ T v = true)) : cnt (fun v => S v || T v) k = cnt S k + cnt T k := by
 induction k with
 | zero => simp [cnt]
 | succ k ih =>
  unfold cnt
  rw [ih fun v hv => h v (by omega)]
  have := h k (by omega)
  cases hs : S k <;> cases ht : T k <;> simp_all <;> omega
theorem cnt_congr {S T : Nat → Bool} (k : Nat) (h : ∀ v, v < k → S v = T v) : cnt S k = cnt T k := by
 induction k with
 | zero => rfl
 | succ k ih => unfold cnt; rw [ih fun v hv => h v (by omega), h k (by omega)]
def fin (a : Lm) : Prop := ∃ x, a = some x
theorem fin_step {k : Nat} {d : Nat → Nat → Lm} {i j : Nat} (h : fin (d i j)) : fin (stp k d i j) := by
 obtain ⟨x, hx⟩ := h
 unfold stp; rw [hx]
 cases add (d i k) (d k j) <;> simp [mn, fin]
theorem fin_through {k : Nat} {d : Nat → Nat → Lm} {i j : Nat} (h : fin (d i k)) (g : fin (d k j)) : fin (stp k d i j) := by
 obtain ⟨x, hx⟩ := h
 obtain ⟨y, hy⟩ := g
 unfold stp; rw [hx, hy]
 cases d i j <;> simp [mn, add, fin]
theorem fin_tri {m : Nat → Nat → Lm} (K : Nat) (hd : ∀ k, k < K → fw m k k k = some 1) : ∀ v, v < K → ∀ i j, fin (fw m K i v) → fin (fw m K v j) → fin (fw m K i j) := by
 intro v hv i j h g
 obtain ⟨x, hx⟩ := h
 obtain ⟨y, hy⟩ := g
 have t := tri_fw K hd v hv i j
 rw [hx, hy] at t
 cases e : fw m K i j
 · rw [e] at t; simp [le, add] at t
 · exact ⟨_, rfl⟩
theorem fw_bound {m : Nat → Nat → Lm} {U : Int} (hm : ∀ i j x, m i j = some x → x ≤ U) (K : Nat) (hd : ∀ k, k < K → fw m k k k = some 1) :
  ∀ i j x, fw m K i j = some x → ∃ S : Nat → Bool, (∀ v, S v = true → v < K ∧ fin (fw m K i v) ∧ fin (fw m K v j)) ∧ x ≤ U * (cnt S K + 1 : Int) := by
 induction K with
 | zero =>
  intro i j x h
  refine ⟨fun _ => false, by simp, ?_⟩
  have := hm i j x h
  simpa [cnt] using this
 | succ k ih =>
  have ih := ih fun j hj => hd j (by omega)
  have hk := hd k (by omega)
  intro i j x h
  cases ho : fw m k i j with
  | some y =>
   obtain ⟨S, hS, hx⟩ := ih i j y ho
   refine ⟨fun v => S v && decide (v < k), ?_, ?_⟩
   · intro v hv
     simp at hv
     obtain ⟨a, b, c⟩ := hS v hv.1
     exact ⟨by omega, fin_step b, fin_step c⟩
   · have hle : x ≤ y := by
      have := fw_le m k i j
      rw [h, ho] at this; exact this
     have e : cnt (fun v => S v && decide (v < k)) (k + 1) = cnt S k := by
      rw [cnt_succ, cnt_congr (T := S) k fun v hv => by simp [hv]]
      simp
     rw [e]; omega
  | none =>
   have h' : mn (fw m k i j) (add (fw m k i k) (fw m k k j)) = some x := h
   rw [ho] at h'
   cases h1 : fw m k i k with
   | none => rw [h1] at h'; simp [mn, add] at h'
   | some a =>
    cases h2 : fw m k k j with
    | none => rw [h1, h2] at h'; simp [mn, add] at h'
    | some b =>
     rw [h1, h2] at h'
     simp [mn, add] at h'
     obtain ⟨S, hS, hx⟩ := ih i k a h1
     obtain ⟨T, hT, hy⟩ := ih k j b h2
     have apart : ∀ v, v < k → ¬ (S v = true ∧ T v = true) := by
      intro v hv ⟨s, t⟩
      obtain ⟨_, f1, _⟩ := hS v s
      obtain ⟨_, _, f2⟩ := hT v t
      obtain ⟨z, hz⟩ := fin_tri k (fun j hj => hd j (by omega)) v hv i j f1 f2
      rw [ho] at hz; simp at hz
     refine ⟨fun v => if v < k then S v || T v else decide (v = k), ?_, ?_⟩
     · intro v hv
       by_cases hvk : v < k
       · simp [hvk] at hv
         refine ⟨by omega, ?_, ?_⟩
         · rcases hv with s | t
           · exact fin_step (hS v s).2.1
           · exact fin_through ⟨a, h1⟩ (hT v t).2.1
         · rcases hv with s | t
           · exact fin_through (hS v s).2.2 ⟨b, h2⟩
           · exact fin_step (hT v t).2.2
       · simp [hvk] at hv
         subst hv
         exact ⟨by omega, fin_step ⟨a, h1⟩, fin_step ⟨b, h2⟩⟩
     · have e : cnt (fun v => if v < k then S v || T v else decide (v = k)) (k + 1) = cnt S k + cnt T k + 1 := by
        rw [cnt_succ, cnt_congr (T := fun v => S v || T v) k fun v hv => by simp [hv], cnt_or k apart]
        simp
       have px : x ≤ a + b := by
        rw [← h']; unfold ps; split <;> omega
       rw [e]
       have e2 : U * ((cnt S k + cnt T k + 1 : Nat) + 1 : Int) = U * (cnt S k + 1 : Int) + U * (cnt T k + 1 : Int) := by
        rw [← Int.mul_add]; congr 1; omega
       rw [e2]; omega
theorem fw_low {m : Nat → Nat → Lm} {c : Int} (hc : 0 ≤ c) (hm : ∀ i j x, m i j = some x → -c + 1 ≤ x) (k : Nat) : ∀ i j x, fw m k i j = some x → -(c * 2 ^ k) + 1 ≤ x := by
 induction k with
 | zero => intro i j x h; have := hm i j x h; omega
 | succ k ih =>
  intro i j x h
  have e : c * (2 : Int) ^ (k + 1) = 2 * (c * 2 ^ k) := by rw [Int.pow_succ]; grind
  have h' : mn (fw m k i j) (add (fw m k i k) (fw m k k j)) = some x := h
  have c0 : -(c * (2 : Int) ^ k) + 1 ≤ x ∨ -(2 * (c * 2 ^ k)) + 1 ≤ x := by
   rcases mn_cases (fw m k i j) (add (fw m k i k) (fw m k k j)) with g | g
   · left; rw [g] at h'; exact ih i j x h'
   · right
     rw [g] at h'
     cases h1 : fw m k i k with
     | none => rw [h1] at h'; simp [add] at h'
     | some a =>
      cases h2 : fw m k k j with
      | none => rw [h1, h2] at h'; simp [add] at h'
      | some b =>
       rw [h1, h2] at h'
       simp [add] at h'
       have := ih i k a h1
       have := ih k j b h2
       rw [← h']; unfold ps; split <;> omega
  rw [e]
  have p : 0 ≤ c * (2 : Int) ^ k := Int.mul_nonneg hc (Int.le_of_lt (Int.pow_pos (by omega)))
  omega
end Go.Proofs.YthjapmdfcbngmaaGreat.Zo
namespace Go.Proofs.YthjapmdfcbngmaaGreat.Zo
def w64 (x : Int) : Int := (x + 9223372036854775808) % 18446744073709551616 - 9223372036854775808
theorem w64_in {x : Int} (h1 : -9223372036854775808 ≤ x) (h2 : x ≤ 9223372036854775807) : w64 x = x := by unfold w64; omega
def smW (a b : Int) : Int := if a = 1099511627776 ∨ b = 1099511627776 then 1099511627776 else if a % 2 = 0 ∧ b % 2 = 0 then w64 (a + b) else w64 (w64 (a + b) - 1)
def gt (l : List Int) (k : Nat) : Int := l.getD k 0
def ix (n i j : Nat) : Nat := i * (n + 1) + j
def At (n : Nat) (l : List Int) (i j : Nat) : Int := gt l (ix n i j)
theorem ix_lt {n i j : Nat} (hi : i ≤ n) (hj : j ≤ n) : ix n i j < (n + 1) * (n + 1) := by
 unfold ix
 have : i * (n + 1) ≤ n * (n + 1) := Nat.mul_le_mul_right _ hi
 have e : (n + 1) * (n + 1) = n * (n + 1) + (n + 1) := Nat.succ_mul _ _
 omega
theorem ix_inj {n i j a b : Nat} (hj : j ≤ n) (hb : b ≤ n) (h : ix n i j = ix n a b) : i = a ∧ j = b := by
 unfold ix at h
 have h1 : (i * (n + 1) + j) / (n + 1) = i := by
  rw [Nat.mul_comm, Nat.mul_add_div (by omega), Nat.div_eq_of_lt (by omega)]; rfl
 have h2 : (a * (n + 1) + b) / (n + 1) = a := by
  rw [Nat.mul_comm, Nat.mul_add_div (by omega), Nat.div_eq_of_lt (by omega)]; rfl
 have : i = a := by rw [← h1, ← h2, h]
 subst this
 exact ⟨rfl, by omega⟩
theorem gt_set {l : List Int} {k : Nat} (x : Int) (hk : k < l.length) (j : Nat) : gt (l.set k x) j = if j = k then x else gt l j := by
 unfold gt
 by_cases e : j = k
 · subst e; simp [hk]
 · simp [e, Ne.symm e]
theorem At_set {n : Nat} {l : List Int} (hl : l.length = (n + 1) * (n + 1)) {i j : Nat} (hi : i ≤ n) (hj : j ≤ n) (x : Int) {a b : Nat} (hb : b ≤ n) :
  At n (l.set (ix n i j) x) a b = if a = i ∧ b = j then x else At n l a b := by
 unfold At
 rw [gt_set x (by rw [hl]; exact ix_lt hi hj)]
 by_cases e : a = i ∧ b = j
 · rw [if_pos e, if_pos (by rw [e.1, e.2])]
 · rw [if_neg e, if_neg fun h => e (ix_inj hb hj h)]
def st1 (n : Nat) (l : List Int) (j : Nat) : List Int :=
 let l1 := l.set (ix n 0 j) (min (At n l 0 j) 1)
 l1.set (ix n j j) (min (At n l1 j j) 1)
def rlx (n k i : Nat) (l : List Int) (j : Nat) : List Int := l.set (ix n i j) (min (At n l i j) (smW (At n l i k) (At n l k j)))
def rlxJ (n k : Nat) (l : List Int) (i : Nat) : List Int := (List.range (n + 1)).foldl (rlx n k i) l
def rlxI (n : Nat) (l : List Int) (k : Nat) : List Int := (List.range (n + 1)).foldl (rlxJ n k) l
def pre (n : Nat) (l : List Int) : List Int := (List.range (n + 1)).foldl (st1 n) l
def clo (n : Nat) (l : List Int) : List Int := (List.range (n + 1)).foldl (rlxI n) (pre n l)
theorem fold_succ {α : Type} (f : α → Nat → α) (a : α) (t : Nat) : (List.range (t + 1)).foldl f a = f ((List.range t).foldl f a) t := by
 rw [List.range_succ, List.foldl_append]; rfl
theorem fold_keeps {α : Type} {f : α → Nat → α} {R : α → Prop} (N : Nat) (h : ∀ a t, t < N → R a → R (f a t)) (a : α) (ha : R a) : ∀ t, t ≤ N → R ((List.range t).foldl f a) := by
 intro t
 induction t with
 | zero => intro _; exact ha
 | succ t ih => intro ht; rw [fold_succ]; exact h _ _ (by omega) (ih (by omega))
theorem clo_keeps {n : Nat} {R : List Int → Prop} (h1 : ∀ l i j, (i = 0 ∨ i = j) → i ≤ n → j ≤ n → R l → R (l.set (ix n i j) (min (At n l i j) 1)))
  (h2 : ∀ l k i j, k ≤ n → i ≤ n → j ≤ n → R l → R (rlx n k i l j)) {l : List Int} (h : R l) : R (clo n l) := by
 unfold clo pre
 refine fold_keeps (n + 1) (fun a k hk ha => ?_) _ (fold_keeps (n + 1) (fun a j hj ha => ?_) l h _ (Nat.le_refl _)) _ (Nat.le_refl _)
 · refine fold_keeps (n + 1) (fun a i hi ha => ?_) _ ha _ (Nat.le_refl _)
   exact fold_keeps (n + 1) (fun a j hj ha => h2 a k i j (by omega) (by omega) (by omega) ha) _ ha _ (Nat.le_refl _)
 · unfold st1
   exact h1 _ j j (Or.inr rfl) (by omega) (by omega) (h1 a 0 j (Or.inl rfl) (by omega) (by omega) ha)
theorem clo_length (n : Nat) (l : List Int) : (clo n l).length = l.length :=
 clo_keeps (R := fun x => x.length = l.length) (fun _ _ _ _ _ _ h => by simpa using h) (fun _ _ _ _ _ _ _ h => by simpa [rlx] using h) rfl
theorem set_le {n : Nat} {l : List Int} (hl : l.length = (n + 1) * (n + 1)) {i j : Nat} (hi : i ≤ n) (hj : j ≤ n) (y : Int) {a b : Nat} (hb : b ≤ n) : At n (l.set (ix n i j) (min (At n l i j) y)) a b ≤ At n l a b := by
 rw [At_set hl hi hj _ hb]
 split
 · rename_i e; rw [e.1, e.2]; exact Int.min_le_left _ _
 · exact Int.le_refl _
end Go.Proofs.YthjapmdfcbngmaaGreat.Zo
namespace Go.Proofs.YthjapmdfcbngmaaGreat
set_option maxHeartbeats 400000
open Go.RowKit
def Rd (w : World) (a : Addr) (l : List Int) : Prop := ∀ j, j < l.length → w.cell? (a.add j) = some (.int .i64 (Zo.gt l j))
theorem at_any (n i j : Nat) (l : List Int) (a : Addr) (cap : Nat) (w : World) (hn : n ≤ 10) (hi : i ≤ n) (hj : j ≤ n) (hl : l.length = (n + 1) * (n + 1)) (h : Rd w a l) :
  Calls Tryz.prog 85 #[.agg #[.int .i64 n, .slice (some a) l.length cap], .int .i64 i, .int .i64 j] w (Made (.int .i64 (Zo.At n l i j)) w) := by
 have t1 := Zo.ix_lt hi hj
 have t2 : (i : Int) * ((n : Int) + 1) + (j : Int) < (l.length : Int) := by rw [hl]; exact_mod_cast t1
 have t3 : (i : Int) * ((n : Int) + 1) ≤ 110 ∧ 0 ≤ (i : Int) * ((n : Int) + 1) := by
  have : i * (n + 1) ≤ 10 * 11 := Nat.mul_le_mul (by omega) (by omega)
  constructor
  · exact_mod_cast this
  · exact_mod_cast Nat.zero_le _
 have hc : ∀ o : Obj, (w.alloc o).cell? (a.add (i * (n + 1) + j)) = some (.int .i64 (Zo.At n l i j)) := fun o => kept (one_more o) (h _ (by rw [hl]; exact t1))
 clear h t1 hl
 go_enter Tryz.func85, Tryz.ntmps85
 go_wp2_with fail
 go_ret
 exact ⟨rfl, one_more _⟩
def Own (w : World) (g cap : Nat) (l : List Int) : Prop := w.ownsRow 0 37 1 (.slice (some ⟨g, 0, none⟩) l.length cap) l.length (l.map (Value.int .i64))
theorem addr_add (g j : Nat) : (⟨g, 0, none⟩ : Addr).add j = ⟨g, j, none⟩ := by
 unfold Addr.add; split <;> simp_all
theorem Own.rd {w : World} {g cap : Nat} {l : List Int} (h : Own w g cap l) : Rd w ⟨g, 0, none⟩ l := by
 intro j hj
 have := World.ownsRow.cellAt h j (by simpa using hj)
 rw [addr_add, this]; simp [Zo.gt, hj]
theorem Own.lt {w : World} {g cap : Nat} {l : List Int} (h : Own w g cap l) : g < w.heap.size := (World.ownsRow.lt h g rfl).2
theorem Own.kept {w w' : World} {g cap : Nat} {l : List Int} {row : Option Nat} (h : Own w g cap l) (hg : w.grownBy w' row) (hne : some g ≠ row) : Own w' g cap l := World.ownsRow.kept h hg (Or.inr hne)
theorem Own.alloc {w : World} {g cap : Nat} {l : List Int} (h : Own w g cap l) (o : Obj) : Own (w.alloc o) g cap l := World.ownsRow.alloc h o
theorem Own.put {w : World} {g cap : Nat} {l : List Int} (h : Own w g cap l) (j : Nat) (x : Int) : Own (w.setCell ⟨g, j, none⟩ (.int .i64 x)) g cap (l.set j x) ∧ w.grownBy (w.setCell ⟨g, j, none⟩ (.int .i64 x)) (some g) := by
 obtain ⟨h1, h2⟩ := World.ownsRow.stored h j (.int .i64 x)
 refine ⟨?_, h2⟩
 unfold Own
 rw [List.length_set, List.map_set]
 exact h1
theorem grown_trans {w w1 w2 : World} {r : Option Nat} (h : w.grownBy w1 r) (k : w1.grownBy w2 r) : w.grownBy w2 r :=
 ⟨k.os.trans h.os, k.tape.trans h.tape, k.output.trans h.output, Nat.le_trans h.size k.size, fun b hb hne => (k.block b (Nat.lt_of_lt_of_le hb h.size) hne).trans (h.block b hb hne)⟩
theorem set_any (n i j : Nat) (x : Int) (l : List Int) (g cap : Nat) (w : World) (hn : n ≤ 10) (hi : i ≤ n) (hj : j ≤ n) (hl : l.length = (n + 1) * (n + 1)) (h : Own w g cap l) :
  Calls Tryz.prog 111 #[.agg #[.int .i64 n, .slice (some ⟨g, 0, none⟩) l.length cap], .int .i64 i, .int .i64 j, .int .i64 x] w
   (fun e w' => e = .returned (.tuple #[]) ∧ w.grownBy w' (some g) ∧ Own w' g cap (l.set (Zo.ix n i j) x)) := by
 have t1 := Zo.ix_lt hi hj
 have t2 : (i : Int) * ((n : Int) + 1) + (j : Int) < (l.length : Int) := by rw [hl]; exact_mod_cast t1
 have t3 : (i : Int) * ((n : Int) + 1) ≤ 110 ∧ 0 ≤ (i : Int) * ((n : Int) + 1) := by
  have : i * (n + 1) ≤ 10 * 11 := Nat.mul_le_mul (by omega) (by omega)
  constructor
  · exact_mod_cast this
  · exact_mod_cast Nat.zero_le _
 have hc : ∀ o : Obj, (w.alloc o).cell? ⟨g, i * (n + 1) + j, none⟩ = some (.int .i64 (Zo.At n l i j)) := fun o => by
  have := kept (one_more o) (h.rd (Zo.ix n i j) (by rw [hl]; exact t1))
  rwa [addr_add] at this
 have hz : ∀ o : Obj, (w.alloc o).frozen? ⟨g, i * (n + 1) + j, none⟩ = false := fun o => World.ownsRow.frozenAt (h.alloc o) _
 have HO := Lib.hid h
 clear h t1 hl
 go_enter Tryz.func111, Tryz.ntmps111
 go_wp2_with fail
 go_end0
 exact ⟨rfl, grown_trans (World.grownBy_alloc w _ _) ((HO.out.alloc _).put _ _).2, ((HO.out.alloc _).put _ _).1⟩
theorem w64_eq (x : Int) : wrap64 x = Zo.w64 x := by unfold wrap64 Zo.w64; omega
theorem sum2_any (a b : Int) (w : World) : Calls Tryz.prog 87 #[.int .i64 a, .int .i64 b] w (Still (.int .i64 (Zo.smW a b)) w) := by
 by_cases na : a = 1099511627776
 · have A0 : (a == 1099511627776) = true := by simpa using na
   have H := Lib.hid (show Zo.smW a b = 1099511627776 by unfold Zo.smW; rw [if_pos (Or.inl na)])
   clear na
   go_enter Tryz.func87, Tryz.ntmps87
   go_wp2_with fail
   go_ret
   exact ⟨ret_int H.out.symm, rfl⟩
 have A0 : (a == 1099511627776) = false := by simpa using na
 by_cases nb : b = 1099511627776
 · have B0 : (b == 1099511627776) = true := by simpa using nb
   have H := Lib.hid (show Zo.smW a b = 1099511627776 by unfold Zo.smW; rw [if_pos (Or.inr nb)])
   clear na nb
   go_enter Tryz.func87, Tryz.ntmps87
   go_wp2_with fail
   go_ret
   exact ⟨ret_int H.out.symm, rfl⟩
 have B0 : (b == 1099511627776) = false := by simpa using nb
 have h0 : ¬ (a = 1099511627776 ∨ b = 1099511627776) := by omega
 have odd : ∀ x : Int, ¬ x % 2 = 0 → (x.tmod 2 != 0) = true := by
  intro x hx
  have := Int.mul_tdiv_add_tmod x 2
  simp; omega
 have ev : ∀ x : Int, x % 2 = 0 → (x.tmod 2 != 0) = false := by
  intro x hx
  obtain ⟨k, rfl⟩ : ∃ k, x = 2 * k := ⟨x / 2, by omega⟩
  rw [Int.mul_tmod_right]; rfl
 by_cases ea : a % 2 = 0
 · have MA := ev a ea
   by_cases eb : b % 2 = 0
   · have MB := ev b eb
     have H := Lib.hid (show Zo.smW a b = Zo.w64 (a + b) by unfold Zo.smW; rw [if_neg h0, if_pos ⟨ea, eb⟩])
     clear na nb ea eb odd ev h0
     go_enter Tryz.func87, Tryz.ntmps87
     go_wp2_with fail
     go_ret
     exact ⟨ret_int (by rw [H.out, ← w64_eq]), rfl⟩
   · have MB := odd b eb
     have H := Lib.hid (show Zo.smW a b = Zo.w64 (Zo.w64 (a + b) - 1) by unfold Zo.smW; rw [if_neg h0, if_neg (by omega)])
     clear na nb ea eb odd ev h0
     go_enter Tryz.func87, Tryz.ntmps87
     go_wp2_with fail
     go_ret
     exact ⟨ret_int (by rw [H.out, ← w64_eq, ← w64_eq]), rfl⟩
 · have MA := odd a ea
   have H := Lib.hid (show Zo.smW a b = Zo.w64 (Zo.w64 (a + b) - 1) by unfold Zo.smW; rw [if_neg h0, if_neg (by omega)])
   clear na nb ea odd ev h0
   go_enter Tryz.func87, Tryz.ntmps87
   go_wp2_with fail
   go_ret
   exact ⟨ret_int (by rw [H.out, ← w64_eq, ← w64_eq]), rfl⟩
def dimB (n : Int) : Bool := decide (0 ≤ n ∧ n ≤ 10)
theorem dimension_any (n : Int) (w : World) : Calls Tryz.prog 84 #[.int .i64 n] w (Still (.bool (dimB n)) w) := by
 by_cases h : 0 ≤ n
 · by_cases g : n ≤ 10
   · have H := Lib.hid (show dimB n = true by unfold dimB; simp; omega)
     go_enter Tryz.func84, Tryz.ntmps84
     go_wp2_with fail
     go_ret
     exact ⟨ret_bool H.out.symm, rfl⟩
   · have H := Lib.hid (show dimB n = false by unfold dimB; simp; omega)
     have D : decide (n ≤ (10 : Int)) = false := by simp; omega
     go_enter Tryz.func84, Tryz.ntmps84
     go_wp2_with fail
     go_ret
     exact ⟨ret_bool H.out.symm, rfl⟩
 · have H := Lib.hid (show dimB n = false by unfold dimB; simp; omega)
   have D : decide ((0 : Int) ≤ n) = false := by simp; omega
   go_enter Tryz.func84, Tryz.ntmps84
   go_wp2_with fail
   go_ret
   exact ⟨ret_bool H.out.symm, rfl⟩
end Go.Proofs.YthjapmdfcbngmaaGreat
