/- Lists of int64 of the call's own, which are written.; The contract of Copy of layer 3's reference; and of Reset of any zone.; Plain mathematics: constraints on what is closed; Reset and Copy in one closing.; Contracts of two, Includes, Meet and Hull of layer 3's reference.; Plain mathematics: what widening makes of a canonical matrix.; WidenGrows, for whatever arguments.; WidenGrows, for whatever arguments: the walk. -/
import Derived.Test.YtjfhjckacfkpoaaHa4
import Derived.Test.YtjfhjckacfkpoaaHa1
import Derived.Test.YtjfhjckacfkpoaaHa3

namespace Go.Proofs.Ytjfhjckacfkpoaa
open Go.RowKit

def OwnJ (w : World) (g cap : Nat) (l : List Int) : Prop := w.ownsRow 0 2 1 (.slice (some ⟨g, 0, none⟩) l.length cap) l.length (l.map (Value.int .i64))

theorem OwnJ.rd {w : World} {g cap : Nat} {l : List Int} (h : OwnJ w g cap l) : Rd w ⟨g, 0, none⟩ l := by
  intro j hj
  have := World.ownsRow.cellAt h j (by simpa using hj)
  rw [addr_add, this]; simp [Zo.gt, hj]

theorem OwnJ.lt {w : World} {g cap : Nat} {l : List Int} (h : OwnJ w g cap l) : g < w.heap.size := (World.ownsRow.lt h g rfl).2

theorem OwnJ.arg {w : World} {g c : Nat} {l : List Int} (h : OwnJ w g c l) : Arg w (some ⟨g, 0, none⟩) l := fun _ => ⟨_, rfl, h.rd⟩

theorem OwnJ.on {w w' : World} {g cap : Nat} {l : List Int} (h : OwnJ w g cap l) (hb : Below w.heap.size w w') : OwnJ w' g cap l := World.ownsRow.kept h (grown_of_below (r := none) hb) (Or.inr (by simp [Value.ownBlock]))

theorem OwnJ.grown {w w' : World} {g b cap : Nat} {l : List Int} (h : OwnJ w g cap l) (hg : w.grownBy w' (some b)) (hne : g ≠ b) : OwnJ w' g cap l := World.ownsRow.kept h hg (Or.inr (by simpa [Value.ownBlock] using hne))

theorem OwnJ.get {w : World} {g c : Nat} {l : List Int} (h : OwnJ w g c l) {k : Nat} (hk : k < l.length) : w.cell? ⟨g, k, none⟩ = some (.int .i64 (Zo.gt l k)) ∧ w.frozen? ⟨g, k, none⟩ = false := by
  refine ⟨?_, World.ownsRow.frozenAt h k⟩
  have := h.rd k hk
  rwa [addr_add] at this

theorem OwnJ.put {w : World} {g cap : Nat} {l : List Int} (h : OwnJ w g cap l) (j : Nat) (x : Int) : OwnJ (w.setCell ⟨g, j, none⟩ (.int .i64 x)) g cap (l.set j x) ∧ w.grownBy (w.setCell ⟨g, j, none⟩ (.int .i64 x)) (some g) := by
  obtain ⟨h1, h2⟩ := World.ownsRow.stored h j (.int .i64 x)
  refine ⟨?_, h2⟩
  unfold OwnJ
  rw [List.length_set, List.map_set]
  exact h1

theorem run_own {w : World} {t : TypeId} {i0 : TypeInfo} (h1 : Try.prog.underlying t = some (.slice 2)) (h2 : Try.prog.info? 2 = some i0) (h3 : i0.zero = some (.int .i64 0)) (h4 : i0.size = 1) (h5 : i0.bytes = 8)
    {ao : Option Addr} {l : List Int} {cap : Nat} (hS : Src w ao l cap) (hl : l.length ≤ 1000) :
    ∃ g c w', (Builtin.append_ #[t, t] t #[.slice (some ⟨w.heap.size, 0, none⟩) 0 0, .slice ao l.length cap]).run Try.prog (w.alloc (.cells #[] 2)) = .ok (.slice (some ⟨g, 0, none⟩) l.length c) w' ∧ OwnJ w' g c l ∧ w.heap.size ≤ g ∧ Below w.heap.size w w' := by
  have hown := Emp.made w w.heap.size 2 (Nat.le_refl _)
  have hB : w.heap.size ≤ (w.alloc (.cells #[] 2)).heap.size := by simp
  have hb1 := one_more (w1 := w) (.cells #[] 2)
  have hS1 := hS.on hb1
  have low : ∀ {w' : World} {r : Option Nat} (_ : (w.alloc (.cells #[] 2)).grownBy w' r) (_ : r = none ∨ r = some w.heap.size), Below w.heap.size w w' := fun {w' r} hg hr => by
    refine hb1.trans ⟨hg.os, hg.tape, hg.output, hg.size, fun k hk => hg.block k (by simp; omega) ?_⟩
    rcases hr with rfl | rfl
    · simp
    · simp; omega
  cases ao with
  | none =>
    obtain ⟨rfl, rfl⟩ := hS.2 rfl
    exact ⟨w.heap.size, 0, _, run_append_owned_none _ w.heap.size t t _ i0 1 h1 h2 _ _ _ hown, World.ownsRow.mono hown (Nat.zero_le _), Nat.le_refl _, hb1⟩
  | some a =>
    by_cases c : l = []
    · subst c
      obtain ⟨w', hrun, r1, r2⟩ := run_append_fits (P := Try.prog) _ w.heap.size t t _ i0 1 h1 h2 h4 w.heap.size 0 0 [] hown a 0 cap [] rfl (by intro j u q; simp at q) (by simp) (by omega)
      exact ⟨w.heap.size, 0, w', hrun, World.ownsRow.mono r1 (Nat.zero_le _), Nat.le_refl _, low r2 (Or.inr rfl)⟩
    · have hr : ∀ j u, (l.map (Value.int .i64))[j]? = some u → (w.alloc (.cells #[] 2)).cell? (a.add j) = some u := by
        obtain ⟨a', e', h⟩ := hS1.1 c
        injection e' with e'
        subst e'
        exact h.map
      have hp : 0 < l.length := List.length_pos_iff.2 c
      obtain ⟨v', w', hrun, r1, r2⟩ := run_append_arg_grows (P := Try.prog) _ t t _ i0 (.int .i64 0) 1 8 h1 h2 h3 h4 h5 rfl (by decide) ⟨w.heap.size, 0, none⟩ 0 0 [] rfl (by intro j u q; simp at q) a l.length cap (l.map (Value.int .i64)) (by simp) hr (by omega) (by unfold maxLen; omega) (by omega)
      rw [show ([] : List Value) ++ l.map (Value.int .i64) = l.map (Value.int .i64) from rfl, Nat.zero_add] at r1
      obtain ⟨g, c', rfl⟩ := Joins.ownsRow_form r1 hp
      have hlt := World.ownsRow.lt r1 g rfl
      exact ⟨g, c', w', hrun, World.ownsRow.mono r1 (Nat.zero_le _), by have := hlt.1; simp at this; omega, low r2 (Or.inl rfl)⟩

def imax (x y : Int) : Int := max x y

theorem run_imax (x y : Int) (ts : Array TypeId) (t : TypeId) (W : World) : (Builtin.max_ ts t #[.int .i64 x, .int .i64 y]).run Try.prog W = .ok (.int .i64 (imax x y)) W := by
  rw [run_max_int2]; unfold imax
  congr 2
  split
  · rw [Int.max_eq_right (by omega)]
  · rw [Int.max_eq_left (by omega)]
end Go.Proofs.Ytjfhjckacfkpoaa

namespace Go.Proofs.Ytjfhjckacfkpoaa
open Go.RowKit

def reG (N : Int) (l : List Int) (i c : Int) : Int := if chkE N l = 0 ∧ 1 ≤ i ∧ i ≤ N ∧ cnB c = true then reE N.toNat i.toNat c l else 2

def cyL (n i j : Nat) (l : List Int) : List Int := Zo.clo n (anL n (isC i j 0) (reM n i l))

def cyE (n i j : Nat) (l : List Int) : Int := if cloE n (frL n i l) = 0 then anG n (isC i j 0) (reM n i l) else cloE n (frL n i l)

def cyM (n i j : Nat) (l : List Int) : List Int := if i = j then l else cyL n i j l

def cyG (N : Int) (l : List Int) (i j : Int) : Int := if chkE N l = 0 ∧ 1 ≤ i ∧ i ≤ N ∧ 0 ≤ j ∧ j ≤ N then (if i = j then 0 else cyE N.toNat i.toNat j.toNat l) else 2
end Go.Proofs.Ytjfhjckacfkpoaa

namespace Go.Proofs.Ytjfhjckacfkpoaa
open Go.RowKit

theorem okC_parts {n : Nat} {c : Con} (h : okC n c = true) : c.1.toNat ≤ n ∧ c.2.1.toNat ≤ n ∧ Zo.Vl c.2.2 := by
  unfold okC at h
  simp only [Bool.and_eq_true, decide_eq_true_eq] at h
  exact ⟨by omega, by omega, vl_of_lv h.2⟩

theorem anS_len (n : Nat) (cs : List Con) (x : List Int) (t : Nat) : (anS n cs x t).length = x.length := by simp [anS]

theorem anS_at {n : Nat} {cs : List Con} {x : List Int} {t : Nat} (hx : x.length = (n + 1) * (n + 1)) (h : okC n (gc cs t) = true) {a b : Nat} (hb : b ≤ n) :
    Zo.At n (anS n cs x t) a b = if a = (gc cs t).1.toNat ∧ b = (gc cs t).2.1.toNat then imin (Zo.At n x (gc cs t).1.toNat (gc cs t).2.1.toNat) (gc cs t).2.2 else Zo.At n x a b := by
  obtain ⟨p1, p2, _⟩ := okC_parts h
  unfold anS
  rw [Zo.At_set hx p1 p2 _ hb]

theorem an_len (n : Nat) (cs : List Con) (u : List Int) (s : Nat) : ((List.range s).foldl (anS n cs) u).length = u.length := fold_len (anS_len n cs) u s

theorem an_le {n : Nat} {cs : List Con} (hok : ∀ t, t < cs.length → okC n (gc cs t) = true) {u : List Int} (hu : u.length = (n + 1) * (n + 1)) : ∀ s, s ≤ cs.length → Zo.Le n ((List.range s).foldl (anS n cs) u) u := by
  intro s
  induction s with
  | zero => intro _ a b _ _; exact Int.le_refl _
  | succ s ih =>
    intro hs a b ha hb
    obtain ⟨p1, p2, _⟩ := okC_parts (hok s (by omega))
    rw [Zo.fold_succ]
    exact Int.le_trans (Zo.set_le (by rw [an_len, hu]) p1 p2 _ hb) (ih (by omega) a b ha hb)

theorem an_at {n : Nat} {cs : List Con} (hok : ∀ t, t < cs.length → okC n (gc cs t) = true) {u : List Int} (hu : u.length = (n + 1) * (n + 1)) : ∀ s, s ≤ cs.length → ∀ t, t < s → Zo.At n ((List.range s).foldl (anS n cs) u) (gc cs t).1.toNat (gc cs t).2.1.toNat ≤ (gc cs t).2.2 := by
  intro s
  induction s with
  | zero => intro _ t ht; omega
  | succ s ih =>
    intro hs t ht
    obtain ⟨p1, p2, _⟩ := okC_parts (hok s (by omega))
    obtain ⟨q1, q2, _⟩ := okC_parts (hok t (by omega))
    rw [Zo.fold_succ]
    by_cases e : t = s
    · subst e
      rw [anS_at (by rw [an_len, hu]) (hok t (by omega)) p2, if_pos ⟨rfl, rfl⟩]
      unfold imin; omega
    · exact Int.le_trans (Zo.set_le (by rw [an_len, hu]) p1 p2 _ q2) (ih (by omega) t (by omega))

theorem an_T {n : Nat} {cs : List Con} (hok : ∀ t, t < cs.length → okC n (gc cs t) = true) {u v c : List Int} (hu : u.length = (n + 1) * (n + 1)) (hv : v.length = (n + 1) * (n + 1)) (h1 : Zo.Le n c u) (h2 : Zo.Le n c (anL n cs v)) : Zo.Le n c (anL n cs u) := by
  have hL : ∀ t, t < cs.length → Zo.At n c (gc cs t).1.toNat (gc cs t).2.1.toNat ≤ (gc cs t).2.2 := fun t ht => by
    obtain ⟨q1, q2, _⟩ := okC_parts (hok t ht)
    exact Int.le_trans (h2 _ _ q1 q2) (an_at hok hv cs.length (Nat.le_refl _) t ht)
  have : ∀ s, s ≤ cs.length → Zo.Le n c ((List.range s).foldl (anS n cs) u) := by
    intro s
    induction s with
    | zero => intro _; exact h1
    | succ s ih =>
      intro hs a b ha hb
      obtain ⟨p1, p2, _⟩ := okC_parts (hok s (by omega))
      rw [Zo.fold_succ]
      rw [anS_at (by rw [an_len, hu]) (hok s (by omega)) hb]
      split
      · rename_i e
        have g1 := ih (by omega) a b ha hb
        have g2 := hL s (by omega)
        rw [← e.1, ← e.2] at g2 ⊢
        unfold imin
        omega
      · exact ih (by omega) a b ha hb
  exact this cs.length (Nat.le_refl _)

theorem an_wl {n : Nat} {cs : List Con} (hok : ∀ t, t < cs.length → okC n (gc cs t) = true) {u : List Int} (hu : u.length = (n + 1) * (n + 1)) (h : ∀ a b, a ≤ n → b ≤ n → Zo.Wl (Zo.At n u a b)) : ∀ a b, a ≤ n → b ≤ n → Zo.Wl (Zo.At n (anL n cs u) a b) := by
  have : ∀ s, s ≤ cs.length → ∀ a b, a ≤ n → b ≤ n → Zo.Wl (Zo.At n ((List.range s).foldl (anS n cs) u) a b) := by
    intro s
    induction s with
    | zero => intro _; exact h
    | succ s ih =>
      intro hs a b ha hb
      obtain ⟨p1, p2, p3⟩ := okC_parts (hok s (by omega))
      rw [Zo.fold_succ]
      rw [anS_at (by rw [an_len, hu]) (hok s (by omega)) hb]
      split
      · have := ih (by omega) _ _ p1 p2
        unfold imin
        unfold Zo.Vl at p3
        unfold Zo.Wl at *
        omega
      · exact ih (by omega) a b ha hb
  exact this cs.length (Nat.le_refl _)

/-- Closed, constrained and closed again. -/
theorem an_twice {n : Nat} {cs : List Con} {x : List Int} (hn : n ≤ 10) (hok : ∀ t, t < cs.length → okC n (gc cs t) = true) (hx : x.length = (n + 1) * (n + 1)) (hv : ∀ a b, a ≤ n → b ≤ n → Zo.Wl (Zo.At n x a b)) (hz : cloE n x = 0) :
    cloE n (anL n cs (Zo.clo n x)) = cloE n (anL n cs x) ∧ (cloE n (anL n cs x) = 0 → Zo.clo n (anL n cs (Zo.clo n x)) = Zo.clo n (anL n cs x)) := by
  obtain ⟨_, hr⟩ := cloE_zero.1 hz
  have lx : (Zo.clo n x).length = (n + 1) * (n + 1) := by rw [Zo.clo_length, hx]
  obtain ⟨t1, t2⟩ := Zo.clo_twice (T := anL n cs) hn hx hv (fun u => anL_len n cs u) (fun u hu => an_le hok hu cs.length (Nat.le_refl _)) (fun u v c hu hv => an_T hok hu hv) (an_wl hok hx hv) (an_wl hok lx (wl_of lx hr))
  rw [← cloB_iff, ← cloB_iff] at t1
  rw [← cloB_iff] at t2
  constructor
  · cases hb : cloB n (anL n cs x)
    · have e := t2 hb
      unfold cloE
      rw [hb, t1.1 hb, e]
    · have hb2 : cloB n (anL n cs (Zo.clo n x)) = true := by
        cases h : cloB n (anL n cs (Zo.clo n x))
        · rw [t1.2 h] at hb; cases hb
        · rfl
      unfold cloE
      rw [hb, hb2]; rfl
  · intro h
    exact (t2 (cloE_zero.1 h).1).symm

theorem isC_ok {n i j : Nat} {c : Int} (hi : i ≤ n) (hj : j ≤ n) (h0 : 0 ≤ c) (h1 : c ≤ 1048576) : ∀ t, t < (isC i j c).length → okC n (gc (isC i j c) t) = true := by
  intro t ht
  have : t = 0 ∨ t = 1 := by simp [isC] at ht; omega
  rcases this with rfl | rfl
  · simp [gc, isC, okC, lvB]; omega
  · simp [gc, isC, okC, lvB]; omega

theorem okC_all {n : Nat} {cs : List Con} (h : ∀ t, t < cs.length → okC n (gc cs t) = true) : cs.all (okC n) = true := by
  rw [List.all_eq_true]
  intro x hx
  obtain ⟨k, hk, rfl⟩ := List.getElem_of_mem hx
  have := h k hk
  simpa [gc, hk] using this

/-- Free and then constraints, in one closing. -/
theorem free_and {n i : Nat} {cs : List Con} {l : List Int} (hn : n ≤ 10) (hl : l.length = (n + 1) * (n + 1)) (hc : chkE n l = 0) (h1 : 1 ≤ i) (hi : i ≤ n) (hok : ∀ t, t < cs.length → okC n (gc cs t) = true) :
    (if cloE n (frL n i l) = 0 then anG n cs (reM n i l) else cloE n (frL n i l)) = cloE n (anL n cs (rlL n i l)) ∧
      (cloE n (anL n cs (rlL n i l)) = 0 → Zo.clo n (anL n cs (reM n i l)) = Zo.clo n (anL n cs (rlL n i l))) := by
  obtain ⟨e, hz⟩ := fr_zone hn hl hc h1 hi
  have lf : (frL n i l).length = (n + 1) * (n + 1) := by rw [frL_len, hl]
  have lr : (rlL n i l).length = (n + 1) * (n + 1) := by rw [rlL_len, hl]
  have vl := vl_of hl (chk_64 hc).2
  have rv : ∀ a b, a ≤ n → b ≤ n → Zo.Wl (Zo.At n (rlL n i l) a b) := by
    intro a b ha hb
    rw [rlL_at hl hi ha hb]
    split
    · exact Or.inl rfl
    · exact (vl a b ha hb).wl
  have hp := fr_pre hl hi hc
  have hz2 : cloE n (rlL n i l) = 0 := by rw [cloE_pre hp]; exact hz
  have hre : reM n i l = Zo.clo n (rlL n i l) := by unfold reM; rw [Zo.clo_pre hp]
  have hck : chkE n (reM n i l) = 0 := by rw [hre]; exact clo_chk hn lr rv hz2
  obtain ⟨t1, t2⟩ := an_twice hn hok lr rv hz2
  rw [if_pos hz]
  constructor
  · unfold anG anE
    rw [if_pos hck]
    simp only [Int.toNat_natCast]
    rw [okC_all hok, if_pos rfl, hre, t1]
  · intro h
    rw [hre]; exact t2 h
end Go.Proofs.Ytjfhjckacfkpoaa

namespace Go.Proofs.Ytjfhjckacfkpoaa
open Go.RowKit

def twB (N M : Int) (l m : List Int) : Bool := decide (chkE N l = 0) && decide (chkE M m = 0) && decide (N = M)

/-- Two boxed zones. -/
theorem two_boxes (w : World) (u v x y : Value) (t : TypeId) : Two ((w.alloc (.cells #[u, v] t)).alloc (.cells #[x, y] t)) w.heap.size u v ∧ Two ((w.alloc (.cells #[u, v] t)).alloc (.cells #[x, y] t)) (w.heap.size + 1) x y := by
  refine ⟨(Two.made _ _ _ _).alloc _, ?_⟩
  have := Two.made (w.alloc (.cells #[u, v] t)) x y t
  simpa using this

set_option maxHeartbeats 800000 in
theorem two_any (N M : Int) (l m : List Int) (ao bo : Option Addr) (ca cb : Nat) (w : World) (hA : Arg w ao l) (hB : Arg w bo m) :
    Calls Try.prog 33 #[.agg #[.int .i64 N, .slice ao l.length ca], .agg #[.int .i64 M, .slice bo m.length cb]] w (Made (.bool (twB N M l m)) w) := by
  obtain ⟨e1, he1⟩ : ∃ e, e = chkE N l := ⟨_, rfl⟩
  obtain ⟨e2, he2⟩ : ∃ e, e = chkE M m := ⟨_, rfl⟩
  have CA := Lib.hid fun W (h : Below w.heap.size w W) => check_as (cap := ca) W (hA.on h) he1.symm
  have CB := Lib.hid fun W (h : Below w.heap.size w W) => check_as (cap := cb) W (hB.on h) he2.symm
  have HT := Lib.hid (show twB N M l m = (decide (e1 = 0) && decide (e2 = 0) && decide (N = M)) by rw [he1, he2]; rfl)
  clear hA hB he1 he2
  generalize l.length = len at *
  generalize m.length = mlen at *
  generalize twB N M l m = tb at *
  obtain ⟨w0, hw0⟩ : ∃ w0, w0 = (w.alloc (.cells #[.int .i64 N, .slice ao len ca] 24)).alloc (.cells #[.int .i64 M, .slice bo mlen cb] 24) := ⟨_, rfl⟩
  obtain ⟨bx, by'⟩ := two_boxes w (.int .i64 N) (.slice ao len ca) (.int .i64 M) (.slice bo mlen cb) 24
  rw [← hw0] at bx by'
  have E0 := Lib.hid (show Below w.heap.size w w0 by rw [hw0]; exact past_two (Below.refl _ _))
  have HW0 := Lib.hid hw0
  clear hw0
  by_cases c1 : e1 = 0
  · by_cases c2 : e2 = 0
    · by_cases c3 : N = M
      · have HE := Lib.hid (show tb = true by rw [HT.out]; simp [c1, c2, c3])
        have B1 : (e1 == 0) = true := by simpa using c1
        have B2 : (e2 == 0) = true := by simpa using c2
        have B3 : (N == M) = true := by simpa using c3
        clear c1 c2 c3 HT
        go_enter Try.func33, Try.ntmps33
        go_wp2_with fail
        rw [← HW0.out]
        obtain ⟨b0, b1, b2, b3⟩ := bx.facts
        go_wp2_with fail
        refine (CA.out _ E0.out).mono ?_
        rintro e w1 ⟨rfl, hb1⟩
        clear b0 b1 b2 b3
        replace bx := bx.kept hb1
        replace by' := by'.kept hb1
        replace E0 := Lib.hid (below_on E0.out hb1)
        clear hb1
        obtain ⟨b0, b1, b2, b3⟩ := bx.facts
        obtain ⟨d0, d1, d2, d3⟩ := by'.facts
        go_wp2_with fail
        refine (CB.out _ E0.out).mono ?_
        rintro e w2 ⟨rfl, hb2⟩
        clear b0 b1 b2 b3 d0 d1 d2 d3
        replace bx := bx.kept hb2
        replace by' := by'.kept hb2
        replace E0 := Lib.hid (below_on E0.out hb2)
        clear hb2
        obtain ⟨b0, b1, b2, b3⟩ := bx.facts
        obtain ⟨d0, d1, d2, d3⟩ := by'.facts
        go_wp2_with fail
        try (go_quiet (fail); go_wp2_with fail)
        go_ret
        exact ⟨ret_bool HE.out.symm, by first | exact E0.out | exact below_drewN E0.out _⟩
      · have HE := Lib.hid (show tb = false by rw [HT.out]; simp [c3])
        have B1 : (e1 == 0) = true := by simpa using c1
        have B2 : (e2 == 0) = true := by simpa using c2
        have B3 : (N == M) = false := by simpa using c3
        clear c1 c2 c3 HT
        go_enter Try.func33, Try.ntmps33
        go_wp2_with fail
        rw [← HW0.out]
        obtain ⟨b0, b1, b2, b3⟩ := bx.facts
        go_wp2_with fail
        refine (CA.out _ E0.out).mono ?_
        rintro e w1 ⟨rfl, hb1⟩
        clear b0 b1 b2 b3
        replace bx := bx.kept hb1
        replace by' := by'.kept hb1
        replace E0 := Lib.hid (below_on E0.out hb1)
        clear hb1
        obtain ⟨b0, b1, b2, b3⟩ := bx.facts
        obtain ⟨d0, d1, d2, d3⟩ := by'.facts
        go_wp2_with fail
        refine (CB.out _ E0.out).mono ?_
        rintro e w2 ⟨rfl, hb2⟩
        clear b0 b1 b2 b3 d0 d1 d2 d3
        replace bx := bx.kept hb2
        replace by' := by'.kept hb2
        replace E0 := Lib.hid (below_on E0.out hb2)
        clear hb2
        obtain ⟨b0, b1, b2, b3⟩ := bx.facts
        obtain ⟨d0, d1, d2, d3⟩ := by'.facts
        go_wp2_with fail
        try (go_quiet (fail); go_wp2_with fail)
        go_ret
        exact ⟨ret_bool HE.out.symm, by first | exact E0.out | exact below_drewN E0.out _⟩
    · have HE := Lib.hid (show tb = false by rw [HT.out]; simp [c2])
      have B1 : (e1 == 0) = true := by simpa using c1
      have B2 : (e2 == 0) = false := by simpa using c2
      clear c1 c2 HT
      go_enter Try.func33, Try.ntmps33
      go_wp2_with fail
      rw [← HW0.out]
      obtain ⟨b0, b1, b2, b3⟩ := bx.facts
      go_wp2_with fail
      refine (CA.out _ E0.out).mono ?_
      rintro e w1 ⟨rfl, hb1⟩
      clear b0 b1 b2 b3
      replace bx := bx.kept hb1
      replace by' := by'.kept hb1
      replace E0 := Lib.hid (below_on E0.out hb1)
      clear hb1
      obtain ⟨b0, b1, b2, b3⟩ := bx.facts
      obtain ⟨d0, d1, d2, d3⟩ := by'.facts
      go_wp2_with fail
      refine (CB.out _ E0.out).mono ?_
      rintro e w2 ⟨rfl, hb2⟩
      clear b0 b1 b2 b3 d0 d1 d2 d3
      replace bx := bx.kept hb2
      replace by' := by'.kept hb2
      replace E0 := Lib.hid (below_on E0.out hb2)
      clear hb2
      obtain ⟨b0, b1, b2, b3⟩ := bx.facts
      obtain ⟨d0, d1, d2, d3⟩ := by'.facts
      go_wp2_with fail
      try (go_quiet (fail); go_wp2_with fail)
      go_ret
      exact ⟨ret_bool HE.out.symm, by first | exact E0.out | exact below_drewN E0.out _⟩
  · have HE := Lib.hid (show tb = false by rw [HT.out]; simp [c1])
    have B1 : (e1 == 0) = false := by simpa using c1
    clear c1 HT
    go_enter Try.func33, Try.ntmps33
    go_wp2_with fail
    rw [← HW0.out]
    obtain ⟨b0, b1, b2, b3⟩ := bx.facts
    go_wp2_with fail
    refine (CA.out _ E0.out).mono ?_
    rintro e w1 ⟨rfl, hb1⟩
    clear b0 b1 b2 b3
    replace bx := bx.kept hb1
    replace by' := by'.kept hb1
    replace E0 := Lib.hid (below_on E0.out hb1)
    clear hb1
    obtain ⟨b0, b1, b2, b3⟩ := bx.facts
    obtain ⟨d0, d1, d2, d3⟩ := by'.facts
    go_wp2_with fail
    try (go_quiet (fail); go_wp2_with fail)
    go_ret
    exact ⟨ret_bool HE.out.symm, by first | exact E0.out | exact below_drewN E0.out _⟩

theorem tw_no {N M : Int} {l m : List Int} (h : twB N M l m = false) : ¬ (chkE N l = 0 ∧ chkE M m = 0 ∧ N = M) := by
  rintro ⟨a, b, c⟩
  subst c
  simp [twB, a, b] at h

theorem tw_yes {N M : Int} {l m : List Int} (h : twB N M l m = true) : chkE N l = 0 ∧ chkE M m = 0 ∧ N = M := by
  unfold twB at h; simp at h; exact ⟨h.1.1, h.1.2, h.2⟩

def inB (l m : List Int) : Bool := (List.range l.length).all fun k => decide (Zo.gt m k ≤ Zo.gt l k)

def inR (N M : Int) (l m : List Int) : Bool := twB N M l m && inB l m

def inE (N M : Int) (l m : List Int) : Int := if twB N M l m then 0 else 2

set_option maxHeartbeats 400000 in
theorem includes_bad (N M : Int) (l m : List Int) (ao bo : Option Addr) (ca cb : Nat) (w : World) (hA : Arg w ao l) (hB : Arg w bo m) (ht : twB N M l m = false) :
    Calls Try.prog 14 #[.agg #[.int .i64 N, .slice ao l.length ca], .agg #[.int .i64 M, .slice bo m.length cb]] w (Made (.tuple #[.bool (inR N M l m), .int .i64 (inE N M l m)]) w) := by
  have H := Lib.hid (show inR N M l m = false ∧ inE N M l m = 2 by simp [inR, inE, ht])
  have TW := Lib.hid fun W (h : Below w.heap.size w W) => by have := two_any N M l m ao bo ca cb W (hA.on h) (hB.on h); rw [ht] at this; exact this
  generalize l.length = len at *
  generalize m.length = mlen at *
  obtain ⟨w0, hw0⟩ : ∃ w0, w0 = (w.alloc (.cells #[.int .i64 N, .slice ao len ca] 24)).alloc (.cells #[.int .i64 M, .slice bo mlen cb] 24) := ⟨_, rfl⟩
  obtain ⟨bx, by'⟩ := two_boxes w (.int .i64 N) (.slice ao len ca) (.int .i64 M) (.slice bo mlen cb) 24
  rw [← hw0] at bx by'
  have E0 := Lib.hid (show Below w.heap.size w w0 by rw [hw0]; exact past_two (Below.refl _ _))
  have HW0 := Lib.hid hw0
  clear hw0
  clear hA hB ht
  go_enter Try.func14, Try.ntmps14
  go_wp2_with fail
  rw [← HW0.out]
  obtain ⟨b0, b1, b2, b3⟩ := bx.facts
  obtain ⟨d0, d1, d2, d3⟩ := by'.facts
  go_wp2_with fail
  refine (TW.out _ E0.out).mono ?_
  rintro e w1 ⟨rfl, hb1⟩
  go_wp2_with fail
  go_ret2
  exact ⟨by rw [H.out.1, H.out.2]; rfl, below_on E0.out hb1⟩

set_option maxHeartbeats 1600000 in
theorem includes_any (n : Nat) (l m : List Int) (a b : Addr) (ca cb : Nat) (w : World) (hn : n ≤ 10) (hl : l.length = (n + 1) * (n + 1)) (hm : m.length = (n + 1) * (n + 1)) (hR : Rd w a l) (hQ : Rd w b m) (ht : twB n n l m = true) :
    Calls Try.prog 14 #[.agg #[.int .i64 n, .slice (some a) l.length ca], .agg #[.int .i64 n, .slice (some b) m.length cb]] w (Made (.tuple #[.bool (inR n n l m), .int .i64 (inE n n l m)]) w) := by
  obtain ⟨len, hlen⟩ : ∃ len, len = l.length := ⟨_, rfl⟩
  have lb : len ≤ 121 := by rw [hlen, hl]; exact dsq_le hn
  have hml : m.length = len := by rw [hm, hlen, hl]
  have TW : Hid (∀ W, Below w.heap.size w W → Calls Try.prog 33 #[.agg #[.int .i64 n, .slice (some a) len ca], .agg #[.int .i64 n, .slice (some b) len cb]] W (Made (.bool true) W)) := Lib.hid fun W h => by have := two_any n n l m (some a) (some b) ca cb W (fun _ => ⟨_, rfl, hR.on h⟩) (fun _ => ⟨_, rfl, hQ.on h⟩); rw [ht, hml, ← hlen] at this; exact this
  have H0 := Lib.hid (show inR n n l m = inB l m ∧ inE n n l m = 0 by simp [inR, inE, ht])
  obtain ⟨w0, hw0⟩ : ∃ w0, w0 = (w.alloc (.cells #[.int .i64 n, .slice (some a) len ca] 24)).alloc (.cells #[.int .i64 n, .slice (some b) len cb] 24) := ⟨_, rfl⟩
  obtain ⟨bx, by'⟩ := two_boxes w (.int .i64 n) (.slice (some a) len ca) (.int .i64 n) (.slice (some b) len cb) 24
  rw [← hw0] at bx by'
  have E0 := Lib.hid (show Below w.heap.size w w0 by rw [hw0]; exact past_two (Below.refl _ _))
  have HW0 := Lib.hid hw0
  have HR := Lib.hid hR
  have HQ := Lib.hid hQ
  have HL := Lib.hid hlen
  have HM := Lib.hid hml
  rw [hml, ← hlen]
  clear hR hQ ht hl hm hlen hml hw0
  go_enter Try.func14, Try.ntmps14
  go_wp2_with fail
  rw [← HW0.out]
  obtain ⟨b0, b1, b2, b3⟩ := bx.facts
  obtain ⟨d0, d1, d2, d3⟩ := by'.facts
  go_wp2_with fail
  refine (TW.out _ E0.out).mono ?_
  rintro e w1 ⟨rfl, hb1⟩
  clear b0 b1 b2 b3 d0 d1 d2 d3
  replace bx := bx.kept hb1
  replace by' := by'.kept hb1
  replace E0 := Lib.hid (below_on E0.out hb1)
  clear hb1
  go_wp2_with fail
  go_loopw [6] (fun s wr => ∃ t : Nat, t ≤ len ∧ s = .int .i64 t ∧ Hid (∀ k, k < t → Zo.gt m k ≤ Zo.gt l k) ∧ Hid (Below w1.heap.size w1 wr)) (fun s _ => len - (intOf s).toNat)
  case atStart => exact ⟨0, by omega, rfl, Lib.hid (fun k hk => by omega), Lib.hid (Below.refl _ _)⟩
  case round =>
    obtain ⟨t, ht, rfl, HK, HBw⟩ := hrel
    obtain ⟨b0, b1, b2, b3⟩ := (bx.kept HBw.out).facts
    obtain ⟨d0, d1, d2, d3⟩ := (by'.kept HBw.out).facts
    by_cases htn : t < len
    · have x1 := (HR.out.on (below_on E0.out HBw.out)) t (by rw [← HL.out]; exact htn)
      have y1 := (HQ.out.on (below_on E0.out HBw.out)) t (by rw [HM.out]; exact htn)
      obtain ⟨x, hx⟩ : ∃ x, x = Zo.gt l t := ⟨_, rfl⟩
      obtain ⟨y, hy⟩ : ∃ y, y = Zo.gt m t := ⟨_, rfl⟩
      rw [← hx] at x1
      rw [← hy] at y1
      have HXE := Lib.hid hx
      have HYE := Lib.hid hy
      clear hx hy
      by_cases hxy : y ≤ x
      · have D : decide (x < y) = false := by simp; omega
        have HXY := Lib.hid hxy
        clear hxy
        go_wp2_with fail
        go_quiet (fail)
        clear b0 b1 b2 b3 d0 d1 d2 d3 x1 y1
        go_wp2_with fail
        go_roundw
        case rel =>
          refine ⟨t + 1, by omega, by go_num, Lib.hid (fun k hk => ?_), Lib.hid (below_drewN HBw.out _)⟩
          by_cases e : k = t
          · rw [e, ← HXE.out, ← HYE.out]; exact HXY.out
          · exact HK.out k (by omega)
        case measure => simp [intOf]; omega
      · have D : decide (x < y) = true := by simp; omega
        have HE := Lib.hid (show inB l m = false by
          unfold inB; rw [List.all_eq_false]
          exact ⟨t, by simp; rw [← HL.out]; exact htn, by rw [← HXE.out, ← HYE.out]; simpa using hxy⟩)
        clear hxy
        go_wp2_with fail
        go_quiet (fail)
        clear b0 b1 b2 b3 d0 d1 d2 d3 x1 y1
        go_wp2_with fail
        go_ret2
        exact ⟨by rw [H0.out.1, H0.out.2, HE.out]; rfl, below_drewN (below_on E0.out HBw.out) _⟩
    · have HE := Lib.hid (show inB l m = true by
        unfold inB; rw [List.all_eq_true]
        intro k hk
        simp at hk
        simpa using HK.out k (by rw [← HL.out] at hk; omega))
      go_wp2_with fail
      go_ret2
      exact ⟨by rw [H0.out.1, H0.out.2, HE.out]; rfl, below_on E0.out HBw.out⟩

theorem includes_gen (N M : Int) (l m : List Int) (ao bo : Option Addr) (ca cb : Nat) (w : World) (hA : Arg w ao l) (hB : Arg w bo m) :
    Calls Try.prog 14 #[.agg #[.int .i64 N, .slice ao l.length ca], .agg #[.int .i64 M, .slice bo m.length cb]] w (Made (.tuple #[.bool (inR N M l m), .int .i64 (inE N M l m)]) w) := by
  cases ht : twB N M l m
  · exact includes_bad N M l m ao bo ca cb w hA hB ht
  · obtain ⟨c1, c2, rfl⟩ := tw_yes ht
    obtain ⟨n, rfl, hn, hl, hne⟩ := chk_ok c1
    obtain ⟨n', e, hn', hm, hne'⟩ := chk_ok c2
    have : n = n' := by omega
    subst this
    obtain ⟨a, rfl, hR⟩ := hA hne
    obtain ⟨b, rfl, hQ⟩ := hB hne'
    exact includes_any n l m a b ca cb w hn hl hm hR hQ ht
end Go.Proofs.Ytjfhjckacfkpoaa

namespace Go.Proofs.Ytjfhjckacfkpoaa

theorem spC_of' {x : Int} (hv : lvB x = true) (hn : x ≠ 1099511627776) : spC x = x / 2 ∧ spE x = 0 := by
  have : noB x = false := by unfold noB; simpa using hn
  simp [spC, spE, hv, this]

theorem lv_num {x : Int} (hv : lvB x = true) : x = 1099511627776 ∨ (-2147483648 ≤ x ∧ x ≤ 2147483649) := by
  unfold lvB at hv; simpa using hv

theorem wdn_no (i j : Nat) (low high : List Int) : wdn 1099511627776 i j low high = 1099511627776 := by unfold wdn; rw [if_pos (by decide)]

theorem wdn_num {x : Int} (hv : lvB x = true) (hn : x ≠ 1099511627776) (i j : Nat) (low high : List Int) : wdn x i j low high =
    if 1 ≤ i ∧ (Zo.gt low (i - 1) = -1 ∨ Zo.gt low (i - 1) < x / 2) then 1099511627776
    else if 1 ≤ j ∧ Zo.gt high (j - 1) = -1 then (if i = 0 then 1 else 1099511627776)
    else if 1 ≤ j ∧ x / 2 < -Zo.gt high (j - 1) then -2 * Zo.gt high (j - 1)
    else x := by
  obtain ⟨e1, e2⟩ := spC_of' hv hn
  unfold wdn
  rw [e1, e2, if_neg (show ¬ ((0 : Int) ≠ 0) by simp)]

theorem wdn_ge {x : Int} {i j : Nat} {low high : List Int} (hv : lvB x = true) (h0 : i = 0 → x ≤ 1) : x ≤ wdn x i j low high := by
  by_cases hn : x = 1099511627776
  · subst hn; rw [wdn_no]; omega
  · rw [wdn_num hv hn]
    have := lv_num hv
    repeat' split
    all_goals first | omega | (have := h0 (by assumption); omega)

theorem wdn_up {n : Nat} {x : Int} {i j : Nat} {low high : List Int} (hv : lvB x = true) (h0 : i = 0 → x ≤ 1) (hi : i ≤ n) (hj : j ≤ n) (hl : Kn n low) (hh : Kn n high) : wdn x i j low high = 1099511627776 ∨ (-2147483648 ≤ wdn x i j low high ∧ wdn x i j low high ≤ 2097153) := by
  have ge := wdn_ge (low := low) (high := high) (j := j) hv h0
  by_cases hn : x = 1099511627776
  · subst hn; left; rw [wdn_no]
  · have nv := lv_num hv
    have e := wdn_num hv hn i j low high
    generalize wdn x i j low high = y at *
    by_cases c1 : 1 ≤ i ∧ (Zo.gt low (i - 1) = -1 ∨ Zo.gt low (i - 1) < x / 2)
    · rw [if_pos c1] at e; left; exact e
    rw [if_neg c1] at e
    by_cases c2 : 1 ≤ j ∧ Zo.gt high (j - 1) = -1
    · rw [if_pos c2] at e
      by_cases c3 : i = 0
      · rw [if_pos c3] at e; right; omega
      · rw [if_neg c3] at e; left; exact e
    rw [if_neg c2] at e
    by_cases c4 : 1 ≤ j ∧ x / 2 < -Zo.gt high (j - 1)
    · rw [if_pos c4] at e
      have := hh.2 (j - 1) (by omega)
      right; omega
    rw [if_neg c4] at e
    subst e
    right
    by_cases ci : i = 0
    · have := h0 ci; omega
    · have := hl.2 (i - 1) (by omega)
      omega

theorem wdn_mono {n : Nat} {x : Int} {i j : Nat} {low high low' high' : List Int} (hv : lvB x = true) (h0 : i = 0 → x ≤ 1) (hi : i ≤ n) (hj : j ≤ n) (hl : Kn n low) (hh : Kn n high) (hl' : Kn n low') (hh' : Kn n high')
    (a : ∀ k, k < n → Zo.gt low' k ≤ Zo.gt low k) (b : ∀ k, k < n → Zo.gt high' k ≤ Zo.gt high k) : wdn x i j low high ≤ wdn x i j low' high' := by
  by_cases hn : x = 1099511627776
  · subst hn; rw [wdn_no, wdn_no]; omega
  · rw [wdn_num hv hn, wdn_num hv hn]
    have nv := lv_num hv
    have a1 : 1 ≤ i → Zo.gt low' (i - 1) ≤ Zo.gt low (i - 1) ∧ -1 ≤ Zo.gt low' (i - 1) ∧ Zo.gt low (i - 1) ≤ 1048576 := fun h => ⟨a _ (by omega), (hl'.2 _ (by omega)).1, (hl.2 _ (by omega)).2⟩
    have b1 : 1 ≤ j → Zo.gt high' (j - 1) ≤ Zo.gt high (j - 1) ∧ -1 ≤ Zo.gt high' (j - 1) ∧ Zo.gt high (j - 1) ≤ 1048576 := fun h => ⟨b _ (by omega), (hh'.2 _ (by omega)).1, (hh.2 _ (by omega)).2⟩
    generalize Zo.gt low (i - 1) = p at *
    generalize Zo.gt low' (i - 1) = p' at *
    generalize Zo.gt high (j - 1) = q at *
    generalize Zo.gt high' (j - 1) = q' at *
    repeat' split
    all_goals omega

section
variable {n : Nat} {l low high : List Int}

theorem wd_len (hl : l.length = (n + 1) * (n + 1)) : (wdM n low high l).length = (n + 1) * (n + 1) := by rw [wdM_len, hl]

theorem wd_at (hl : l.length = (n + 1) * (n + 1)) {a b : Nat} (ha : a ≤ n) (hb : b ≤ n) : Zo.At n (wdM n low high l) a b = if a = b then Zo.At n l a b else wdn (Zo.At n l a b) a b low high := Zo.elL_at _ hl ha hb

theorem wd_range (hc : chkE n l = 0) (hlo : Kn n low) (hhi : Kn n high) {a b : Nat} (ha : a ≤ n) (hb : b ≤ n) : Zo.At n l a b ≤ Zo.At n (wdM n low high l) a b ∧ (Zo.At n (wdM n low high l) a b = 1099511627776 ∨ (-2147483648 ≤ Zo.At n (wdM n low high l) a b ∧ Zo.At n (wdM n low high l) a b ≤ 2097153)) := by
  obtain ⟨_, hl, hr⟩ : n ≤ 10 ∧ l.length = (n + 1) * (n + 1) ∧ rdL l = true := by
    obtain ⟨m, e, h1, h2, _⟩ := chk_ok hc
    obtain rfl : n = m := by omega
    exact ⟨h1, h2, (chk_64 hc).2⟩
  have d := chk_diag hc
  rw [wd_at hl ha hb]
  have lv := lv_of_all hl hr a b ha hb
  by_cases c : a = b
  · rw [if_pos c]; subst c; rw [d.1 a ha]; omega
  · rw [if_neg c]
    have h0 : a = 0 → Zo.At n l a b ≤ 1 := fun e => by rw [e]; exact d.2 b hb
    exact ⟨wdn_ge lv h0, wdn_up lv h0 ha hb hlo hhi⟩

/-- The closing of what widening makes has an answer; it lies above the zone. -/
theorem wd_closed (hc : chkE n l = 0) (hlo : Kn n low) (hhi : Kn n high) : closeE n (wdM n low high l) = 0 ∧ Zo.Le n l (Zo.clo n (wdM n low high l)) ∧ chkE n (Zo.clo n (wdM n low high l)) = 0 ∧ (∀ a b, a ≤ n → b ≤ n → Zo.Wl (Zo.At n (wdM n low high l) a b)) ∧ (∀ i, i ≤ n → 1 ≤ Zo.At n (Zo.clo n (wdM n low high l)) i i) := by
  obtain ⟨hn, hl, hr⟩ : n ≤ 10 ∧ l.length = (n + 1) * (n + 1) ∧ rdL l = true := by
    obtain ⟨m, e, h1, h2, _⟩ := chk_ok hc
    obtain rfl : n = m := by omega
    exact ⟨h1, h2, (chk_64 hc).2⟩
  obtain ⟨D, hD⟩ := chk_cl hn hl hc
  have ld := wd_len (low := low) (high := high) hl
  have rg := fun a b (ha : a ≤ n) (hb : b ≤ n) => wd_range hc hlo hhi ha hb
  have hw : ∀ a b, a ≤ n → b ≤ n → Zo.Wl (Zo.At n (wdM n low high l) a b) := fun a b ha hb => by
    have := (rg a b ha hb).2
    unfold Zo.Wl; omega
  obtain ⟨o1, o2⟩ := Zo.clo_over hn ld hw hD (fun a b ha hb => (rg a b ha hb).1)
  have hB : cloB n (wdM n low high l) = false := cloB_iff.2 o1
  have lvw : ∀ k, k < (wdM n low high l).length → lvB (Zo.gt (wdM n low high l) k) = true := fun k hk => by
    rw [ld] at hk
    have e : Zo.ix n (k / (n + 1)) (k % (n + 1)) = k := by unfold Zo.ix; have := Nat.div_add_mod k (n + 1); rw [Nat.mul_comm] at this; exact this
    have a1 : k / (n + 1) ≤ n := by
      have : k / (n + 1) < n + 1 := Nat.div_lt_of_lt_mul hk
      omega
    have b1 : k % (n + 1) ≤ n := by have := Nat.mod_lt k (show 0 < n + 1 by omega); omega
    have := (rg _ _ a1 b1).2
    unfold Zo.At at this
    rw [e] at this
    unfold lvB; simp; omega
  obtain ⟨hrep, hdg⟩ := Zo.clo_repW hn ld hw o1 (n + 1) (Nat.le_refl _)
  have pv : ∀ i j x, Zo.mat n (wdM n low high l) i j = some x → x ≤ 2097153 := by
    intro i j x h
    unfold Zo.mat at h
    split at h
    · rename_i c
      have r := (rg i j c.1 c.2).2
      obtain ⟨v, hv⟩ : ∃ v, v = Zo.At n (Zo.pre n (wdM n low high l)) i j := ⟨_, rfl⟩
      rw [← hv] at h
      rw [Zo.pre_at ld c.1 c.2] at hv
      have hb : v = 1099511627776 ∨ v ≤ 2097153 := by
        split at hv <;> omega
      unfold Zo.dec at h
      split at h
      · simp at h
      · simp at h; omega
    · cases h
  have hlv : ∀ a b, a ≤ n → b ≤ n → lvB (Zo.At n (Zo.clo n (wdM n low high l)) a b) = true := fun a b ha hb => by
    have x := o2 a b ha hb
    have lv := lv_num (lv_of_all hl hr a b ha hb)
    have y : Zo.At n (Zo.clo n (wdM n low high l)) a b = Zo.enc (Zo.fw (Zo.mat n (wdM n low high l)) (n + 1) a b) := hrep.2 a b ha hb
    rw [y] at x ⊢
    cases e : Zo.fw (Zo.mat n (wdM n low high l)) (n + 1) a b with
    | none => unfold Zo.enc; decide
    | some z =>
      obtain ⟨S, _, hx⟩ := Zo.fw_bound (U := 2097153) pv (n + 1) hdg a b z e
      have := Zo.cnt_le S (n + 1)
      rw [e] at x
      simp only [Zo.enc] at x ⊢
      unfold lvB; simp; omega
  have hz : cloE n (wdM n low high l) = 0 := cloE_zero.2 ⟨hB, all_of_lv (by rw [Zo.clo_length, ld]) hlv⟩
  exact ⟨by rw [closeE_ok hn ld lvw]; exact hz, o2, clo_chk hn ld hw hz, hw, o1⟩

/-- With lesser constants it is not smaller. -/
theorem wd_mono {low' high' : List Int} (hc : chkE n l = 0) (hlo : Kn n low) (hhi : Kn n high) (hlo' : Kn n low') (hhi' : Kn n high') (a : ∀ k, k < n → Zo.gt low' k ≤ Zo.gt low k) (b : ∀ k, k < n → Zo.gt high' k ≤ Zo.gt high k) :
    Zo.Le n (Zo.clo n (wdM n low high l)) (Zo.clo n (wdM n low' high' l)) := by
  obtain ⟨hn, hl, hr⟩ : n ≤ 10 ∧ l.length = (n + 1) * (n + 1) ∧ rdL l = true := by
    obtain ⟨m, e, h1, h2, _⟩ := chk_ok hc
    obtain rfl : n = m := by omega
    exact ⟨h1, h2, (chk_64 hc).2⟩
  have d := chk_diag hc
  obtain ⟨_, _, _, w1, o1⟩ := wd_closed hc hlo hhi
  obtain ⟨_, _, _, w2, _⟩ := wd_closed hc hlo' hhi'
  have l1 := wd_len (low := low) (high := high) hl
  have l2 := wd_len (low := low') (high := high') hl
  refine (Zo.clo_over hn l2 w2 (Zo.Cl.of hn l1 w1 o1) fun p q hp hq => Int.le_trans (Zo.le_clo l1 p q hp hq) ?_).2
  rw [wd_at hl hp hq, wd_at hl hp hq]
  by_cases c : p = q
  · rw [if_pos c, if_pos c]; omega
  · rw [if_neg c, if_neg c]
    exact wdn_mono (lv_of_all hl hr p q hp hq) (fun e => by rw [e]; exact d.2 q hq) hp hq hlo hhi hlo' hhi' a b
end
end Go.Proofs.Ytjfhjckacfkpoaa

namespace Go.Proofs.Ytjfhjckacfkpoaa
open Go.RowKit

set_option maxRecDepth 100000 in
set_option maxHeartbeats 1000000 in
theorem wlg_long (N : Int) (ao lo ho : Option Addr) (len cap j lc k hc : Nat) (w : World) (h : b2B len j k = true) :
    Calls Try.prog 4 #[.agg #[.int .i64 N, .slice ao len cap], .slice lo j lc, .slice ho k hc] w (Made (.bool true) w) := by
  have SH := Lib.hid (fun W => shown6_any W)
  obtain ⟨w0, hw0⟩ : ∃ w0, w0 = (w.alloc (.cells #[.int .i64 N, .slice ao len cap] 24)).alloc (.cells #[.slice lo j lc, .slice ho k hc] 25) := ⟨_, rfl⟩
  have E0 := Lib.hid (show Below w.heap.size w w0 by rw [hw0]; exact past_two (Below.refl _ _))
  have c0 : w0.cell? ⟨w.heap.size + 1, 0, none⟩ = some (.slice lo j lc) := by rw [hw0]; go_simp
  have c1 : w0.cell? ⟨w.heap.size + 1, 1, none⟩ = some (.slice ho k hc) := by rw [hw0]; go_simp
  have BE := Lib.hid (show Calls Try.prog 7 #[.agg #[.int .i64 N, .slice ao len cap], .slice (some ⟨w.heap.size + 1, 0, none⟩) 2 2] w0 (Made (.bool true) w0) by
    have := beyond2_any N ao lo ho len cap j k lc hc (w.heap.size + 1) w0 c0 c1
    rwa [h] at this)
  have HW0 := Lib.hid hw0
  clear hw0 c0 c1
  go_enter Try.func4, Try.ntmps4
  go_wp2_with fail
  rw [← HW0.out]
  refine BE.out.mono ?_
  rintro e w1 ⟨rfl, hb⟩
  have B1 := Lib.hid (below_on E0.out hb)
  clear hb
  go_wp2_with fail
  refine (SH.out _).mono ?_
  rintro e w2 ⟨rfl, hb⟩
  have B2 := Lib.hid (below_on B1.out hb)
  clear hb
  go_wp2_with fail
  go_ret
  exact ⟨rfl, B2.out⟩

theorem wdE_two {N : Int} {low high l : List Int} (h : wdE N low high l ≠ 0) : wdE N low high l = 2 := by
  unfold wdE at h ⊢
  by_cases c : (decide (chkE N l = 0) && ksB N low && ksB N high) = true
  · exfalso
    rw [if_pos c] at h
    simp only [Bool.and_eq_true, decide_eq_true_eq] at c
    obtain ⟨n, rfl, hn, hl, _⟩ := chk_ok c.1.1
    exact h (wd_closed c.1.1 (ksB_kn c.1.2) (ksB_kn c.2)).1
  · rw [if_neg c]

theorem wdE_ok {N : Int} {low high l : List Int} (h : wdE N low high l = 0) : chkE N l = 0 ∧ ksB N low = true ∧ ksB N high = true := by
  unfold wdE at h
  by_cases c : (decide (chkE N l = 0) && ksB N low && ksB N high) = true
  · simp only [Bool.and_eq_true, decide_eq_true_eq] at c
    exact ⟨c.1.1, c.1.2, c.2⟩
  · rw [if_neg c] at h; cases h

theorem ksB_of {n : Nat} {k : List Int} (h : Kn n k) : ksB (n : Int) k = true := by
  unfold ksB
  rw [csB_yes (fun j hj => by have := h.2 j (by rw [← h.1]; exact hj); unfold kcB; simpa using this)]
  simp [h.1]

theorem tw_of {n : Nat} {l m : List Int} (h1 : chkE n l = 0) (h2 : chkE n m = 0) : twB n n l m = true := by unfold twB; simp [h1, h2]

theorem in_of {n : Nat} {l m : List Int} (hl : l.length = (n + 1) * (n + 1)) (h : Zo.Le n m l) : inB l m = true := by
  unfold inB
  rw [List.all_eq_true]
  intro k hk
  rw [List.mem_range, hl] at hk
  have e : Zo.ix n (k / (n + 1)) (k % (n + 1)) = k := by unfold Zo.ix; have := Nat.div_add_mod k (n + 1); rw [Nat.mul_comm] at this; exact this
  have a1 : k / (n + 1) ≤ n := by
    have : k / (n + 1) < n + 1 := Nat.div_lt_of_lt_mul hk
    omega
  have b1 : k % (n + 1) ≤ n := by have := Nat.mod_lt k (show 0 < n + 1 by omega); omega
  have := h _ _ a1 b1
  unfold Zo.At at this
  rw [e] at this
  simpa using this

set_option maxRecDepth 100000 in
set_option maxHeartbeats 4000000 in
theorem wlg_bad (N : Int) (l k : List Int) (ao ko so : Option Addr) (cap kc sl sc : Nat) (w : World) (hS : Src w ao l cap) (hK : Src w ko k kc) (h : b2B l.length k.length sl = false) (he : wdE N k k l ≠ 0) :
    Calls Try.prog 4 #[.agg #[.int .i64 N, .slice ao l.length cap], .slice ko k.length kc, .slice so sl sc] w (Made (.bool true) w) := by
  have hl : k.length ≤ 50 ∧ l.length ≤ 200 := by unfold b2B at h; simp at h; omega
  have SH := Lib.hid (fun W => shown6_any W)
  have GO := Lib.hid (show ∀ W, Below w.heap.size w W → Calls Try.prog 11 #[.agg #[.int .i64 N, .slice ao l.length cap], .slice ko k.length kc] W (fun e w' => e = .returned (.tuple #[.agg #[.int .i64 0, .slice none 0 0], .int .i64 2]) ∧ Below W.heap.size W w') from fun W hb => (wgreatest_gen N l ao cap k ko kc W (hS.on hb).1 (hK.on hb).1 hK.2 (by omega)).mono fun e w' q => by have := q.no he; rwa [wdE_two he] at this)
  obtain ⟨w0, hw0⟩ : ∃ w0, w0 = (w.alloc (.cells #[.int .i64 N, .slice ao l.length cap] 24)).alloc (.cells #[.slice ko k.length kc, .slice so sl sc] 25) := ⟨_, rfl⟩
  have E0 := Lib.hid (show Below w.heap.size w w0 by rw [hw0]; exact past_two (Below.refl _ _))
  have PX := Lib.hid (show Two w0 w.heap.size (.int .i64 N) (.slice ao l.length cap) by rw [hw0]; exact (Two.made _ _ _ _).alloc _)
  have c0 : w0.cell? ⟨w.heap.size + 1, 0, none⟩ = some (.slice ko k.length kc) := by rw [hw0]; go_simp
  have c1 : w0.cell? ⟨w.heap.size + 1, 1, none⟩ = some (.slice so sl sc) := by rw [hw0]; go_simp
  have BE := Lib.hid (show Calls Try.prog 7 #[.agg #[.int .i64 N, .slice ao l.length cap], .slice (some ⟨w.heap.size + 1, 0, none⟩) 2 2] w0 (Made (.bool false) w0) by
    have := beyond2_any N ao ko so l.length cap k.length sl kc sc (w.heap.size + 1) w0 c0 c1
    rwa [h] at this)
  have HW0 := Lib.hid hw0
  generalize l.length = ln at *
  generalize k.length = kn at *
  clear hw0 c0 c1 hS hK h hl he
  go_enter Try.func4, Try.ntmps4
  go_wp2_with fail
  rw [← HW0.out]
  refine BE.out.mono ?_
  rintro e w1 ⟨rfl, hb⟩
  have B1 := Lib.hid (below_on E0.out hb)
  have PX := Lib.hid (PX.out.kept hb)
  clear hb BE HW0
  obtain ⟨b0, b1, b2, b3⟩ := PX.out.facts
  go_wp2_with fail
  refine (GO.out _ B1.out).mono ?_
  rintro e w2 ⟨rfl, hb⟩
  obtain ⟨v2, hv⟩ : ∃ v2, v2 = w2.alloc (.cells #[.int .i64 0, .slice none 0 0] 24) := ⟨_, rfl⟩
  have X2 := Lib.hid (show Two v2 w2.heap.size (.int .i64 0) (.slice none 0 0) by rw [hv]; exact Two.made _ _ _ _)
  have B2 := Lib.hid (show Below w.heap.size w v2 by rw [hv]; exact (below_on B1.out hb).alloc (below_on B1.out hb).size _)
  clear hb b0 b1 b2 b3
  go_upto_region 4 with (fail)
  rw [← hv]
  clear hv
  obtain ⟨b0, b1, b2, b3⟩ := X2.out.facts
  go_wp2_with fail
  refine (SH.out _).mono ?_
  rintro e w3 ⟨rfl, hb⟩
  have B3 := Lib.hid (below_on B2.out hb)
  clear hb
  go_wp2_with fail
  go_ret
  exact ⟨rfl, B3.out⟩
end Go.Proofs.Ytjfhjckacfkpoaa

namespace Go.Proofs.Ytjfhjckacfkpoaa
open Go.RowKit

set_option maxRecDepth 100000 in
set_option maxHeartbeats 16000000 in
theorem wlg_ok (n : Nat) (l k ls : List Int) (ao ko so : Option Addr) (cap kc sc : Nat) (w : World) (hS : Src w ao l cap) (hK : Src w ko k kc) (hQ : Src w so ls sc) (h : b2B l.length k.length ls.length = false) (hi : ∀ j, j < ls.length → I64 (Zo.gt ls j)) (hc : chkE n l = 0) (hk : Kn n k) (he : wdE n k k l = 0) :
    Calls Try.prog 4 #[.agg #[.int .i64 n, .slice ao l.length cap], .slice ko k.length kc, .slice so ls.length sc] w (Made (.bool true) w) := by
  have hl : k.length ≤ 50 ∧ ls.length ≤ 50 ∧ l.length ≤ 200 := by unfold b2B at h; simp at h; omega
  obtain ⟨hn, hll⟩ : n ≤ 10 ∧ l.length = (n + 1) * (n + 1) := by
    obtain ⟨m, e, h1, h2, _⟩ := chk_ok hc
    obtain rfl : n = m := by omega
    exact ⟨h1, h2⟩
  have SH := Lib.hid (fun W => shown6_any W)
  obtain ⟨A, hA⟩ : ∃ A, A = Zo.clo n (wdM n k k l) := ⟨_, rfl⟩
  have wc := wd_closed hc hk hk
  have GO := Lib.hid (show ∀ W, Below w.heap.size w W → Calls Try.prog 11 #[.agg #[.int .i64 n, .slice ao l.length cap], .slice ko k.length kc] W (fun e w' => ∃ g c, e = .returned (.tuple #[.agg #[.int .i64 n, .slice (some ⟨g, 0, none⟩) A.length c], .int .i64 0]) ∧ W.heap.size ≤ g ∧ Own w' g c A ∧ Below W.heap.size W w') from fun W hb => (wgreatest_gen n l ao cap k ko kc W (hS.on hb).1 (hK.on hb).1 hK.2 (by omega)).mono fun e w' q => by
    have := q.ok he
    rw [show Zo.clo (n : Int).toNat (wdM (n : Int).toNat k k l) = A by rw [hA]; simp] at this
    exact this)
  have BO := Lib.hid (show ∀ W L H g1 c1 g2 c2, Below w.heap.size w W → OwnJ W g1 c1 L → OwnJ W g2 c2 H → Kn n L → Kn n H → (∀ j, j < n → Zo.gt L j ≤ Zo.gt k j) → (∀ j, j < n → Zo.gt H j ≤ Zo.gt k j) →
      Calls Try.prog 9 #[.agg #[.int .i64 n, .slice ao l.length cap], .slice (some ⟨g1, 0, none⟩) L.length c1, .slice (some ⟨g2, 0, none⟩) H.length c2] W (fun e w' => ∃ B g c, e = .returned (.tuple #[.agg #[.int .i64 n, .slice (some ⟨g, 0, none⟩) B.length c], .int .i64 0]) ∧ W.heap.size ≤ g ∧ Own w' g c B ∧ Below W.heap.size W w' ∧ Hid (inR n n B A = true ∧ inE n n B A = 0)) from fun W L H g1 c1 g2 c2 hb h1 h2 k1 k2 le1 le2 => by
    have wo := wd_closed hc k1 k2
    have mo := wd_mono hc hk hk k1 k2 le1 le2
    have e0 : wdE n L H l = 0 := by
      unfold wdE
      rw [if_pos (by rw [hc, ksB_of k1, ksB_of k2]; rfl)]
      simpa using wo.1
    refine (wbounds_gen n l ao cap L H (some ⟨g1, 0, none⟩) (some ⟨g2, 0, none⟩) c1 c2 W (hS.on hb).1 h1.arg h2.arg (fun q => by cases q) (fun q => by cases q) (by rw [k1.1]; omega) (by rw [k2.1]; omega)).mono fun e w' q => ?_
    obtain ⟨g, c, e1, e2, e3, e4⟩ := q.ok e0
    simp only [Int.toNat_natCast] at e1 e3
    refine ⟨_, g, c, e1, e2, e3, e4, Lib.hid ?_⟩
    have t := tw_of wo.2.2.1 (show chkE n A = 0 by rw [hA]; exact wc.2.2.1)
    refine ⟨?_, ?_⟩
    · unfold inR; rw [t, in_of (by rw [Zo.clo_length, wd_len hll]) (by rw [hA]; exact mo)]; rfl
    · unfold inE; rw [if_pos t])
  have IN := Lib.hid (fun W (p q : List Int) a b c d hp hq => includes_gen n n p q a b c d W hp hq)
  have IA := Lib.hid (show inR n n A l = true ∧ inE n n A l = 0 from by
    have t := tw_of (show chkE n A = 0 by rw [hA]; exact wc.2.2.1) hc
    refine ⟨?_, ?_⟩
    · unfold inR; rw [t, in_of (by rw [hA, Zo.clo_length, wd_len hll]) (by rw [hA]; exact wc.2.1)]; rfl
    · unfold inE; rw [if_pos t])
  have HS := Lib.hid (fun W (hb : Below w.heap.size w W) => hS.on hb)
  have HK := Lib.hid (fun W (hb : Below w.heap.size w W) => hK.on hb)
  have HQ := Lib.hid (fun W (hb : Below w.heap.size w W) => hQ.on hb)
  have HKN := Lib.hid hk
  have HI := Lib.hid hi
  obtain ⟨i1, hj, hy0, hy1, hy2⟩ := info_parts Try.info2
  obtain ⟨w0, hw0⟩ : ∃ w0, w0 = (w.alloc (.cells #[.int .i64 n, .slice ao l.length cap] 24)).alloc (.cells #[.slice ko k.length kc, .slice so ls.length sc] 25) := ⟨_, rfl⟩
  have E0 := Lib.hid (show Below w.heap.size w w0 by rw [hw0]; exact past_two (Below.refl _ _))
  have PX := Lib.hid (show Two w0 w.heap.size (.int .i64 n) (.slice ao l.length cap) by rw [hw0]; exact (Two.made _ _ _ _).alloc _)
  have c0 : w0.cell? ⟨w.heap.size + 1, 0, none⟩ = some (.slice ko k.length kc) := by rw [hw0]; go_simp
  have c1 : w0.cell? ⟨w.heap.size + 1, 1, none⟩ = some (.slice so ls.length sc) := by rw [hw0]; go_simp
  have BE := Lib.hid (show Calls Try.prog 7 #[.agg #[.int .i64 n, .slice ao l.length cap], .slice (some ⟨w.heap.size + 1, 0, none⟩) 2 2] w0 (Made (.bool false) w0) by
    have := beyond2_any n ao ko so l.length cap k.length ls.length kc sc (w.heap.size + 1) w0 c0 c1
    rwa [h] at this)
  have HW0 := Lib.hid hw0
  have EK := Lib.hid hk.1
  have el := hl.2.1
  have ekl := hl.1
  obtain ⟨sl, hsl⟩ : ∃ sl, sl = ls.length := ⟨_, rfl⟩
  have HSL := Lib.hid hsl
  rw [← hsl] at el HW0 ⊢
  clear hw0 c0 c1 hS hK hQ h hl he hc hk hi hA wc hll hsl
  go_enter Try.func4, Try.ntmps4
  go_wp2_with fail
  rw [← HW0.out]
  refine BE.out.mono ?_
  rintro e w1 ⟨rfl, hb⟩
  have B1 := Lib.hid (below_on E0.out hb)
  have PX := Lib.hid (PX.out.kept hb)
  clear hb BE HW0
  obtain ⟨b0, b1, b2, b3⟩ := PX.out.facts
  go_wp2_with fail
  refine (GO.out _ B1.out).mono ?_
  rintro e w2 ⟨ga, ca, rfl, hg, hO, hb⟩
  obtain ⟨v2, hv⟩ : ∃ v2, v2 = w2.alloc (.cells #[.int .i64 n, .slice (some ⟨ga, 0, none⟩) A.length ca] 24) := ⟨_, rfl⟩
  have X2 := Lib.hid (show Two v2 w2.heap.size (.int .i64 n) (.slice (some ⟨ga, 0, none⟩) A.length ca) by rw [hv]; exact Two.made _ _ _ _)
  have A2 := Lib.hid (show Own v2 ga ca A by rw [hv]; exact hO.alloc _)
  have B2 := Lib.hid (show Below w.heap.size w v2 by rw [hv]; exact (below_on B1.out hb).alloc (below_on B1.out hb).size _)
  have PX := Lib.hid (show Two v2 w.heap.size (.int .i64 n) (.slice ao l.length cap) by rw [hv]; exact (PX.out.kept hb).alloc _)
  clear hb hg hO b0 b1 b2 b3
  go_upto_region 4 with (fail)
  rw [← hv]
  clear hv
  obtain ⟨g1, c1, w3, hrun, hJ, hg1, hb3⟩ := run_own (t := 25) Try.underlying25 hj hy0 hy1 hy2 (HK.out _ B2.out) (by have := EK.out; omega)
  have R1 := Lib.hid hrun
  have J1 := Lib.hid hJ
  have HB3 := Lib.hid hb3
  have HG1 := Lib.hid hg1
  clear hrun hJ hb3 hg1
  go_upto_region 7 with (at_builtin; refine Lib.wpList_append_run _ rfl _ _ _ _ rfl _ _ rfl rfl _ _ R1.out ?_)
  clear R1
  obtain ⟨g2, c2, w4, hrun, hJ, hg2, hb4⟩ := run_own (t := 25) Try.underlying25 hj hy0 hy1 hy2 (HK.out _ (below_on B2.out HB3.out)) (by have := EK.out; omega)
  have R2 := Lib.hid hrun
  have J2 := Lib.hid hJ
  have hne : g1 ≠ g2 := by have := J1.out.lt; omega
  have HG2 := Lib.hid (show v2.heap.size ≤ g2 by have := HB3.out.size; omega)
  have J1 := Lib.hid (J1.out.on hb4)
  have B4 := Lib.hid (below_on HB3.out hb4)
  clear hrun hJ hb4 hg2 HB3
  go_upto_region 8 with (at_builtin; refine Lib.wpList_append_run _ rfl _ _ _ _ rfl _ _ rfl rfl _ _ R2.out ?_)
  clear R2
  go_wp2_with fail
  go_loopw [11, 12] (fun s _ wr => ∃ (t : Nat) (L H : List Int), s = .int .i64 t ∧ t ≤ sl ∧ t ≤ n ∧ Hid (L.length = k.length) ∧ Hid (H.length = k.length) ∧ Hid (∀ j, j < n → -1 ≤ Zo.gt L j ∧ Zo.gt L j ≤ Zo.gt k j) ∧ Hid (∀ j, j < n → -1 ≤ Zo.gt H j ∧ Zo.gt H j ≤ Zo.gt k j) ∧ Hid (OwnJ wr g1 c1 L ∧ OwnJ wr g2 c2 H ∧ Below v2.heap.size v2 wr)) (fun s _ _ => n + 1 - (intOf s).toNat)
  case atStart => exact ⟨0, k, k, rfl, by omega, by omega, Lib.hid rfl, Lib.hid rfl, Lib.hid (fun j hj => ⟨(HKN.out.2 j hj).1, Int.le_refl _⟩), Lib.hid (fun j hj => ⟨(HKN.out.2 j hj).1, Int.le_refl _⟩), Lib.hid ⟨J1.out, J2.out, B4.out⟩⟩
  case round =>
    obtain ⟨t, L, H, rfl, ht1, ht2, HLn, HHn, HLB, HHB, HM⟩ := hrel
    by_cases htn : t < sl
    · have D1 : decide ((t : Int) < (sl : Int)) = true := by simp; omega
      by_cases htn2 : t < n
      · have htn3 : t < k.length := by have := EK.out; omega
        have D2 : decide ((t : Int) < (k.length : Int)) = true := by have := EK.out; simp; omega
        obtain ⟨d1, hso, hR⟩ := (HQ.out _ (below_on B2.out HM.out.2.2)).1 (fun e => by have := HSL.out; rw [e] at this; simp at this; omega)
        have e1 := hR t (by rw [← HSL.out]; exact htn)
        obtain ⟨x, hx⟩ : ∃ x, x = Zo.gt ls t := ⟨_, rfl⟩
        rw [← hx] at e1
        have ix : I64 x := by rw [hx]; exact HI.out t (by rw [← HSL.out]; exact htn)
        obtain ⟨r, hr⟩ : ∃ r, r = x.tmod 8 := ⟨_, rfl⟩
        have hr8 : x.tmod 8 = r := hr.symm
        have br : -7 ≤ r ∧ r ≤ 7 := by
          rw [hr]
          rcases Int.le_total 0 x with c | c
          · rw [Int.tmod_eq_emod_of_nonneg c]; omega
          · have e : x = -(-x) := by omega
            rw [e, Int.neg_tmod, Int.tmod_eq_emod_of_nonneg (by omega)]; omega
        clear hx hr hR
        have HSO := Lib.hid hso
        subst hso
        by_cases hr0 : r < 0
        · have D3 : decide (r < (0 : Int)) = true := by simpa using hr0
          obtain ⟨s, hs⟩ : ∃ s, s = -r := ⟨_, rfl⟩
          have hw0 : IntKind.i64.wrap (-r) = s := by rw [wrap_in _ (by omega) (by omega), hs]
          have hs2 : 0 ≤ s ∧ s ≤ 7 := by omega
          obtain ⟨d2, hd2⟩ : ∃ d, d = s.tdiv 2 := ⟨_, rfl⟩
          obtain ⟨d3, hd3⟩ : ∃ d, d = s.tmod 3 := ⟨_, rfl⟩
          have bd2 : 0 ≤ d2 ∧ d2 ≤ 3 := by rw [hd2, Int.tdiv_eq_ediv_of_nonneg hs2.1]; omega
          have bd3 : 0 ≤ d3 ∧ d3 ≤ 2 := by rw [hd3, Int.tmod_eq_emod_of_nonneg hs2.1]; omega
          obtain ⟨y, hy⟩ : ∃ y, y = Zo.gt L t := ⟨_, rfl⟩
          obtain ⟨y2, hy2'⟩ : ∃ y, y = Zo.gt H t := ⟨_, rfl⟩
          have by1 := HLB.out t htn2
          have by2 := HHB.out t htn2
          rw [← hy] at by1
          rw [← hy2'] at by2
          have bk := HKN.out.2 t htn2
          obtain ⟨q0, q1⟩ := HM.out.1.get (k := t) (by rw [HLn.out, EK.out]; omega)
          rw [← hy] at q0
          have h2d : s.tdiv 2 = d2 := hd2.symm
          have h3d : s.tmod 3 = d3 := hd3.symm
          obtain ⟨z1, hz1⟩ : ∃ z, z = y - d2 := ⟨_, rfl⟩
          have wz1 : wrap64 (y - d2) = z1 := by rw [hz1]; unfold wrap64; omega
          have wd2 : wrap64 d2 = d2 := by unfold wrap64; omega
          have wd3 : wrap64 d3 = d3 := by unfold wrap64; omega
          obtain ⟨z2, hz2⟩ : ∃ z, z = y2 - d3 := ⟨_, rfl⟩
          have wz2 : wrap64 (y2 - d3) = z2 := by rw [hz2]; unfold wrap64; omega
          have m1 := run_imax (-1) z1
          have m2 := run_imax (-1) z2
          have bz1 : -1 ≤ imax (-1) z1 ∧ imax (-1) z1 ≤ Zo.gt k t := by unfold imax; omega
          have bz2 : -1 ≤ imax (-1) z2 ∧ imax (-1) z2 ≤ Zo.gt k t := by unfold imax; omega
          obtain ⟨u1, hu1⟩ : ∃ u, u = imax (-1) z1 := ⟨_, rfl⟩
          obtain ⟨u2, hu2⟩ : ∃ u, u = imax (-1) z2 := ⟨_, rfl⟩
          rw [← hu1] at bz1 m1
          rw [← hu2] at bz2 m2
          have BZ := Lib.hid (And.intro bz1 bz2)
          have P1 := HM.out.1.put t u1
          have P2 := HM.out.2.1.grown P1.2 (Ne.symm hne)
          have P3 := Lib.hid (show Below v2.heap.size v2 (wr.setCell ⟨g1, t, none⟩ (.int .i64 u1)) from HM.out.2.2.setCell (by show v2.heap.size ≤ g1; exact HG1.out) _)
          have H1 := Lib.hid P1.1
          have H2 := Lib.hid P2
          obtain ⟨p0, p1⟩ := P2.get (k := t) (by rw [HHn.out, EK.out]; omega)
          rw [← hy2'] at p0
          have P4 := Lib.hid (OwnJ.put P2 t u2)
          have H5 := Lib.hid (P1.1.grown P4.out.2 hne)
          have P5 := Lib.hid (show Below v2.heap.size v2 ((wr.setCell ⟨g1, t, none⟩ (.int .i64 u1)).setCell ⟨g2, t, none⟩ (.int .i64 u2)) from P3.out.setCell (by show v2.heap.size ≤ g2; exact HG2.out) _)
          have H4 := Lib.hid P4.out.1
          clear hs
          clear hd2 hd3 hy hy2' by1 by2 bk hz1 hz2 bz1 bz2 hu1 hu2 P1 P2 hs2 bd2 bd3
          go_wp2_with fail
          go_roundw
          case rel =>
            refine ⟨t + 1, L.set t u1, H.set t u2, by go_num, by omega, by omega, Lib.hid (by rw [List.length_set]; exact HLn.out), Lib.hid (by rw [List.length_set]; exact HHn.out), Lib.hid (fun j hj => ?_), Lib.hid (fun j hj => ?_), Lib.hid ⟨H5.out, H4.out, P5.out⟩⟩
            · rw [Zo.gt_set _ (by rw [HLn.out, EK.out]; omega)]
              split
              · rename_i c; rw [c]; exact BZ.out.1
              · exact HLB.out j hj
            · rw [Zo.gt_set _ (by rw [HHn.out, EK.out]; omega)]
              split
              · rename_i c; rw [c]; exact BZ.out.2
              · exact HHB.out j hj
          case measure => simp [intOf]; omega
        · have D3 : decide (r < (0 : Int)) = false := by simp; omega
          obtain ⟨s, hs⟩ : ∃ s, s = r := ⟨_, rfl⟩
          have hs2 : 0 ≤ s ∧ s ≤ 7 := by omega
          have HRS := Lib.hid hs
          subst hs
          obtain ⟨d2, hd2⟩ : ∃ d, d = s.tdiv 2 := ⟨_, rfl⟩
          obtain ⟨d3, hd3⟩ : ∃ d, d = s.tmod 3 := ⟨_, rfl⟩
          have bd2 : 0 ≤ d2 ∧ d2 ≤ 3 := by rw [hd2, Int.tdiv_eq_ediv_of_nonneg hs2.1]; omega
          have bd3 : 0 ≤ d3 ∧ d3 ≤ 2 := by rw [hd3, Int.tmod_eq_emod_of_nonneg hs2.1]; omega
          obtain ⟨y, hy⟩ : ∃ y, y = Zo.gt L t := ⟨_, rfl⟩
          obtain ⟨y2, hy2'⟩ : ∃ y, y = Zo.gt H t := ⟨_, rfl⟩
          have by1 := HLB.out t htn2
          have by2 := HHB.out t htn2
          rw [← hy] at by1
          rw [← hy2'] at by2
          have bk := HKN.out.2 t htn2
          obtain ⟨q0, q1⟩ := HM.out.1.get (k := t) (by rw [HLn.out, EK.out]; omega)
          rw [← hy] at q0
          have h2d : s.tdiv 2 = d2 := hd2.symm
          have h3d : s.tmod 3 = d3 := hd3.symm
          obtain ⟨z1, hz1⟩ : ∃ z, z = y - d2 := ⟨_, rfl⟩
          have wz1 : wrap64 (y - d2) = z1 := by rw [hz1]; unfold wrap64; omega
          have wd2 : wrap64 d2 = d2 := by unfold wrap64; omega
          have wd3 : wrap64 d3 = d3 := by unfold wrap64; omega
          obtain ⟨z2, hz2⟩ : ∃ z, z = y2 - d3 := ⟨_, rfl⟩
          have wz2 : wrap64 (y2 - d3) = z2 := by rw [hz2]; unfold wrap64; omega
          have m1 := run_imax (-1) z1
          have m2 := run_imax (-1) z2
          have bz1 : -1 ≤ imax (-1) z1 ∧ imax (-1) z1 ≤ Zo.gt k t := by unfold imax; omega
          have bz2 : -1 ≤ imax (-1) z2 ∧ imax (-1) z2 ≤ Zo.gt k t := by unfold imax; omega
          obtain ⟨u1, hu1⟩ : ∃ u, u = imax (-1) z1 := ⟨_, rfl⟩
          obtain ⟨u2, hu2⟩ : ∃ u, u = imax (-1) z2 := ⟨_, rfl⟩
          rw [← hu1] at bz1 m1
          rw [← hu2] at bz2 m2
          have BZ := Lib.hid (And.intro bz1 bz2)
          have P1 := HM.out.1.put t u1
          have P2 := HM.out.2.1.grown P1.2 (Ne.symm hne)
          have P3 := Lib.hid (show Below v2.heap.size v2 (wr.setCell ⟨g1, t, none⟩ (.int .i64 u1)) from HM.out.2.2.setCell (by show v2.heap.size ≤ g1; exact HG1.out) _)
          have H1 := Lib.hid P1.1
          have H2 := Lib.hid P2
          obtain ⟨p0, p1⟩ := P2.get (k := t) (by rw [HHn.out, EK.out]; omega)
          rw [← hy2'] at p0
          have P4 := Lib.hid (OwnJ.put P2 t u2)
          have H5 := Lib.hid (P1.1.grown P4.out.2 hne)
          have P5 := Lib.hid (show Below v2.heap.size v2 ((wr.setCell ⟨g1, t, none⟩ (.int .i64 u1)).setCell ⟨g2, t, none⟩ (.int .i64 u2)) from P3.out.setCell (by show v2.heap.size ≤ g2; exact HG2.out) _)
          have H4 := Lib.hid P4.out.1
          clear hd2 hd3 hy hy2' by1 by2 bk hz1 hz2 bz1 bz2 hu1 hu2 P1 P2 hs2 bd2 bd3
          go_wp2_with fail
          go_roundw
          case rel =>
            refine ⟨t + 1, L.set t u1, H.set t u2, by go_num, by omega, by omega, Lib.hid (by rw [List.length_set]; exact HLn.out), Lib.hid (by rw [List.length_set]; exact HHn.out), Lib.hid (fun j hj => ?_), Lib.hid (fun j hj => ?_), Lib.hid ⟨H5.out, H4.out, P5.out⟩⟩
            · rw [Zo.gt_set _ (by rw [HLn.out, EK.out]; omega)]
              split
              · rename_i c; rw [c]; exact BZ.out.1
              · exact HLB.out j hj
            · rw [Zo.gt_set _ (by rw [HHn.out, EK.out]; omega)]
              split
              · rename_i c; rw [c]; exact BZ.out.2
              · exact HHB.out j hj
          case measure => simp [intOf]; omega
      · have htn3 : ¬ t < k.length := by have := EK.out; omega
        have D2 : decide ((t : Int) < (k.length : Int)) = false := by have := EK.out; simp; omega
        have QX := HM.out.2.2
        have BX := Lib.hid (show ∀ W, Below wr.heap.size wr W → _ from fun W hb => BO.out W L H g1 c1 g2 c2 (below_on (below_on B2.out QX) hb) (HM.out.1.on hb) (HM.out.2.1.on hb) ⟨by rw [HLn.out]; exact EK.out, fun j hj => ⟨(HLB.out j hj).1, by have := (HLB.out j hj).2; have := (HKN.out.2 j hj).2; omega⟩⟩ ⟨by rw [HHn.out]; exact EK.out, fun j hj => ⟨(HHB.out j hj).1, by have := (HHB.out j hj).2; have := (HKN.out.2 j hj).2; omega⟩⟩ (fun j hj => (HLB.out j hj).2) (fun j hj => (HHB.out j hj).2))
        have B5 := Lib.hid (below_on B2.out QX)
        have PX := Lib.hid (PX.out.kept QX)
        have X2 := Lib.hid (X2.out.kept QX)
        have A2 := Lib.hid (own_below A2.out QX)
        rw [HLn.out, HHn.out] at BX
        clear QX
        obtain ⟨b0, b1, b2, b3⟩ := PX.out.facts
        go_wp2_with fail
        refine (BX.out _ (Below.refl _ _)).mono ?_
        rintro e w6 ⟨Bl, gb, cb, rfl, _, hO, hb, hin⟩
        obtain ⟨v6, hv⟩ : ∃ v6, v6 = w6.alloc (.cells #[.int .i64 n, .slice (some ⟨gb, 0, none⟩) Bl.length cb] 24) := ⟨_, rfl⟩
        have X6 := Lib.hid (show Two v6 w6.heap.size (.int .i64 n) (.slice (some ⟨gb, 0, none⟩) Bl.length cb) by rw [hv]; exact Two.made _ _ _ _)
        have A6' := Lib.hid (show Own v6 gb cb Bl by rw [hv]; exact hO.alloc _)
        have H6 := Lib.hid (show Below wr.heap.size wr v6 by rw [hv]; exact hb.alloc hb.size _)
        clear hb hO b0 b1 b2 b3 BX
        go_upto_region 17 with (fail)
        rw [← hv]
        clear hv
        have B6 := Lib.hid (below_on B5.out H6.out)
        have PX := Lib.hid (PX.out.kept H6.out)
        have X2 := Lib.hid (X2.out.kept H6.out)
        have A2 := Lib.hid (own_below A2.out H6.out)
        obtain ⟨b0, b1, b2, b3⟩ := PX.out.facts
        obtain ⟨d0, d1, d2, d3⟩ := X2.out.facts
        have I1 := Lib.hid (IN.out v6 A l (some ⟨ga, 0, none⟩) ao ca cap A2.out.arg (HS.out _ B6.out).1)
        rw [IA.out.1, IA.out.2] at I1
        go_wp2_with fail
        refine I1.out.mono ?_
        rintro e w7 ⟨rfl, hb⟩
        have B7 := Lib.hid (below_on B6.out hb)
        have X2 := Lib.hid (X2.out.kept hb)
        have A2 := Lib.hid (own_below A2.out hb)
        have X6 := Lib.hid (X6.out.kept hb)
        have A6' := Lib.hid (own_below A6'.out hb)
        clear hb b0 b1 b2 b3 d0 d1 d2 d3 I1
        obtain ⟨b0, b1, b2, b3⟩ := X6.out.facts
        obtain ⟨d0, d1, d2, d3⟩ := X2.out.facts
        have I2 := Lib.hid (IN.out w7 Bl A (some ⟨gb, 0, none⟩) (some ⟨ga, 0, none⟩) cb ca A6'.out.arg A2.out.arg)
        rw [hin.out.1, hin.out.2] at I2
        go_wp2_with fail
        refine I2.out.mono ?_
        rintro e w8 ⟨rfl, hb⟩
        have B8 := Lib.hid (below_on B7.out hb)
        clear hb b0 b1 b2 b3 d0 d1 d2 d3 I2
        go_wp2_with fail
        refine (SH.out _).mono ?_
        rintro e w9 ⟨rfl, hb⟩
        have B9 := Lib.hid (below_on B8.out hb)
        clear hb
        go_wp2_with fail
        go_ret
        exact ⟨rfl, B9.out⟩
    · have D1 : decide ((t : Int) < (sl : Int)) = false := by simp; omega
      have QX := HM.out.2.2
      have BX := Lib.hid (show ∀ W, Below wr.heap.size wr W → _ from fun W hb => BO.out W L H g1 c1 g2 c2 (below_on (below_on B2.out QX) hb) (HM.out.1.on hb) (HM.out.2.1.on hb) ⟨by rw [HLn.out]; exact EK.out, fun j hj => ⟨(HLB.out j hj).1, by have := (HLB.out j hj).2; have := (HKN.out.2 j hj).2; omega⟩⟩ ⟨by rw [HHn.out]; exact EK.out, fun j hj => ⟨(HHB.out j hj).1, by have := (HHB.out j hj).2; have := (HKN.out.2 j hj).2; omega⟩⟩ (fun j hj => (HLB.out j hj).2) (fun j hj => (HHB.out j hj).2))
      have B5 := Lib.hid (below_on B2.out QX)
      have PX := Lib.hid (PX.out.kept QX)
      have X2 := Lib.hid (X2.out.kept QX)
      have A2 := Lib.hid (own_below A2.out QX)
      rw [HLn.out, HHn.out] at BX
      clear QX
      obtain ⟨b0, b1, b2, b3⟩ := PX.out.facts
      go_wp2_with fail
      refine (BX.out _ (Below.refl _ _)).mono ?_
      rintro e w6 ⟨Bl, gb, cb, rfl, _, hO, hb, hin⟩
      obtain ⟨v6, hv⟩ : ∃ v6, v6 = w6.alloc (.cells #[.int .i64 n, .slice (some ⟨gb, 0, none⟩) Bl.length cb] 24) := ⟨_, rfl⟩
      have X6 := Lib.hid (show Two v6 w6.heap.size (.int .i64 n) (.slice (some ⟨gb, 0, none⟩) Bl.length cb) by rw [hv]; exact Two.made _ _ _ _)
      have A6' := Lib.hid (show Own v6 gb cb Bl by rw [hv]; exact hO.alloc _)
      have H6 := Lib.hid (show Below wr.heap.size wr v6 by rw [hv]; exact hb.alloc hb.size _)
      clear hb hO b0 b1 b2 b3 BX
      go_upto_region 17 with (fail)
      rw [← hv]
      clear hv
      have B6 := Lib.hid (below_on B5.out H6.out)
      have PX := Lib.hid (PX.out.kept H6.out)
      have X2 := Lib.hid (X2.out.kept H6.out)
      have A2 := Lib.hid (own_below A2.out H6.out)
      obtain ⟨b0, b1, b2, b3⟩ := PX.out.facts
      obtain ⟨d0, d1, d2, d3⟩ := X2.out.facts
      have I1 := Lib.hid (IN.out v6 A l (some ⟨ga, 0, none⟩) ao ca cap A2.out.arg (HS.out _ B6.out).1)
      rw [IA.out.1, IA.out.2] at I1
      go_wp2_with fail
      refine I1.out.mono ?_
      rintro e w7 ⟨rfl, hb⟩
      have B7 := Lib.hid (below_on B6.out hb)
      have X2 := Lib.hid (X2.out.kept hb)
      have A2 := Lib.hid (own_below A2.out hb)
      have X6 := Lib.hid (X6.out.kept hb)
      have A6' := Lib.hid (own_below A6'.out hb)
      clear hb b0 b1 b2 b3 d0 d1 d2 d3 I1
      obtain ⟨b0, b1, b2, b3⟩ := X6.out.facts
      obtain ⟨d0, d1, d2, d3⟩ := X2.out.facts
      have I2 := Lib.hid (IN.out w7 Bl A (some ⟨gb, 0, none⟩) (some ⟨ga, 0, none⟩) cb ca A6'.out.arg A2.out.arg)
      rw [hin.out.1, hin.out.2] at I2
      go_wp2_with fail
      refine I2.out.mono ?_
      rintro e w8 ⟨rfl, hb⟩
      have B8 := Lib.hid (below_on B7.out hb)
      clear hb b0 b1 b2 b3 d0 d1 d2 d3 I2
      go_wp2_with fail
      refine (SH.out _).mono ?_
      rintro e w9 ⟨rfl, hb⟩
      have B9 := Lib.hid (below_on B8.out hb)
      clear hb
      go_wp2_with fail
      go_ret
      exact ⟨rfl, B9.out⟩

theorem widengrows_any (N : Int) (l k ls : List Int) (ao ko so : Option Addr) (cap kc sc : Nat) (w : World) (hA : Arg w ao l) (hK : Arg w ko k) (hS : Arg w so ls) (n1 : ao = none → l = [] ∧ cap = 0) (n2 : ko = none → k = [] ∧ kc = 0) (n3 : so = none → ls = [] ∧ sc = 0) (hi : ∀ j, j < ls.length → I64 (Zo.gt ls j)) :
    Calls Try.prog 4 #[.agg #[.int .i64 N, .slice ao l.length cap], .slice ko k.length kc, .slice so ls.length sc] w (Made (.bool true) w) := by
  cases h : b2B l.length k.length ls.length
  · by_cases he : wdE N k k l = 0
    · obtain ⟨c1, c2, _⟩ := wdE_ok he
      obtain ⟨n, rfl, _⟩ := chk_ok c1
      exact wlg_ok n l k ls ao ko so cap kc sc w ⟨hA, n1⟩ ⟨hK, n2⟩ ⟨hS, n3⟩ h hi c1 (ksB_kn c2) he
    · exact wlg_bad N l k ao ko so cap kc ls.length sc w ⟨hA, n1⟩ ⟨hK, n2⟩ h he
  · exact wlg_long N ao ko so l.length cap k.length kc ls.length sc w h
end Go.Proofs.Ytjfhjckacfkpoaa
