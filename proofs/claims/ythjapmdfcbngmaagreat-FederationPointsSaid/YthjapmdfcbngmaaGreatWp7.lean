/- A part. -/
import Derived.Test.YthjapmdfcbngmaaGreatWp5
import Derived.Test.YthjapmdfcbngmaaGreatWp6
import Derived.Deep.RegionLawGrows
import Derived.Lib.SmallJoins

namespace Go.Proofs.YthjapmdfcbngmaaGreat
open Go.RowKit

theorem Tryz.info37 : (Tryz.prog.info? 37).map (fun i => (i.zero, i.size, i.bytes)) = some (some (.int .i64 0), 1, 8) := by kernel_rfl

theorem Rd.map {w : World} {a : Addr} {l : List Int} (h : Rd w a l) : ∀ j u, (l.map (Value.int .i64))[j]? = some u → w.cell? (a.add j) = some u := by
  intro j u hj
  have hl : j < l.length := by
    rcases Nat.lt_or_ge j l.length with c | c
    · exact c
    · simp [c] at hj
  rw [h j hl]
  simp [hl] at hj
  rw [← hj]; simp [Zo.gt, hl]

theorem grown_below {X w w' : World} (hb : Below X.heap.size X w) (hg : w.grownBy w' none) : Below X.heap.size X w' :=
  hb.trans ⟨hg.os, hg.tape, hg.output, hg.size, fun k hk => hg.block k (Nat.lt_of_lt_of_le hk hb.size) (by simp)⟩

theorem own_of {w : World} {base g c len : Nat} {xs : List Value} {l : List Int} (h : w.ownsRow base 37 1 (.slice (some ⟨g, 0, none⟩) len c) len xs) (hx : xs = l.map (Value.int .i64)) (hl : len = l.length) : Own w g c l ∧ base ≤ g := by
  subst hl hx
  refine ⟨?_, (World.ownsRow.lt h g rfl).1⟩
  obtain ⟨h1, h2⟩ := h
  refine ⟨h1, ?_⟩
  rcases h2 with h2 | ⟨g', cap', cur, a1, _, a3⟩
  · exact Or.inl h2
  · exact Or.inr ⟨g', cap', cur, a1, Nat.zero_le _, a3⟩

theorem put_far {w : World} {g c b : Nat} {l : List Int} (h : Own w g c l) (hb : b ≠ g) (u v : Value) : Own ((w.setCell ⟨b, 0, none⟩ u).setCell ⟨b, 1, none⟩ v) g c l := by
  have e1 : w.grownBy (w.setCell ⟨b, 0, none⟩ u) (some b) := ⟨rfl, rfl, rfl, by simp, fun k _ hk => heap_setCell_other w ⟨b, 0, none⟩ k u (fun e => hk (by simp [e]))⟩
  have e2 : (w.setCell ⟨b, 0, none⟩ u).grownBy ((w.setCell ⟨b, 0, none⟩ u).setCell ⟨b, 1, none⟩ v) (some b) := ⟨rfl, rfl, rfl, by simp, fun k _ hk => heap_setCell_other _ ⟨b, 1, none⟩ k v (fun e => hk (by simp [e]))⟩
  exact h.kept (grown_trans e1 e2) (by simp; omega)

set_option maxRecDepth 20000 in
set_option maxHeartbeats 800000 in
theorem copied_any (N : Int) (l : List Int) (a : Addr) (cap : Nat) (w : World) (h0 : 0 < l.length) (h1 : l.length ≤ 1000) (hR : Rd w a l) :
    Calls Tryz.prog 93 #[.agg #[.int .i64 N, .slice (some a) l.length cap]] w
      (fun e w' => ∃ g c, e = .returned (.agg #[.int .i64 N, .slice (some ⟨g, 0, none⟩) l.length c]) ∧ w.heap.size ≤ g ∧ Own w' g c l ∧ Below w.heap.size w w') := by
  obtain ⟨len, hlen⟩ : ∃ len, len = l.length := ⟨_, rfl⟩
  obtain ⟨xs, hxs⟩ : ∃ xs, xs = l.map (Value.int .i64) := ⟨_, rfl⟩
  obtain ⟨i0, hi, hz0, hz1, hz2⟩ := info_parts Tryz.info37
  obtain ⟨w0, hw0⟩ : ∃ w0, w0 = (w.alloc (.cells #[.int .i64 N, .slice (some a) len cap] 36)).alloc (.cells #[.int .i64 0, .slice none 0 0] 36) := ⟨_, rfl⟩
  have b0 : w0.cell? ⟨w.heap.size, 0, none⟩ = some (.int .i64 N) := by rw [hw0]; go_simp
  have b1 : w0.cell? ⟨w.heap.size, 1, none⟩ = some (.slice (some a) len cap) := by rw [hw0]; go_simp
  have r0 : w0.cell? ⟨w.heap.size + 1, 0, none⟩ = some (.int .i64 0) := by rw [hw0]; go_simp
  have r1 : w0.cell? ⟨w.heap.size + 1, 1, none⟩ = some (.slice none 0 0) := by rw [hw0]; go_simp
  have f0 : w0.frozen? ⟨w.heap.size + 1, 0, none⟩ = false := by rw [hw0]; go_simp
  have f1 : w0.frozen? ⟨w.heap.size + 1, 1, none⟩ = false := by rw [hw0]; go_simp
  have z0 : w0.heap.size = w.heap.size + 2 := by rw [hw0]; simp
  have e0 : Below w.heap.size w w0 := by rw [hw0]; exact past_two (Below.refl _ _)
  have RN := Lib.hid (show ∀ w' : World, Below w0.heap.size w0 w' → ∀ j u, xs[j]? = some u → w'.cell? (a.add j) = some u from fun w' h => by rw [hxs]; exact ((hR.on e0).on h).map)
  have KS := Lib.hid (show ∀ w' : World, Below w0.heap.size w0 w' → w'.cell? ⟨w.heap.size, 0, none⟩ = some (.int .i64 N) ∧ w'.cell? ⟨w.heap.size, 1, none⟩ = some (.slice (some a) len cap) from fun w' h => ⟨kept h b0, kept h b1⟩)
  have l1 : xs.length = len * 1 := by rw [hxs, hlen]; simp
  have o1 : ∀ u ∈ xs, u.oneCell' = true := by rw [hxs]; simp [Value.oneCell']
  have l2 : 0 < len := by omega
  have l3 : len ≤ 1000 := by omega
  have B1 : Below w0.heap.size w0 w0.drew := (Below.refl _ _).drew
  have B2 : ∀ o : Obj, Below w0.heap.size w0 (w0.drew.alloc o) := fun o => B1.alloc (Nat.le_refl _) o
  have HX := Lib.hid hxs
  have HL := Lib.hid hlen
  have HO1 := Lib.hid o1
  have HB2 := Lib.hid B2
  have HB1 := Lib.hid B1
  have E0 := Lib.hid e0
  rw [← hlen]
  clear hR hlen hxs o1 B1 B2 b0 b1 h0 h1 e0
  go_enter Tryz.func93, Tryz.ntmps93
  go_wp2_with fail
  rw [← hw0]
  clear hw0
  go_region_held3 (fun w' => w'.cell? ⟨w.heap.size, 0, none⟩ = some (.int .i64 N) ∧ w'.cell? ⟨w.heap.size, 1, none⟩ = some (.slice (some a) len cap)) (first | exact KS.out _ HB1.out | exact KS.out _ (HB2.out _) | exact KS.out _ (by assumption) | go_keep)
    (first | (refine step_append_grows rfl (.tmp 5) (.tmp 7) 34 rfl 37 i0 (.int .i64 0) 1 8 Tryz.underlying34 hi hz0 hz1 hz2 rfl (by decide) (some ⟨w.heap.size + 2, 0, none⟩) 0 0 [] (by simp [Act.eval]) (by simp) rfl (by simp) a len cap xs (by simp [Act.eval]) l1 (RN.out _ (HB2.out _)) HO1.out (by omega) (by unfold maxLen; omega) (by omega) ?_; intro v' w5 hown hgrow; obtain ⟨g, c, rfl⟩ := Joins.ownsRow_form hown (by omega); have B5 : Below w0.heap.size w0 w5 := grown_below (HB2.out _) hgrow; have q0 := kept B5 r0; have q1 := kept B5 r1; have q2 := (B5.frozen (p := ⟨w.heap.size + 1, 0, none⟩) (by show w.heap.size + 1 < w0.heap.size; omega)).trans f0; have q3 := (B5.frozen (p := ⟨w.heap.size + 1, 1, none⟩) (by show w.heap.size + 1 < w0.heap.size; omega)).trans f1))
  go_wp2_with fail
  have hown' : w5.ownsRow (w0.drew.alloc (.cells #[] 37)).heap.size 37 1 (.slice (some ⟨g, 0, none⟩) len c) len xs := by simpa using hown
  obtain ⟨ho, hg⟩ := own_of hown' HX.out HL.out
  have hg2 : w0.heap.size ≤ g := Nat.le_trans (by simp) hg
  refine bodyPost_ret (v := .agg #[.int .i64 N, .slice (some ⟨g, 0, none⟩) len c]) (by simp [results, Tryz.results93, go_sem, q0, q1]) rfl ⟨g, c, rfl, by omega, put_far ho (by omega) _ _, ?_⟩
  exact ((below_on E0.out B5).setCell (by show w.heap.size ≤ w.heap.size + 1; omega) _).setCell (by show w.heap.size ≤ w.heap.size + 1; omega) _
end Go.Proofs.YthjapmdfcbngmaaGreat

namespace Go.Proofs.YthjapmdfcbngmaaGreat
open Go.RowKit

def Two (w : World) (b : Nat) (u v : Value) : Prop := Cell w ⟨b, 0, none⟩ u ∧ Cell w ⟨b, 1, none⟩ v

theorem Two.lt {w : World} {b : Nat} {u v : Value} (h : Two w b u v) : b < w.heap.size := h.1.lt

theorem Two.kept {w w' : World} {b : Nat} {u v : Value} (h : Two w b u v) (hb : Below w.heap.size w w') : Two w' b u v := ⟨h.1.kept hb, h.2.kept hb⟩

theorem Two.made (w : World) (u v : Value) (t : TypeId) : Two (w.alloc (.cells #[u, v] t)) w.heap.size u v := ⟨⟨by go_simp, by go_simp⟩, ⟨by go_simp, by go_simp⟩⟩

theorem Two.alloc {w : World} {b : Nat} {u v : Value} (h : Two w b u v) (o : Obj) : Two (w.alloc o) b u v := h.kept (one_more o)

theorem Two.facts {w : World} {b : Nat} {u v : Value} (h : Two w b u v) : w.cell? ⟨b, 0, none⟩ = some u ∧ w.cell? ⟨b, 1, none⟩ = some v ∧ w.frozen? ⟨b, 0, none⟩ = false ∧ w.frozen? ⟨b, 1, none⟩ = false :=
  ⟨h.1.1, h.2.1, h.1.2, h.2.2⟩

theorem Two.grown {w w' : World} {b g : Nat} {u v : Value} (h : Two w b u v) (hg : w.grownBy w' (some g)) (hne : b ≠ g) : Two w' b u v :=
  ⟨⟨hg.cell h.1.1 (by simpa using hne), (World.frozen?_of_block (hg.block _ h.1.lt (by simpa using hne))).trans h.1.2⟩, ⟨hg.cell h.2.1 (by simpa using hne), (World.frozen?_of_block (hg.block _ h.2.lt (by simpa using hne))).trans h.2.2⟩⟩

def ZRes (w : World) (N : Int) (l : List Int) (er : Int) (e : Ending) (w' : World) : Prop :=
  Below w.heap.size w w' ∧ ((er = 0 ∧ ∃ g c, e = .returned (.tuple #[.agg #[.int .i64 N, .slice (some ⟨g, 0, none⟩) l.length c], .int .i64 0]) ∧ w.heap.size ≤ g ∧ Own w' g c l) ∨
    (er ≠ 0 ∧ e = .returned (.tuple #[.agg #[.int .i64 0, .slice none 0 0], .int .i64 er])))

theorem closed_ok {n : Nat} {l : List Int} {g cap : Nat} (w : World) (hn : n ≤ 10) (hl : l.length = (n + 1) * (n + 1)) (hO : Own w g cap l) (h : cloE n l = 0) :
    Calls Tryz.prog 94 #[.agg #[.int .i64 n, .slice (some ⟨g, 0, none⟩) l.length cap]] w (fun e w' => e = .returned (.tuple #[.agg #[.int .i64 n, .slice (some ⟨g, 0, none⟩) l.length cap], .int .i64 0]) ∧ Own w' g cap (Zo.clo n l) ∧ w.grownBy w' (some g)) := by
  have := closed_any n l g cap w hn hl hO
  rwa [h] at this

theorem closed_no {n : Nat} {l : List Int} {g cap : Nat} (w : World) (hn : n ≤ 10) (hl : l.length = (n + 1) * (n + 1)) (hO : Own w g cap l) (h : cloE n l ≠ 0) :
    Calls Tryz.prog 94 #[.agg #[.int .i64 n, .slice (some ⟨g, 0, none⟩) l.length cap]] w (fun e w' => e = .returned (.tuple #[.agg #[.int .i64 0, .slice none 0 0], .int .i64 (cloE n l)]) ∧ Own w' g cap (Zo.clo n l) ∧ w.grownBy w' (some g)) := by
  have := closed_any n l g cap w hn hl hO
  rwa [show zres (cloE n l) n g l.length cap = .agg #[.int .i64 0, .slice none 0 0] by unfold zres; rw [if_neg h]] at this

theorem dsq_pos (n : Nat) : 0 < (n + 1) * (n + 1) := Nat.mul_pos (by omega) (by omega)

theorem dsq_le {n : Nat} (hn : n ≤ 10) : (n + 1) * (n + 1) ≤ 121 := by
  have : (n + 1) * (n + 1) ≤ 11 * 11 := Nat.mul_le_mul (by omega) (by omega)
  omega

theorem grown_over {w w1 w2 : World} {g : Nat} (hb : Below w.heap.size w w1) (hg : w1.grownBy w2 (some g)) (hle : w.heap.size ≤ g) : Below w.heap.size w w2 :=
  hb.trans ⟨hg.os, hg.tape, hg.output, hg.size, fun k hk => hg.block k (Nat.lt_of_lt_of_le hk hb.size) (by simp; omega)⟩

theorem fold_len {f : List Int → Nat → List Int} (hf : ∀ x t, (f x t).length = x.length) (l : List Int) (t : Nat) : ((List.range t).foldl f l).length = l.length := by
  induction t with
  | zero => rfl
  | succ t ih => rw [Zo.fold_succ, hf, ih]

def upS (n : Nat) (x : List Int) (t : Nat) : List Int := x.set (Zo.ix n (t + 1) 0) 1099511627776

def upL (n : Nat) (l : List Int) : List Int := (List.range n).foldl (upS n) l

theorem upL_len (n : Nat) (l : List Int) : (upL n l).length = l.length := fold_len (fun x t => by simp [upS]) l n

def dnS (n : Nat) (x : List Int) (t : Nat) : List Int := x.set (Zo.ix n 0 (t + 1)) 1

def dnL (n : Nat) (l : List Int) : List Int := (List.range n).foldl (dnS n) l

theorem dnL_len (n : Nat) (l : List Int) : (dnL n l).length = l.length := fold_len (fun x t => by simp [dnS]) l n

end Go.Proofs.YthjapmdfcbngmaaGreat

namespace Go.Proofs.YthjapmdfcbngmaaGreat
open Go.RowKit

def Arg (w : World) (ao : Option Addr) (l : List Int) : Prop := l ≠ [] → ∃ a, ao = some a ∧ Rd w a l

theorem Arg.on {w w' : World} {ao : Option Addr} {l : List Int} (h : Arg w ao l) (hb : Below w.heap.size w w') : Arg w' ao l := fun hl => by
  obtain ⟨a, h1, h2⟩ := h hl
  exact ⟨a, h1, h2.on hb⟩

theorem dim_nat {N : Int} (h : dimB N = true) : ∃ n : Nat, N = n ∧ n ≤ 10 := by
  unfold dimB at h; simp at h
  exact ⟨N.toNat, by omega, by omega⟩

theorem chk_ok {N : Int} {l : List Int} (h : chkE N l = 0) : ∃ n : Nat, N = n ∧ n ≤ 10 ∧ l.length = (n + 1) * (n + 1) ∧ l ≠ [] := by
  unfold chkE at h
  split at h
  · rename_i c
    unfold chkB at c
    simp only [Bool.and_eq_true, decide_eq_true_eq] at c
    obtain ⟨n, rfl, hn⟩ := dim_nat c.1.1.1
    have hl := c.1.1.2
    simp at hl
    refine ⟨n, rfl, hn, hl, fun e => ?_⟩
    have := dsq_pos n
    rw [e] at hl; simp at hl
  · omega

theorem chk_two {N : Int} {l : List Int} (h : chkE N l ≠ 0) : chkE N l = 2 := by
  unfold chkE at h ⊢; split <;> simp_all

theorem check_gen (N : Int) (l : List Int) (ao : Option Addr) (cap : Nat) (w : World) (hA : Arg w ao l) :
    Calls Tryz.prog 39 #[.agg #[.int .i64 N, .slice ao l.length cap]] w (Made (.int .i64 (chkE N l)) w) := by
  cases hd : dimB N
  · exact check_bad1 N l ao cap w hd
  · obtain ⟨n, rfl, hn⟩ := dim_nat hd
    by_cases hl : l.length = (n + 1) * (n + 1)
    · obtain ⟨a, rfl, hR⟩ := hA (fun e => by have := dsq_pos n; rw [e] at hl; simp at hl)
      exact check_any n l a cap w hn hl hR
    · exact check_bad2 n l ao cap w hn hl

theorem check_as {N : Int} {l : List Int} {ao : Option Addr} {cap : Nat} {e : Int} (w : World) (hA : Arg w ao l) (h : chkE N l = e) :
    Calls Tryz.prog 39 #[.agg #[.int .i64 N, .slice ao l.length cap]] w (Made (.int .i64 e) w) := by rw [← h]; exact check_gen N l ao cap w hA

theorem zres_bad {w w' : World} {N : Int} {l : List Int} (hb : Below w.heap.size w w') : ZRes w N l 2 (.returned (.tuple #[.agg #[.int .i64 0, .slice none 0 0], .int .i64 2])) w' := ⟨hb, Or.inr ⟨by decide, rfl⟩⟩

theorem ZRes.bad {w w' : World} {N : Int} {l l' : List Int} {er : Int} {N' : Int} {e : Ending} (h : ZRes w N l 2 e w') (he : er = 2) : ZRes w N' l' er e w' := by
  subst he
  refine ⟨h.1, ?_⟩
  rcases h.2 with ⟨c, _⟩ | c
  · omega
  · exact Or.inr c

def upE (N : Int) (l : List Int) : Int := if chkE N l = 0 then cloE N.toNat (upL N.toNat l) else 2

def dnE (N : Int) (l : List Int) : Int := if chkE N l = 0 then cloE N.toNat (dnL N.toNat l) else 2

end Go.Proofs.YthjapmdfcbngmaaGreat

namespace Go.Proofs.YthjapmdfcbngmaaGreat
open Go.RowKit

end Go.Proofs.YthjapmdfcbngmaaGreat

namespace Go.Proofs.YthjapmdfcbngmaaGreat
open Go.RowKit

abbrev Con := Int × Int × Int

def gc (cs : List Con) (k : Nat) : Con := cs.getD k (0, 0, 0)

def Rd3 (w : World) (a : Addr) (cs : List Con) : Prop := ∀ j, j < cs.length → w.cell? (a.add (j * 3)) = some (.int .i64 (gc cs j).1) ∧ w.cell? ⟨(a.add (j * 3)).block, (a.add (j * 3)).off + 1, none⟩ = some (.int .i64 (gc cs j).2.1) ∧ w.cell? ⟨(a.add (j * 3)).block, (a.add (j * 3)).off + 2, none⟩ = some (.int .i64 (gc cs j).2.2)

theorem Rd3.on {w w' : World} {a : Addr} {l : List Con} (h : Rd3 w a l) (hb : Below w.heap.size w w') : Rd3 w' a l := fun j hj => ⟨kept hb (h j hj).1, kept hb (h j hj).2.1, kept hb (h j hj).2.2⟩

def okC (n : Nat) (c : Con) : Bool := decide (0 ≤ c.1 ∧ c.1 ≤ n ∧ 0 ≤ c.2.1 ∧ c.2.1 ≤ n) && lvB c.2.2

def anS (n : Nat) (cs : List Con) (x : List Int) (t : Nat) : List Int := x.set (Zo.ix n (gc cs t).1.toNat (gc cs t).2.1.toNat) (imin (Zo.At n x (gc cs t).1.toNat (gc cs t).2.1.toNat) (gc cs t).2.2)

def anL (n : Nat) (cs : List Con) (l : List Int) : List Int := (List.range cs.length).foldl (anS n cs) l

theorem anL_len (n : Nat) (cs : List Con) (l : List Int) : (anL n cs l).length = l.length := fold_len (fun x t => by simp [anS]) l _

def anE (n : Nat) (cs : List Con) (l : List Int) : Int := if cs.all (okC n) then cloE n (anL n cs l) else 2

theorem anE_ok {n : Nat} {cs : List Con} {l : List Int} (h : ∀ k, k < cs.length → okC n (gc cs k) = true) : anE n cs l = cloE n (anL n cs l) := by
  have : cs.all (okC n) = true := by
    rw [List.all_eq_true]
    intro x hx
    obtain ⟨k, hk, rfl⟩ := List.getElem_of_mem hx
    have := h k hk
    simpa [gc, hk] using this
  unfold anE; rw [this]; rfl

end Go.Proofs.YthjapmdfcbngmaaGreat

namespace Go.Proofs.YthjapmdfcbngmaaGreat
open Go.RowKit

def closeB (N : Int) (l : List Int) : Bool := dimB N && decide (l.length = (N.toNat + 1) * (N.toNat + 1)) && l.all lvB

def closeE (N : Int) (l : List Int) : Int := if closeB N l then cloE N.toNat l else 2

theorem closeE_bad1 {N : Int} {l : List Int} (h : dimB N = false) : closeE N l = 2 := by simp [closeE, closeB, h]

theorem closeE_bad2 {N : Int} {l : List Int} (h : l.length ≠ (N.toNat + 1) * (N.toNat + 1)) : closeE N l = 2 := by simp [closeE, closeB, h]

theorem closeE_bad3 {N : Int} {l : List Int} {k : Nat} (hk : k < l.length) (h : lvB (Zo.gt l k) = false) : closeE N l = 2 := by
  have : l.all lvB = false := by
    rw [List.all_eq_false]
    exact ⟨l[k], List.getElem_mem hk, by rw [show l[k] = Zo.gt l k by simp [Zo.gt, hk], h]; simp⟩
  simp [closeE, closeB, this]

theorem closeE_ok {n : Nat} {l : List Int} (hn : n ≤ 10) (hl : l.length = (n + 1) * (n + 1)) (h : ∀ k, k < l.length → lvB (Zo.gt l k) = true) : closeE (n : Int) l = cloE n l := by
  have h1 : l.all lvB = true := by
    rw [List.all_eq_true]
    intro x hx
    obtain ⟨k, hk, rfl⟩ := List.getElem_of_mem hx
    have := h k hk
    simpa [Zo.gt, hk] using this
  have d : dimB (n : Int) = true := by unfold dimB; simp; omega
  simp [closeE, closeB, d, hl, h1]

theorem two_res (w : World) : Two (w.alloc (.cells #[.int .i64 0, .slice none 0 0] 36)) w.heap.size (.int .i64 0) (.slice none 0 0) := Two.made _ _ _ _

set_option maxHeartbeats 400000 in
theorem close_bad1 (N : Int) (l : List Int) (ao : Option Addr) (cap : Nat) (w : World) (h : dimB N = false) :
    Calls Tryz.prog 81 #[.int .i64 N, .slice ao l.length cap] w (ZRes w 0 [] 2) := by
  have p := fun W => dimension_any N W
  rw [h] at p
  have PD := Lib.hid p
  obtain ⟨b0, b1, b2, b3⟩ := (two_res w).facts
  clear p h
  go_enter Tryz.func81, Tryz.ntmps81
  go_wp2_with fail
  refine (PD.out _).mono ?_
  rintro e w1 ⟨rfl, rfl⟩
  go_wp2_with fail
  refine bodyPost_ret (v := .tuple #[.agg #[.int .i64 0, .slice none 0 0], .int .i64 2]) (by simp [results, Tryz.results81, go_sem]) rfl (zres_bad ?_)
  exact one_more _

set_option maxHeartbeats 400000 in
theorem close_bad2 (n : Nat) (l : List Int) (ao : Option Addr) (cap : Nat) (w : World) (hn : n ≤ 10) (h : l.length ≠ (n + 1) * (n + 1)) :
    Calls Tryz.prog 81 #[.int .i64 n, .slice ao l.length cap] w (ZRes w 0 [] 2) := by
  have p := fun W => dimension_any n W
  rw [show dimB n = true by unfold dimB; simp; omega] at p
  have PD := Lib.hid p
  have t3 : ((n : Int) + 1) * ((n : Int) + 1) ≤ 121 ∧ 0 ≤ ((n : Int) + 1) * ((n : Int) + 1) := by
    have : (n + 1) * (n + 1) ≤ 11 * 11 := Nat.mul_le_mul (by omega) (by omega)
    constructor
    · exact_mod_cast this
    · exact_mod_cast Nat.zero_le _
  have h2 : ((l.length : Int) != ((n : Int) + 1) * ((n : Int) + 1)) = true := by
    simp; intro e; apply h; exact_mod_cast e
  generalize l.length = len at *
  obtain ⟨b0, b1, b2, b3⟩ := (two_res w).facts
  clear p h
  go_enter Tryz.func81, Tryz.ntmps81
  go_wp2_with fail
  refine (PD.out _).mono ?_
  rintro e w1 ⟨rfl, rfl⟩
  go_wp2_with fail
  refine bodyPost_ret (v := .tuple #[.agg #[.int .i64 0, .slice none 0 0], .int .i64 2]) (by simp [results, Tryz.results81, go_sem]) rfl (zres_bad ?_)
  exact one_more _

set_option maxHeartbeats 1600000 in
theorem close_any (n : Nat) (l : List Int) (a : Addr) (cap : Nat) (w : World) (hn : n ≤ 10) (hl : l.length = (n + 1) * (n + 1)) (hR : Rd w a l) :
    Calls Tryz.prog 81 #[.int .i64 n, .slice (some a) l.length cap] w (ZRes w n (Zo.clo n l) (closeE n l)) := by
  obtain ⟨len, hlen⟩ : ∃ len, len = l.length := ⟨_, rfl⟩
  obtain ⟨w0, hw0⟩ : ∃ w0, w0 = w.alloc (.cells #[.int .i64 0, .slice none 0 0] 36) := ⟨_, rfl⟩
  have rs : Two w0 w.heap.size (.int .i64 0) (.slice none 0 0) := by rw [hw0]; exact two_res w
  have e0 : Below w.heap.size w w0 := by rw [hw0]; exact one_more _
  have z0 : w0.heap.size = w.heap.size + 1 := by rw [hw0]; simp
  have HR := Lib.hid (hR.on e0)
  have CP : Hid (∀ W, Rd W a l → Calls Tryz.prog 93 #[.agg #[.int .i64 n, .slice (some a) len cap]] W (fun e w' => ∃ g c, e = .returned (.agg #[.int .i64 n, .slice (some ⟨g, 0, none⟩) len c]) ∧ W.heap.size ≤ g ∧ Own w' g c l ∧ Below W.heap.size W w')) := Lib.hid fun W h => by have := copied_any n l a cap W (by rw [hl]; exact dsq_pos n) (by rw [hl]; have := dsq_le hn; omega) h; rw [← hlen] at this; exact this
  have p := fun W => dimension_any n W
  rw [show dimB n = true by unfold dimB; simp; omega] at p
  have PD := Lib.hid p
  have t3 : ((n : Int) + 1) * ((n : Int) + 1) ≤ 121 ∧ 0 ≤ ((n : Int) + 1) * ((n : Int) + 1) := by
    have : (n + 1) * (n + 1) ≤ 11 * 11 := Nat.mul_le_mul (by omega) (by omega)
    constructor
    · exact_mod_cast this
    · exact_mod_cast Nat.zero_le _
  have h2 : ((len : Int) != ((n : Int) + 1) * ((n : Int) + 1)) = false := by
    rw [hlen, hl]; simp
  have lb : len ≤ 121 := by rw [hlen, hl]; exact dsq_le hn
  have lx : l.length = (n + 1) * (n + 1) := hl
  have HL := Lib.hid hl
  have HLn := Lib.hid hlen
  have E0 := Lib.hid e0
  rw [← hlen]
  clear p hl hlen hR e0 lx
  go_enter Tryz.func81, Tryz.ntmps81
  go_wp2_with fail
  rw [← hw0]
  clear hw0
  refine (PD.out _).mono ?_
  rintro e w1 ⟨rfl, rfl⟩
  go_wp2_with fail
  clear t3 h2
  go_loopw [6] (fun s wr => ∃ t : Nat, t ≤ len ∧ s = .int .i64 t ∧ Hid (∀ k, k < t → lvB (Zo.gt l k) = true) ∧ Hid (wr = w1)) (fun s _ => len - (intOf s).toNat)
  case atStart => exact ⟨0, by omega, rfl, Lib.hid (fun k hk => by omega), Lib.hid rfl⟩
  case round =>
    obtain ⟨t, ht, rfl, HK, HW⟩ := hrel
    have hwr := HW.out
    subst hwr
    clear HW
    by_cases htn : t < len
    · have d1 := HR.out t (by rw [← HLn.out]; exact htn)
      obtain ⟨x, hx⟩ : ∃ x, x = Zo.gt l t := ⟨_, rfl⟩
      rw [← hx] at d1
      have HXE := Lib.hid hx
      have v9 := fun W => refLimValid_free x W
      clear hx
      cases lv : lvB x
      · have HE := Lib.hid (closeE_bad3 (N := n) (l := l) (k := t) (by rw [← HLn.out]; exact htn) (by rw [← HXE.out]; exact lv))
        rw [lv] at v9
        have V9 := Lib.hid v9
        clear v9 lv
        obtain ⟨b0, b1, b2, b3⟩ := rs.facts
        go_wp2_with fail
        refine (V9.out _).mono ?_
        rintro e w2 ⟨rfl, rfl⟩
        go_wp2_with fail
        refine bodyPost_ret (v := .tuple #[.agg #[.int .i64 0, .slice none 0 0], .int .i64 2]) (by simp [results, Tryz.results81, go_sem, b0, b1]) rfl (ZRes.bad (zres_bad (N := 0) (l := []) ?_) HE.out)
        exact (E0.out.setCell (by show w.heap.size ≤ w.heap.size; omega) _).setCell (by show w.heap.size ≤ w.heap.size; omega) _
      · have HK2 := Lib.hid (show lvB (Zo.gt l t) = true by rw [← HXE.out]; exact lv)
        rw [lv] at v9
        have V9 := Lib.hid v9
        clear v9 lv
        go_wp2_with fail
        refine (V9.out _).mono ?_
        rintro e w2 ⟨rfl, rfl⟩
        go_wp2_with fail
        go_roundw
        case rel =>
          refine ⟨t + 1, by omega, by go_num, Lib.hid (fun k hk => ?_), by first | exact Lib.hid rfl | exact Lib.hid trivial⟩
          by_cases e : k = t
          · rw [e]; exact HK2.out
          · exact HK.out k (by omega)
        case measure => simp [intOf]; omega
    · have HAE := Lib.hid (closeE_ok hn HL.out (fun k hk => HK.out k (by rw [← HLn.out] at hk; omega)))
      go_wp2_with fail
      refine (CP.out _ HR.out).mono ?_
      rintro e w2 ⟨g, c, rfl, hg, ho, hb2⟩
      have rs2 := rs.kept hb2
      have E2 := Lib.hid (below_on E0.out hb2)
      have HO := Lib.hid ho
      have z2 := hb2.size
      clear hb2 ho
      go_wp2_with fail
      by_cases hE : cloE n l = 0
      · have CL : Hid (∀ W, Own W g c l → Calls Tryz.prog 94 #[.agg #[.int .i64 n, .slice (some ⟨g, 0, none⟩) len c]] W (fun e w' => e = .returned (.tuple #[.agg #[.int .i64 n, .slice (some ⟨g, 0, none⟩) len c], .int .i64 0]) ∧ Own w' g c (Zo.clo n l) ∧ W.grownBy w' (some g))) := Lib.hid fun W h => by have := closed_ok W hn HL.out h hE; rw [← HLn.out] at this; exact this
        have HEE := Lib.hid hE
        clear hE
        refine (CL.out _ HO.out).mono ?_
        rintro e w5 ⟨rfl, ho5, hg5⟩
        have rs5 := rs2.grown hg5 (by omega)
        obtain ⟨q0, q1, q2, q3⟩ := rs5.facts
        have E5 := Lib.hid (grown_over E2.out hg5 (by omega))
        have HO5 := Lib.hid ho5
        clear ho5 hg5
        go_wp2_with fail
        refine bodyPost_ret (v := .tuple #[.agg #[.int .i64 n, .slice (some ⟨g, 0, none⟩) len c], .int .i64 0]) (by simp [results, Tryz.results81, go_sem, q0, q1]) rfl ⟨(E5.out.setCell (by show w.heap.size ≤ w.heap.size; omega) _).setCell (by show w.heap.size ≤ w.heap.size; omega) _, Or.inl ⟨by rw [HAE.out]; exact HEE.out, g, c, ?_, by omega, ?_⟩⟩
        · rw [Zo.clo_length, ← HLn.out]
        · exact put_far HO5.out (by omega) _ _
      · have CL : Hid (∀ W, Own W g c l → Calls Tryz.prog 94 #[.agg #[.int .i64 n, .slice (some ⟨g, 0, none⟩) len c]] W (fun e w' => e = .returned (.tuple #[.agg #[.int .i64 0, .slice none 0 0], .int .i64 (cloE n l)]) ∧ Own w' g c (Zo.clo n l) ∧ W.grownBy w' (some g))) := Lib.hid fun W h => by have := closed_no W hn HL.out h hE; rw [← HLn.out] at this; exact this
        have HEE := Lib.hid hE
        clear hE
        refine (CL.out _ HO.out).mono ?_
        rintro e w5 ⟨rfl, ho5, hg5⟩
        have rs5 := rs2.grown hg5 (by omega)
        obtain ⟨q0, q1, q2, q3⟩ := rs5.facts
        have E5 := Lib.hid (grown_over E2.out hg5 (by omega))
        have HO5 := Lib.hid ho5
        clear ho5 hg5
        go_wp2_with fail
        refine bodyPost_ret (v := .tuple #[.agg #[.int .i64 0, .slice none 0 0], .int .i64 (cloE n l)]) (by simp [results, Tryz.results81, go_sem, q0, q1]) rfl ⟨(E5.out.setCell (by show w.heap.size ≤ w.heap.size; omega) _).setCell (by show w.heap.size ≤ w.heap.size; omega) _, Or.inr ⟨by rw [HAE.out]; exact HEE.out, ?_⟩⟩
        rw [HAE.out]

theorem close_gen (N : Int) (l : List Int) (ao : Option Addr) (cap : Nat) (w : World) (hA : Arg w ao l) :
    Calls Tryz.prog 81 #[.int .i64 N, .slice ao l.length cap] w (ZRes w N (Zo.clo N.toNat l) (closeE N l)) := by
  cases hd : dimB N
  · exact (close_bad1 N l ao cap w hd).mono fun e w' h => h.bad (closeE_bad1 hd)
  · obtain ⟨n, rfl, hn⟩ := dim_nat hd
    by_cases hl : l.length = (n + 1) * (n + 1)
    · obtain ⟨a, rfl, hR⟩ := hA (fun e => by have := dsq_pos n; rw [e] at hl; simp at hl)
      exact close_any n l a cap w hn hl hR
    · exact (close_bad2 n l ao cap w hn hl).mono fun e w' h => h.bad (closeE_bad2 (by simpa using hl))
end Go.Proofs.YthjapmdfcbngmaaGreat
