/- Contracts of copied of layer 3's reference, and of what is built on it.; The frame of the functions of layer 3's reference that copy a zone, set elements and close it.; Contracts of Check, Up, Down and Free of layer 3's reference, for any zone, valid or not.; Plain mathematics of ratios: what Make returns, as numbers. Nothing of the program is named here.; Contracts of magnitude, commonDivisor, Valid and Make of package ratio.; Contracts of size, divisor, Valid and Make of the reference.; Contracts of Add, Sub, Mul, Div of package ratio and of the reference.; Contracts of Of, Neg, Floor, Ceil, Cmp of package ratio and of the reference, and of the reference's Sub.; Contracts of clock and ready of layer 3's reference.; Layer 6's law: common, the least common denominator of a point.; Layer 6: lists of constants: areConstants of the project, constants of the reference.; Layer 6: widened of the reference: an element by the rules of the document.; Plain mathematics: the project's closing of a matrix, row by row, against the reference's. Nothing of the program is named here.; Plain mathematics: what is closed keeps to the inequality of triangles, also of limits somewhat out of range.; Plain mathematics: matrices whose closing begins alike.; Plain mathematics: a change of each element beside the diagonal, in place.; Layer 6: elements and rules of the project. -/
import Derived.Test.YtgdcclldgfcilaaHw1
import Derived.Deep.RegionLawGrows
import Derived.Lib.SmallJoins
import Derived.BigQuiet

namespace Go.Proofs.Ytgdcclldgfcilaa
open Go.RowKit

theorem Try.info39 : (Try.prog.info? 39).map (fun i => (i.zero, i.size, i.bytes)) = some (some (.int .i64 0), 1, 8) := by kernel_rfl

theorem Rd.map {w : World} {a : Addr} {l : List Int} (h : Rd w a l) : ∀ j u, (l.map (Value.int .i64))[j]? = some u → w.cell? (a.add j) = some u := by
  intro j u hj
  have hl : j < l.length := by
    rcases Nat.lt_or_ge j l.length with c | c
    · exact c
    · simp [c] at hj
  rw [h j hl]
  simp [hl] at hj
  rw [← hj]; simp [Zo.gt, hl]

theorem grown_below {X w w' : World} (hb : Below X.heap.size X w) (hg : w.grownBy w' none) : Below X.heap.size X w' :=
  hb.trans ⟨hg.os, hg.tape, hg.output, hg.size, fun k hk => hg.block k (Nat.lt_of_lt_of_le hk hb.size) (by simp)⟩

theorem own_of {w : World} {base g c len : Nat} {xs : List Value} {l : List Int} (h : w.ownsRow base 39 1 (.slice (some ⟨g, 0, none⟩) len c) len xs) (hx : xs = l.map (Value.int .i64)) (hl : len = l.length) : Own w g c l ∧ base ≤ g := by
  subst hl hx
  refine ⟨?_, (World.ownsRow.lt h g rfl).1⟩
  obtain ⟨h1, h2⟩ := h
  refine ⟨h1, ?_⟩
  rcases h2 with h2 | ⟨g', cap', cur, a1, _, a3⟩
  · exact Or.inl h2
  · exact Or.inr ⟨g', cap', cur, a1, Nat.zero_le _, a3⟩

theorem put_far {w : World} {g c b : Nat} {l : List Int} (h : Own w g c l) (hb : b ≠ g) (u v : Value) : Own ((w.setCell ⟨b, 0, none⟩ u).setCell ⟨b, 1, none⟩ v) g c l := by
  have e1 : w.grownBy (w.setCell ⟨b, 0, none⟩ u) (some b) := ⟨rfl, rfl, rfl, by simp, fun k _ hk => heap_setCell_other w ⟨b, 0, none⟩ k u (fun e => hk (by simp [e]))⟩
  have e2 : (w.setCell ⟨b, 0, none⟩ u).grownBy ((w.setCell ⟨b, 0, none⟩ u).setCell ⟨b, 1, none⟩ v) (some b) := ⟨rfl, rfl, rfl, by simp, fun k _ hk => heap_setCell_other _ ⟨b, 1, none⟩ k v (fun e => hk (by simp [e]))⟩
  exact h.kept (grown_trans e1 e2) (by simp; omega)

set_option maxRecDepth 20000 in
set_option maxHeartbeats 800000 in
theorem copied_any (N : Int) (l : List Int) (a : Addr) (cap : Nat) (w : World) (h0 : 0 < l.length) (h1 : l.length ≤ 1000) (hR : Rd w a l) :
    Calls Try.prog 24 #[.agg #[.int .i64 N, .slice (some a) l.length cap]] w
      (fun e w' => ∃ g c, e = .returned (.agg #[.int .i64 N, .slice (some ⟨g, 0, none⟩) l.length c]) ∧ w.heap.size ≤ g ∧ Own w' g c l ∧ Below w.heap.size w w') := by
  obtain ⟨len, hlen⟩ : ∃ len, len = l.length := ⟨_, rfl⟩
  obtain ⟨xs, hxs⟩ : ∃ xs, xs = l.map (Value.int .i64) := ⟨_, rfl⟩
  obtain ⟨i0, hi, hz0, hz1, hz2⟩ := info_parts Try.info39
  obtain ⟨w0, hw0⟩ : ∃ w0, w0 = (w.alloc (.cells #[.int .i64 N, .slice (some a) len cap] 24)).alloc (.cells #[.int .i64 0, .slice none 0 0] 24) := ⟨_, rfl⟩
  have b0 : w0.cell? ⟨w.heap.size, 0, none⟩ = some (.int .i64 N) := by rw [hw0]; go_simp
  have b1 : w0.cell? ⟨w.heap.size, 1, none⟩ = some (.slice (some a) len cap) := by rw [hw0]; go_simp
  have r0 : w0.cell? ⟨w.heap.size + 1, 0, none⟩ = some (.int .i64 0) := by rw [hw0]; go_simp
  have r1 : w0.cell? ⟨w.heap.size + 1, 1, none⟩ = some (.slice none 0 0) := by rw [hw0]; go_simp
  have f0 : w0.frozen? ⟨w.heap.size + 1, 0, none⟩ = false := by rw [hw0]; go_simp
  have f1 : w0.frozen? ⟨w.heap.size + 1, 1, none⟩ = false := by rw [hw0]; go_simp
  have z0 : w0.heap.size = w.heap.size + 2 := by rw [hw0]; simp
  have e0 : Below w.heap.size w w0 := by rw [hw0]; exact past_two (Below.refl _ _)
  have RN := Lib.hid (show ∀ w' : World, Below w0.heap.size w0 w' → ∀ j u, xs[j]? = some u → w'.cell? (a.add j) = some u from fun w' h => by rw [hxs]; exact ((hR.on e0).on h).map)
  have KS := Lib.hid (show ∀ w' : World, Below w0.heap.size w0 w' → w'.cell? ⟨w.heap.size, 0, none⟩ = some (.int .i64 N) ∧ w'.cell? ⟨w.heap.size, 1, none⟩ = some (.slice (some a) len cap) from fun w' h => ⟨kept h b0, kept h b1⟩)
  have l1 : xs.length = len * 1 := by rw [hxs, hlen]; simp
  have o1 : ∀ u ∈ xs, u.oneCell' = true := by rw [hxs]; simp [Value.oneCell']
  have l2 : 0 < len := by omega
  have l3 : len ≤ 1000 := by omega
  have B1 : Below w0.heap.size w0 w0.drew := (Below.refl _ _).drew
  have B2 : ∀ o : Obj, Below w0.heap.size w0 (w0.drew.alloc o) := fun o => B1.alloc (Nat.le_refl _) o
  have HX := Lib.hid hxs
  have HL := Lib.hid hlen
  have HO1 := Lib.hid o1
  have HB2 := Lib.hid B2
  have HB1 := Lib.hid B1
  have E0 := Lib.hid e0
  rw [← hlen]
  clear hR hlen hxs o1 B1 B2 b0 b1 h0 h1 e0
  go_enter Try.func24, Try.ntmps24
  go_wp2_with fail
  rw [← hw0]
  clear hw0
  go_region_held3 (fun w' => w'.cell? ⟨w.heap.size, 0, none⟩ = some (.int .i64 N) ∧ w'.cell? ⟨w.heap.size, 1, none⟩ = some (.slice (some a) len cap)) (first | exact KS.out _ HB1.out | exact KS.out _ (HB2.out _) | exact KS.out _ (by assumption) | go_keep)
    (first | (refine step_append_grows rfl (.tmp 5) (.tmp 7) 22 rfl 39 i0 (.int .i64 0) 1 8 Try.underlying22 hi hz0 hz1 hz2 rfl (by decide) (some ⟨w.heap.size + 2, 0, none⟩) 0 0 [] (by simp [Act.eval]) (by simp) rfl (by simp) a len cap xs (by simp [Act.eval]) l1 (RN.out _ (HB2.out _)) HO1.out (by omega) (by unfold maxLen; omega) (by omega) ?_; intro v' w5 hown hgrow; obtain ⟨g, c, rfl⟩ := Joins.ownsRow_form hown (by omega); have B5 : Below w0.heap.size w0 w5 := grown_below (HB2.out _) hgrow; have q0 := kept B5 r0; have q1 := kept B5 r1; have q2 := (B5.frozen (p := ⟨w.heap.size + 1, 0, none⟩) (by show w.heap.size + 1 < w0.heap.size; omega)).trans f0; have q3 := (B5.frozen (p := ⟨w.heap.size + 1, 1, none⟩) (by show w.heap.size + 1 < w0.heap.size; omega)).trans f1))
  go_wp2_with fail
  have hown' : w5.ownsRow (w0.drew.alloc (.cells #[] 39)).heap.size 39 1 (.slice (some ⟨g, 0, none⟩) len c) len xs := by simpa using hown
  obtain ⟨ho, hg⟩ := own_of hown' HX.out HL.out
  have hg2 : w0.heap.size ≤ g := Nat.le_trans (by simp) hg
  refine bodyPost_ret (v := .agg #[.int .i64 N, .slice (some ⟨g, 0, none⟩) len c]) (by simp [results, Try.results24, go_sem, q0, q1]) rfl ⟨g, c, rfl, by omega, put_far ho (by omega) _ _, ?_⟩
  exact ((below_on E0.out B5).setCell (by show w.heap.size ≤ w.heap.size + 1; omega) _).setCell (by show w.heap.size ≤ w.heap.size + 1; omega) _
end Go.Proofs.Ytgdcclldgfcilaa

namespace Go.Proofs.Ytgdcclldgfcilaa
open Go.RowKit

/-- A block of two cells. -/
def Two (w : World) (b : Nat) (u v : Value) : Prop := Cell w ⟨b, 0, none⟩ u ∧ Cell w ⟨b, 1, none⟩ v

theorem Two.lt {w : World} {b : Nat} {u v : Value} (h : Two w b u v) : b < w.heap.size := h.1.lt

theorem Two.kept {w w' : World} {b : Nat} {u v : Value} (h : Two w b u v) (hb : Below w.heap.size w w') : Two w' b u v := ⟨h.1.kept hb, h.2.kept hb⟩

theorem Two.made (w : World) (u v : Value) (t : TypeId) : Two (w.alloc (.cells #[u, v] t)) w.heap.size u v := ⟨⟨by go_simp, by go_simp⟩, ⟨by go_simp, by go_simp⟩⟩

theorem Two.alloc {w : World} {b : Nat} {u v : Value} (h : Two w b u v) (o : Obj) : Two (w.alloc o) b u v := h.kept (one_more o)

theorem Two.put {w : World} {b : Nat} {u v : Value} (h : Two w b u v) (u' v' : Value) : Two ((w.setCell ⟨b, 0, none⟩ u').setCell ⟨b, 1, none⟩ v') b u' v' :=
  ⟨((h.1.same _).other (by simp) _), ((h.2.other (by simp) _).same _)⟩

theorem Two.aside {w : World} {b b' : Nat} {u v : Value} (h : Two w b u v) (hne : b' ≠ b) (u' v' : Value) : Two ((w.setCell ⟨b', 0, none⟩ u').setCell ⟨b', 1, none⟩ v') b u v :=
  ⟨((h.1.other (fun e => hne (congrArg Addr.block e)) _).other (fun e => hne (congrArg Addr.block e)) _), ((h.2.other (fun e => hne (congrArg Addr.block e)) _).other (fun e => hne (congrArg Addr.block e)) _)⟩

theorem Two.facts {w : World} {b : Nat} {u v : Value} (h : Two w b u v) : w.cell? ⟨b, 0, none⟩ = some u ∧ w.cell? ⟨b, 1, none⟩ = some v ∧ w.frozen? ⟨b, 0, none⟩ = false ∧ w.frozen? ⟨b, 1, none⟩ = false :=
  ⟨h.1.1, h.2.1, h.1.2, h.2.2⟩

theorem Two.grown {w w' : World} {b g : Nat} {u v : Value} (h : Two w b u v) (hg : w.grownBy w' (some g)) (hne : b ≠ g) : Two w' b u v :=
  ⟨⟨hg.cell h.1.1 (by simpa using hne), (World.frozen?_of_block (hg.block _ h.1.lt (by simpa using hne))).trans h.1.2⟩, ⟨hg.cell h.2.1 (by simpa using hne), (World.frozen?_of_block (hg.block _ h.2.lt (by simpa using hne))).trans h.2.2⟩⟩

/-- What a function that returns a zone leaves: with no error a new row, else the zero zone. -/
def ZRes (w : World) (N : Int) (l : List Int) (er : Int) (e : Ending) (w' : World) : Prop :=
  Below w.heap.size w w' ∧ ((er = 0 ∧ ∃ g c, e = .returned (.tuple #[.agg #[.int .i64 N, .slice (some ⟨g, 0, none⟩) l.length c], .int .i64 0]) ∧ w.heap.size ≤ g ∧ Own w' g c l) ∨
    (er ≠ 0 ∧ e = .returned (.tuple #[.agg #[.int .i64 0, .slice none 0 0], .int .i64 er])))

theorem closed_ok {n : Nat} {l : List Int} {g cap : Nat} (w : World) (hn : n ≤ 10) (hl : l.length = (n + 1) * (n + 1)) (hO : Own w g cap l) (h : cloE n l = 0) :
    Calls Try.prog 26 #[.agg #[.int .i64 n, .slice (some ⟨g, 0, none⟩) l.length cap]] w (fun e w' => e = .returned (.tuple #[.agg #[.int .i64 n, .slice (some ⟨g, 0, none⟩) l.length cap], .int .i64 0]) ∧ Own w' g cap (Zo.clo n l) ∧ w.grownBy w' (some g)) := by
  have := closed_any n l g cap w hn hl hO
  rwa [h] at this

theorem closed_no {n : Nat} {l : List Int} {g cap : Nat} (w : World) (hn : n ≤ 10) (hl : l.length = (n + 1) * (n + 1)) (hO : Own w g cap l) (h : cloE n l ≠ 0) :
    Calls Try.prog 26 #[.agg #[.int .i64 n, .slice (some ⟨g, 0, none⟩) l.length cap]] w (fun e w' => e = .returned (.tuple #[.agg #[.int .i64 0, .slice none 0 0], .int .i64 (cloE n l)]) ∧ Own w' g cap (Zo.clo n l) ∧ w.grownBy w' (some g)) := by
  have := closed_any n l g cap w hn hl hO
  rwa [show zres (cloE n l) n g l.length cap = .agg #[.int .i64 0, .slice none 0 0] by unfold zres; rw [if_neg h]] at this

theorem dsq_pos (n : Nat) : 0 < (n + 1) * (n + 1) := Nat.mul_pos (by omega) (by omega)

theorem dsq_le {n : Nat} (hn : n ≤ 10) : (n + 1) * (n + 1) ≤ 121 := by
  have : (n + 1) * (n + 1) ≤ 11 * 11 := Nat.mul_le_mul (by omega) (by omega)
  omega

/-- From a row that the function itself has made to what it leaves. -/
theorem grown_over {w w1 w2 : World} {g : Nat} (hb : Below w.heap.size w w1) (hg : w1.grownBy w2 (some g)) (hle : w.heap.size ≤ g) : Below w.heap.size w w2 :=
  hb.trans ⟨hg.os, hg.tape, hg.output, hg.size, fun k hk => hg.block k (Nat.lt_of_lt_of_le hk hb.size) (by simp; omega)⟩

/-- Steps that each keep the length. -/
theorem fold_len {f : List Int → Nat → List Int} (hf : ∀ x t, (f x t).length = x.length) (l : List Int) (t : Nat) : ((List.range t).foldl f l).length = l.length := by
  induction t with
  | zero => rfl
  | succ t ih => rw [Zo.fold_succ, hf, ih]

/-- Up: the elements that are set. -/
def upS (n : Nat) (x : List Int) (t : Nat) : List Int := x.set (Zo.ix n (t + 1) 0) 1099511627776

def upL (n : Nat) (l : List Int) : List Int := (List.range n).foldl (upS n) l

theorem upL_len (n : Nat) (l : List Int) : (upL n l).length = l.length := fold_len (fun x t => by simp [upS]) l n

/-- Down: the elements that are set. -/
def dnS (n : Nat) (x : List Int) (t : Nat) : List Int := x.set (Zo.ix n 0 (t + 1)) 1

def dnL (n : Nat) (l : List Int) : List Int := (List.range n).foldl (dnS n) l

theorem dnL_len (n : Nat) (l : List Int) : (dnL n l).length = l.length := fold_len (fun x t => by simp [dnS]) l n
end Go.Proofs.Ytgdcclldgfcilaa

namespace Go.Proofs.Ytgdcclldgfcilaa
open Go.RowKit

/-- A slice that came in: what it holds can be read. -/
def Arg (w : World) (ao : Option Addr) (l : List Int) : Prop := l ≠ [] → ∃ a, ao = some a ∧ Rd w a l

theorem Arg.on {w w' : World} {ao : Option Addr} {l : List Int} (h : Arg w ao l) (hb : Below w.heap.size w w') : Arg w' ao l := fun hl => by
  obtain ⟨a, h1, h2⟩ := h hl
  exact ⟨a, h1, h2.on hb⟩

theorem dim_nat {N : Int} (h : dimB N = true) : ∃ n : Nat, N = n ∧ n ≤ 10 := by
  unfold dimB at h; simp at h
  exact ⟨N.toNat, by omega, by omega⟩

/-- What a zone is that passes Check. -/
theorem chk_ok {N : Int} {l : List Int} (h : chkE N l = 0) : ∃ n : Nat, N = n ∧ n ≤ 10 ∧ l.length = (n + 1) * (n + 1) ∧ l ≠ [] := by
  unfold chkE at h
  split at h
  · rename_i c
    unfold chkB at c
    simp only [Bool.and_eq_true, decide_eq_true_eq] at c
    obtain ⟨n, rfl, hn⟩ := dim_nat c.1.1.1
    have hl := c.1.1.2
    simp at hl
    refine ⟨n, rfl, hn, hl, fun e => ?_⟩
    have := dsq_pos n
    rw [e] at hl; simp at hl
  · omega

theorem chk_two {N : Int} {l : List Int} (h : chkE N l ≠ 0) : chkE N l = 2 := by
  unfold chkE at h ⊢; split <;> simp_all

theorem check_gen (N : Int) (l : List Int) (ao : Option Addr) (cap : Nat) (w : World) (hA : Arg w ao l) :
    Calls Try.prog 22 #[.agg #[.int .i64 N, .slice ao l.length cap]] w (Made (.int .i64 (chkE N l)) w) := by
  cases hd : dimB N
  · exact check_bad1 N l ao cap w hd
  · obtain ⟨n, rfl, hn⟩ := dim_nat hd
    by_cases hl : l.length = (n + 1) * (n + 1)
    · obtain ⟨a, rfl, hR⟩ := hA (fun e => by have := dsq_pos n; rw [e] at hl; simp at hl)
      exact check_any n l a cap w hn hl hR
    · exact check_bad2 n l ao cap w hn hl

theorem check_as {N : Int} {l : List Int} {ao : Option Addr} {cap : Nat} {e : Int} (w : World) (hA : Arg w ao l) (h : chkE N l = e) :
    Calls Try.prog 22 #[.agg #[.int .i64 N, .slice ao l.length cap]] w (Made (.int .i64 e) w) := by rw [← h]; exact check_gen N l ao cap w hA

theorem zres_bad {w w' : World} {N : Int} {l : List Int} (hb : Below w.heap.size w w') : ZRes w N l 2 (.returned (.tuple #[.agg #[.int .i64 0, .slice none 0 0], .int .i64 2])) w' := ⟨hb, Or.inr ⟨by decide, rfl⟩⟩

theorem ZRes.bad {w w' : World} {N : Int} {l l' : List Int} {er : Int} {N' : Int} {e : Ending} (h : ZRes w N l 2 e w') (he : er = 2) : ZRes w N' l' er e w' := by
  subst he
  refine ⟨h.1, ?_⟩
  rcases h.2 with ⟨c, _⟩ | c
  · omega
  · exact Or.inr c

def upE (N : Int) (l : List Int) : Int := if chkE N l = 0 then cloE N.toNat (upL N.toNat l) else 2

def dnE (N : Int) (l : List Int) : Int := if chkE N l = 0 then cloE N.toNat (dnL N.toNat l) else 2
end Go.Proofs.Ytgdcclldgfcilaa

namespace Go.Proofs.Ytgdcclldgfcilaa

def top (a b : Int) : Nat := a.natAbs / Nat.gcd a.natAbs b.natAbs

def bot (a b : Int) : Nat := b.natAbs / Nat.gcd a.natAbs b.natAbs

def fits (a b : Int) : Bool := decide (top a b ≤ 2147483647 ∧ bot a b ≤ 2147483647)

def mkErr (a b : Int) : Int := if b = 0 then 2 else if fits a b then 0 else 7

def mkNum (a b : Int) : Int := if b = 0 then 0 else if fits a b then (if (decide (a < 0) != decide (b < 0)) then -(top a b : Int) else top a b) else 0

def mkDen (a b : Int) : Int := if b = 0 then 0 else if fits a b then bot a b else 0

theorem mkNum_bd (a b : Int) : -2147483647 ≤ mkNum a b ∧ mkNum a b ≤ 2147483647 := by
  unfold mkNum fits
  split
  · omega
  split
  · rename_i h; simp at h; split <;> omega
  · omega

theorem mkDen_bd (a b : Int) : 0 ≤ mkDen a b ∧ mkDen a b ≤ 2147483647 := by
  unfold mkDen fits
  split
  · omega
  split
  · rename_i h; simp at h; omega
  · omega

theorem mkErr_bd (a b : Int) : 0 ≤ mkErr a b ∧ mkErr a b ≤ 7 := by
  unfold mkErr
  split
  · omega
  split <;> omega

theorem top_le (a b : Int) : top a b ≤ a.natAbs := Nat.div_le_self _ _

theorem bot_le (a b : Int) : bot a b ≤ b.natAbs := Nat.div_le_self _ _

def opNum (v : Bool) (p q : Int) : Int := if v then mkNum p q else 0

def opDen (v : Bool) (p q : Int) : Int := if v then mkDen p q else 0

def opErr (v : Bool) (p q : Int) : Int := if v then mkErr p q else 2

theorem mul_bd {x y : Int} (x1 : -2147483647 ≤ x) (x2 : x ≤ 2147483647) (y1 : -2147483647 ≤ y) (y2 : y ≤ 2147483647) :
    -4611686014132420609 ≤ x * y ∧ x * y ≤ 4611686014132420609 := by
  have h : (x * y).natAbs ≤ 2147483647 * 2147483647 := by
    rw [Int.natAbs_mul]; exact Nat.mul_le_mul (by omega) (by omega)
  omega
end Go.Proofs.Ytgdcclldgfcilaa

namespace Go.Proofs.Ytgdcclldgfcilaa
open Go.RowKit

theorem neg_mag (n : Int) (h1 : -9223372036854775808 ≤ n) (h2 : n < 0) : IntKind.u64.wrap (-IntKind.u64.wrap n) = (n.natAbs : Int) := by
  simp [IntKind.wrap, IntKind.bits, IntKind.signed]
  omega

def vldB (n d : Int) : Bool := decide (1 ≤ d ∧ d ≤ 2147483647 ∧ -2147483647 ≤ n ∧ n ≤ 2147483647 ∧ Nat.gcd n.natAbs d.natAbs = 1)

theorem vld_no {n d : Int} (h : d < 1 ∨ 2147483647 < d ∨ n < -2147483647 ∨ 2147483647 < n) : vldB n d = false := by
  unfold vldB; simp; omega

theorem vld_yes {n d : Int} (h1 : 1 ≤ d) (h2 : d ≤ 2147483647) (h3 : -2147483647 ≤ n) (h4 : n ≤ 2147483647) : vldB n d = (((Nat.gcd n.natAbs d.natAbs : Nat) : Int) == 1) := by
  unfold vldB; rw [Bool.eq_iff_iff]; simp; omega

theorem wrap_top (a b : Int) (h : a.natAbs < 18446744073709551616) : IntKind.u64.wrap ((a.natAbs : Int) / ((Nat.gcd a.natAbs b.natAbs : Nat) : Int)) = ((top a b : Nat) : Int) := by
  have h1 := top_le a b
  have h2 : (a.natAbs : Int) / ((Nat.gcd a.natAbs b.natAbs : Nat) : Int) = ((top a b : Nat) : Int) := by unfold top; simp
  rw [h2]
  simp [IntKind.wrap, IntKind.bits, IntKind.signed]
  omega

theorem wrap_bot (a b : Int) (h : b.natAbs < 18446744073709551616) : IntKind.u64.wrap ((b.natAbs : Int) / ((Nat.gcd a.natAbs b.natAbs : Nat) : Int)) = ((bot a b : Nat) : Int) := by
  have h1 := bot_le a b
  have h2 : (b.natAbs : Int) / ((Nat.gcd a.natAbs b.natAbs : Nat) : Int) = ((bot a b : Nat) : Int) := by unfold bot; simp
  rw [h2]
  simp [IntKind.wrap, IntKind.bits, IntKind.signed]
  omega

theorem mk_no (a b : Int) (h0 : b ≠ 0) (h : 2147483647 < top a b ∨ 2147483647 < bot a b) : mkNum a b = 0 ∧ mkDen a b = 0 ∧ mkErr a b = 7 := by
  have hf : fits a b = false := by unfold fits; simp; omega
  simp [mkNum, mkDen, mkErr, h0, hf]

theorem mk_yes (a b : Int) (h0 : b ≠ 0) (h1 : ¬ 2147483647 < top a b) (h2 : ¬ 2147483647 < bot a b) : mkNum a b = (if (decide (a < 0) != decide (b < 0)) then -(top a b : Int) else top a b) ∧ mkDen a b = bot a b ∧ mkErr a b = 0 := by
  have hf : fits a b = true := by unfold fits; simp; omega
  simp [mkNum, mkDen, mkErr, h0, hf]

theorem vld_bd {n d : Int} (h : vldB n d = true) : 1 ≤ d ∧ d ≤ 2147483647 ∧ -2147483647 ≤ n ∧ n ≤ 2147483647 := by
  unfold vldB at h; simp at h; omega
end Go.Proofs.Ytgdcclldgfcilaa

namespace Go.Proofs.Ytgdcclldgfcilaa
open Go.RowKit

theorem size_neg (n : Int) (h1 : -9223372036854775808 ≤ n) (h2 : n < 0) : IntKind.u64.wrap (IntKind.u64.wrap (-(n + 1)) + 1) = (n.natAbs : Int) := by
  simp [IntKind.wrap, IntKind.bits, IntKind.signed]
  omega

set_option maxHeartbeats 400000 in
theorem size_any (n : Int) (w : World) (h1 : -9223372036854775808 ≤ n) (h2 : n ≤ 9223372036854775807) :
    Calls Try.prog 37 #[.int .i64 n] w fun e w' => e = .returned (.int .u64 (n.natAbs : Int)) ∧ w' = w := by
  by_cases hn : n < 0
  · have H := Lib.hid (show -(n + 1) + 1 = (n.natAbs : Int) by omega)
    go_enter Try.func37, Try.ntmps37
    go_wp2
    go_ret
    exact ⟨ret_int H.out, rfl⟩
  · have H := Lib.hid (show (n : Int) = (n.natAbs : Int) by omega)
    go_enter Try.func37, Try.ntmps37
    go_wp2
    go_ret
    exact ⟨ret_int H.out, rfl⟩

set_option maxHeartbeats 400000 in
theorem divisor_any (a b : Nat) (w : World) (ha : a < 18446744073709551616) (hb : b < 18446744073709551616) :
    Calls Try.prog 36 #[.int .u64 a, .int .u64 b] w (Drawn (.int .u64 (Nat.gcd a b)) w) := by
  go_enter Try.func36, Try.ntmps36
  go_wp2
  go_loopw [0, 1] (fun x y wr => ∃ p q n : Nat, p < 18446744073709551616 ∧ q < 18446744073709551616 ∧ x = .int .u64 p ∧ y = .int .u64 q ∧ Hid (Nat.gcd p q = Nat.gcd a b) ∧ Hid (wr = w.drewN n)) (fun _ y _ => (intOf y).toNat)
  case atStart => exact ⟨a, b, 0, ha, hb, rfl, rfl, Lib.hid rfl, Lib.hid rfl⟩
  case round =>
    obtain ⟨p, q, n, hp, hq, rfl, rfl, hg, hw⟩ := hrel
    by_cases hz : q = 0
    · subst hz
      go_wp2
      go_ret
      exact ⟨ret_int (by have := hg.out; simp at this; simpa using congrArg (fun k : Nat => (k : Int)) this), n, hw.out⟩
    · have Hz : ((q : Int) == 0) = false := by simpa using hz
      have Hz2 : ((q : Int) != 0) = true := by simpa using hz
      go_wp2
      go_quiet (fail)
      go_wp2
      go_roundw
      case rel => exact ⟨q, p % q, n + nq, hq, Nat.lt_of_lt_of_le (Nat.mod_lt _ (Nat.pos_of_ne_zero hz)) (by omega), rfl, rfl, Lib.hid (by rw [← hg.out, Nat.gcd_comm p q, Nat.gcd_rec q p, Nat.gcd_comm]), Lib.hid (by rw [hw.out, World.drewN_drewN])⟩
      case measure => have := Nat.mod_lt p (Nat.pos_of_ne_zero hz); simp [intOf]; omega

set_option maxHeartbeats 400000 in
theorem refValid_any (n d : Int) (w : World) (n1 : -9223372036854775808 ≤ n) (n2 : n ≤ 9223372036854775807) (d1 : -9223372036854775808 ≤ d) (d2 : d ≤ 9223372036854775807) :
    Calls Try.prog 19 #[.agg #[.int .i64 n, .int .i64 d]] w (Made (.bool (vldB n d)) w) := by
  by_cases h1 : d < 1
  · have H := Lib.hid (vld_no (n := n) (d := d) (Or.inl h1))
    have D : decide ((1 : Int) ≤ d) = false := by simp; omega
    go_enter Try.func19, Try.ntmps19
    go_wp2_with fail
    go_quiet (fail)
    go_wp2_with fail
    go_ret
    exact ⟨ret_bool (by rw [H.out]), below_drewN ((Below.refl _ _).alloc (Nat.le_refl _) _) _⟩
  by_cases h2 : 2147483647 < d
  · have H := Lib.hid (vld_no (n := n) (d := d) (Or.inr (Or.inl h2)))
    have D : decide (d ≤ (2147483647 : Int)) = false := by simp; omega
    go_enter Try.func19, Try.ntmps19
    go_wp2_with fail
    go_quiet (fail)
    go_wp2_with fail
    go_ret
    exact ⟨ret_bool (by rw [H.out]), below_drewN ((Below.refl _ _).alloc (Nat.le_refl _) _) _⟩
  by_cases h3 : n < -2147483647
  · have H := Lib.hid (vld_no (n := n) (d := d) (Or.inr (Or.inr (Or.inl h3))))
    have D : decide ((-2147483647 : Int) ≤ n) = false := by simp; omega
    go_enter Try.func19, Try.ntmps19
    go_wp2_with fail
    go_quiet (fail)
    go_wp2_with fail
    go_ret
    exact ⟨ret_bool (by rw [H.out]), below_drewN ((Below.refl _ _).alloc (Nat.le_refl _) _) _⟩
  by_cases h4 : 2147483647 < n
  · have H := Lib.hid (vld_no (n := n) (d := d) (Or.inr (Or.inr (Or.inr h4))))
    have D : decide (n ≤ (2147483647 : Int)) = false := by simp; omega
    go_enter Try.func19, Try.ntmps19
    go_wp2_with fail
    go_quiet (fail)
    go_wp2_with fail
    go_ret
    exact ⟨ret_bool (by rw [H.out]), below_drewN ((Below.refl _ _).alloc (Nat.le_refl _) _) _⟩
  have H := Lib.hid (vld_yes (n := n) (d := d) (by omega) (by omega) (by omega) (by omega))
  have k1 : n.natAbs < 18446744073709551616 := by omega
  have k2 : d.natAbs < 18446744073709551616 := by omega
  go_enter Try.func19, Try.ntmps19
  go_wp2_with fail
  go_quiet (first | (go_at_call 37; exact Calls.quiet_of_same (size_any _ _ (by omega) (by omega))) | (go_at_call 36; exact Calls.quiet_of (divisor_any _ _ _ (by omega) (by omega))))
  go_wp2_with fail
  go_ret
  exact ⟨ret_bool (by rw [H.out]), below_drewN ((Below.refl _ _).alloc (Nat.le_refl _) _) _⟩

set_option maxHeartbeats 400000 in
theorem refMake_zero (a b : Int) (w : World) (hb : b = 0) :
    Calls Try.prog 54 #[.int .i64 a, .int .i64 b] w (Made (.tuple #[.agg #[.int .i64 (mkNum a b), .int .i64 (mkDen a b)], .int .i64 (mkErr a b)]) w) := by
  subst hb
  have H := Lib.hid (show mkNum a 0 = 0 ∧ mkDen a 0 = 0 ∧ mkErr a 0 = 2 by simp [mkNum, mkDen, mkErr])
  go_enter Try.func54, Try.ntmps54
  go_wp2_with fail
  refine bodyPost_ret (v := .tuple #[.agg #[.int .i64 0, .int .i64 0], .int .i64 2]) (by simp [results, Try.results54, go_sem]) rfl ⟨?_, ?_⟩
  · rw [H.out.1, H.out.2.1, H.out.2.2]
  · exact (((Below.refl _ _).alloc (Nat.le_refl _) _))

set_option maxHeartbeats 800000 in
theorem refMake_some (a b : Int) (w : World) (a1 : -9223372036854775808 ≤ a) (a2 : a ≤ 9223372036854775807) (b1 : -9223372036854775808 ≤ b) (b2 : b ≤ 9223372036854775807) (h0 : b ≠ 0) :
    Calls Try.prog 54 #[.int .i64 a, .int .i64 b] w (Made (.tuple #[.agg #[.int .i64 (mkNum a b), .int .i64 (mkDen a b)], .int .i64 (mkErr a b)]) w) := by
  have B0 : ((b : Int) == 0) = false := by simpa using h0
  have k1 : a.natAbs < 18446744073709551616 := by omega
  have k2 : b.natAbs < 18446744073709551616 := by omega
  have gp : 0 < Nat.gcd a.natAbs b.natAbs := Nat.gcd_pos_of_pos_right _ (by omega)
  have gB : (((Nat.gcd a.natAbs b.natAbs : Nat) : Int) == 0) = false := by simp; omega
  have gl : Nat.gcd a.natAbs b.natAbs ≤ b.natAbs := Nat.gcd_le_right _ (by omega)
  go_enter Try.func54, Try.ntmps54
  go_wp2_with fail
  refine (size_any _ _ (by omega) (by omega)).mono ?_
  rintro e w' ⟨rfl, rfl⟩
  go_wp2_with fail
  refine (size_any _ _ (by omega) (by omega)).mono ?_
  rintro e w' ⟨rfl, rfl⟩
  go_wp2_with fail
  refine (divisor_any _ _ _ (by omega) (by omega)).mono ?_
  rintro e w1 ⟨rfl, n1, rfl⟩
  go_wp2_with fail
  go_quiet ((go_at_call 37; exact (size_any _ _ (by omega) (by omega)).mono (fun e w' h => ⟨h.1, _, h.2⟩)))
  rw [wrap_top a b k1, wrap_bot a b k2]
  by_cases f1 : 2147483647 < top a b
  · have HV := Lib.hid (mk_no a b h0 (Or.inl f1))
    go_wp2_with fail
    refine bodyPost_ret (v := .tuple #[.agg #[.int .i64 0, .int .i64 0], .int .i64 7]) (by simp [results, Try.results54, go_sem]) rfl ⟨?_, ?_⟩
    · rw [HV.out.1, HV.out.2.1, HV.out.2.2]
    · repeat (first | exact Below.refl _ _ | refine Below.alloc ?_ (by simp) _ | refine Below.setCell ?_ (by simp) _ | refine below_drewN ?_ _)
  by_cases f2 : 2147483647 < bot a b
  · have HV := Lib.hid (mk_no a b h0 (Or.inr f2))
    go_wp2_with fail
    refine bodyPost_ret (v := .tuple #[.agg #[.int .i64 0, .int .i64 0], .int .i64 7]) (by simp [results, Try.results54, go_sem]) rfl ⟨?_, ?_⟩
    · rw [HV.out.1, HV.out.2.1, HV.out.2.2]
    · repeat (first | exact Below.refl _ _ | refine Below.alloc ?_ (by simp) _ | refine Below.setCell ?_ (by simp) _ | refine below_drewN ?_ _)
  have hv := mk_yes a b h0 f1 f2
  by_cases s1 : a < 0
  · by_cases s2 : b < 0
    · have HV := Lib.hid (show mkNum a b = top a b ∧ mkDen a b = bot a b ∧ mkErr a b = 0 by simpa [s1, s2] using hv)
      clear hv
      go_wp2_with fail
      refine bodyPost_ret (v := .tuple #[.agg #[.int .i64 (top a b), .int .i64 (bot a b)], .int .i64 0]) (by simp [results, Try.results54, go_sem]) rfl ⟨?_, ?_⟩
      · rw [HV.out.1, HV.out.2.1, HV.out.2.2]
      · repeat (first | exact Below.refl _ _ | refine Below.alloc ?_ (by simp) _ | refine Below.setCell ?_ (by simp) _ | refine below_drewN ?_ _)
    · have HV := Lib.hid (show mkNum a b = -(top a b : Int) ∧ mkDen a b = bot a b ∧ mkErr a b = 0 by simpa [s1, s2] using hv)
      clear hv
      go_wp2_with fail
      refine bodyPost_ret (v := .tuple #[.agg #[.int .i64 (-(top a b : Int)), .int .i64 (bot a b)], .int .i64 0]) (by simp [results, Try.results54, go_sem]) rfl ⟨?_, ?_⟩
      · rw [HV.out.1, HV.out.2.1, HV.out.2.2]
      · repeat (first | exact Below.refl _ _ | refine Below.alloc ?_ (by simp) _ | refine Below.setCell ?_ (by simp) _ | refine below_drewN ?_ _)
  · by_cases s2 : b < 0
    · have HV := Lib.hid (show mkNum a b = -(top a b : Int) ∧ mkDen a b = bot a b ∧ mkErr a b = 0 by simpa [s1, s2] using hv)
      clear hv
      go_wp2_with fail
      refine bodyPost_ret (v := .tuple #[.agg #[.int .i64 (-(top a b : Int)), .int .i64 (bot a b)], .int .i64 0]) (by simp [results, Try.results54, go_sem]) rfl ⟨?_, ?_⟩
      · rw [HV.out.1, HV.out.2.1, HV.out.2.2]
      · repeat (first | exact Below.refl _ _ | refine Below.alloc ?_ (by simp) _ | refine Below.setCell ?_ (by simp) _ | refine below_drewN ?_ _)
    · have HV := Lib.hid (show mkNum a b = top a b ∧ mkDen a b = bot a b ∧ mkErr a b = 0 by simpa [s1, s2] using hv)
      clear hv
      go_wp2_with fail
      refine bodyPost_ret (v := .tuple #[.agg #[.int .i64 (top a b), .int .i64 (bot a b)], .int .i64 0]) (by simp [results, Try.results54, go_sem]) rfl ⟨?_, ?_⟩
      · rw [HV.out.1, HV.out.2.1, HV.out.2.2]
      · repeat (first | exact Below.refl _ _ | refine Below.alloc ?_ (by simp) _ | refine Below.setCell ?_ (by simp) _ | refine below_drewN ?_ _)

theorem refMake_any (a b : Int) (w : World) (a1 : -9223372036854775808 ≤ a) (a2 : a ≤ 9223372036854775807) (b1 : -9223372036854775808 ≤ b) (b2 : b ≤ 9223372036854775807) :
    Calls Try.prog 54 #[.int .i64 a, .int .i64 b] w (Made (.tuple #[.agg #[.int .i64 (mkNum a b), .int .i64 (mkDen a b)], .int .i64 (mkErr a b)]) w) := by
  by_cases h : b = 0
  · exact refMake_zero a b w h
  · exact refMake_some a b w a1 a2 b1 b2 h

theorem refValid_as {n d : Int} {b : Bool} (w : World) (hn : I64 n) (hd : I64 d) (h : vldB n d = b) : Calls Try.prog 19 #[.agg #[.int .i64 n, .int .i64 d]] w (Made (.bool b) w) := by
  rw [← h]; exact refValid_any n d w hn.1 hn.2 hd.1 hd.2
end Go.Proofs.Ytgdcclldgfcilaa

namespace Go.Proofs.Ytgdcclldgfcilaa
open Go.RowKit

set_option maxHeartbeats 400000 in
theorem refAdd_any (n d m c : Int) (w : World) (hn : I64 n) (hd : I64 d) (hm : I64 m) (hc : I64 c) :
    Calls Try.prog 34 #[.agg #[.int .i64 n, .int .i64 d], .agg #[.int .i64 m, .int .i64 c]] w
      (Made (.tuple #[.agg #[.int .i64 (opNum (vldB n d && vldB m c) (n * c + m * d) (d * c)), .int .i64 (opDen (vldB n d && vldB m c) (n * c + m * d) (d * c))], .int .i64 (opErr (vldB n d && vldB m c) (n * c + m * d) (d * c))]) w) := by
  by_cases v1 : vldB n d = true
  · by_cases v2 : vldB m c = true
    · have V1 := Lib.hid v1
      have V2 := Lib.hid v2
      obtain ⟨x1, x2, x3, x4⟩ := vld_bd v1
      obtain ⟨y1, y2, y3, y4⟩ := vld_bd v2
      have HV := Lib.hid (show opNum (vldB n d && vldB m c) (n * c + m * d) (d * c) = mkNum (n * c + m * d) (d * c) ∧ opDen (vldB n d && vldB m c) (n * c + m * d) (d * c) = mkDen (n * c + m * d) (d * c) ∧ opErr (vldB n d && vldB m c) (n * c + m * d) (d * c) = mkErr (n * c + m * d) (d * c) by simp [opNum, opDen, opErr, v1, v2])
      clear v1 v2
      obtain ⟨p1a, p1b⟩ := mul_bd x3 x4 (show -2147483647 ≤ c by omega) y2
      obtain ⟨p2a, p2b⟩ := mul_bd y3 y4 (show -2147483647 ≤ d by omega) x2
      obtain ⟨p3a, p3b⟩ := mul_bd (show -2147483647 ≤ d by omega) x2 (show -2147483647 ≤ c by omega) y2
      obtain ⟨p4a, p4b⟩ := mul_bd x3 x4 y3 y4
      obtain ⟨p5a, p5b⟩ := mul_bd (show -2147483647 ≤ d by omega) x2 y3 y4
      go_enter Try.func34, Try.ntmps34
      go_wp2_with fail
      refine (refValid_as _ hn hd V1.out).mono ?_
      rintro e w1 ⟨rfl, hb⟩
      obtain ⟨hx, hf⟩ := bcell hb
      go_wp2_with fail
      refine (refValid_as _ hm hc V2.out).mono ?_
      rintro e w2 ⟨rfl, hb2⟩
      replace hb2 := below_on hb hb2
      clear hb hx hf
      obtain ⟨hx, hf⟩ := bcell hb2
      go_wp2_with fail
      refine (refMake_any _ _ _ (by omega) (by omega) (by omega) (by omega)).mono ?_
      rintro e w3 ⟨rfl, hb3⟩
      replace hb3 := below_on hb2 hb3
      clear hb2 hx hf
      obtain ⟨hx, hf⟩ := bcell hb3
      go_wp2_with fail
      refine bodyPost_ret (v := .tuple #[.agg #[.int .i64 (mkNum (n * c + m * d) (d * c)), .int .i64 (mkDen (n * c + m * d) (d * c))], .int .i64 (mkErr (n * c + m * d) (d * c))]) (by simp [results, Try.results34, go_sem, hx]) rfl ⟨?_, ?_⟩
      · rw [HV.out.1, HV.out.2.1, HV.out.2.2]
      · exact ((past_three hb3).setCell (by simp; omega) _).setCell (by simp; omega) _
    · have V1 := Lib.hid v1
      have v2' : vldB m c = false := by simpa using v2
      have V2 := Lib.hid v2'
      have HV := Lib.hid (show opNum (vldB n d && vldB m c) (n * c + m * d) (d * c) = 0 ∧ opDen (vldB n d && vldB m c) (n * c + m * d) (d * c) = 0 ∧ opErr (vldB n d && vldB m c) (n * c + m * d) (d * c) = 2 by simp [opNum, opDen, opErr, v1, v2'])
      clear v1 v2 v2'
      go_enter Try.func34, Try.ntmps34
      go_wp2_with fail
      refine (refValid_as _ hn hd V1.out).mono ?_
      rintro e w1 ⟨rfl, hb⟩
      obtain ⟨hx, hf⟩ := bcell hb
      go_wp2_with fail
      refine (refValid_as _ hm hc V2.out).mono ?_
      rintro e w2 ⟨rfl, hb2⟩
      replace hb2 := below_on hb hb2
      clear hb hx hf
      obtain ⟨hx, hf⟩ := bcell hb2
      go_wp2_with fail
      refine bodyPost_ret (v := .tuple #[.agg #[.int .i64 0, .int .i64 0], .int .i64 2]) (by simp [results, Try.results34, go_sem, hx]) rfl ⟨?_, ?_⟩
      · rw [HV.out.1, HV.out.2.1, HV.out.2.2]
      · exact ((past_three hb2).setCell (by simp; omega) _).setCell (by simp; omega) _
  · have v1' : vldB n d = false := by simpa using v1
    have V1 := Lib.hid v1'
    have HV := Lib.hid (show opNum (vldB n d && vldB m c) (n * c + m * d) (d * c) = 0 ∧ opDen (vldB n d && vldB m c) (n * c + m * d) (d * c) = 0 ∧ opErr (vldB n d && vldB m c) (n * c + m * d) (d * c) = 2 by simp [opNum, opDen, opErr, v1'])
    clear v1 v1'
    go_enter Try.func34, Try.ntmps34
    go_wp2_with fail
    refine (refValid_as _ hn hd V1.out).mono ?_
    rintro e w1 ⟨rfl, hb⟩
    obtain ⟨hx, hf⟩ := bcell hb
    go_wp2_with fail
    refine bodyPost_ret (v := .tuple #[.agg #[.int .i64 0, .int .i64 0], .int .i64 2]) (by simp [results, Try.results34, go_sem, hx]) rfl ⟨?_, ?_⟩
    · rw [HV.out.1, HV.out.2.1, HV.out.2.2]
    · exact ((past_three hb).setCell (by simp; omega) _).setCell (by simp; omega) _
end Go.Proofs.Ytgdcclldgfcilaa

namespace Go.Proofs.Ytgdcclldgfcilaa
open Go.RowKit

/-- Go's quotient and rest, and the quotient rounded down. -/
theorem fdiv_of (n d : Int) (hd : 1 ≤ d) : n / d = if n.tmod d < 0 then n.tdiv d - 1 else n.tdiv d := by
  have hd0 : 0 < d := by omega
  by_cases h : 0 ≤ n
  · rw [Int.tmod_eq_emod_of_nonneg h, Int.tdiv_eq_ediv_of_nonneg h, if_neg (by have := Int.emod_nonneg n (show d ≠ 0 by omega); omega)]
  · have h1 := Int.tmod_add_tdiv_mul n d
    have h2 : -d < n.tmod d := by have := Int.lt_tmod_of_pos n hd0; omega
    have h3 : n.tmod d ≤ 0 := by
      have e : n.tmod d = -((-n).tmod d) := by rw [Int.neg_tmod]; omega
      rw [e, Int.tmod_eq_emod_of_nonneg (show 0 ≤ -n by omega)]
      have := Int.emod_nonneg (-n) (show d ≠ 0 by omega)
      omega
    generalize hr : n.tmod d = r at *
    generalize hq : n.tdiv d = q at *
    split
    · rename_i h4
      have e : n = (r + d) + (q - 1) * d := by rw [Int.sub_mul]; omega
      rw [e, Int.add_mul_ediv_right _ _ (by omega), Int.ediv_eq_zero_of_lt (by omega) (by omega)]; omega
    · have e : n = 0 + q * d := by omega
      rw [e, Int.add_mul_ediv_right _ _ (by omega)]; simp

theorem tdiv_bd (n d : Int) (h1 : -4611686018427387904 ≤ n) (h2 : n ≤ 4611686018427387904) : -4611686018427387904 ≤ n.tdiv d ∧ n.tdiv d ≤ 4611686018427387904 := by
  have := Int.natAbs_tdiv_le_natAbs n d
  omega

theorem fl_bd (n d : Int) (hd : 1 ≤ d) (h1 : -2147483648 ≤ n) (h2 : n ≤ 2147483648) : -2147483648 ≤ n / d ∧ n / d ≤ 2147483648 := by
  constructor
  · rw [Int.le_ediv_iff_mul_le (by omega)]
    have : (-2147483648 : Int) * d ≤ -2147483648 * 1 := by omega
    omega
  · apply Int.ediv_le_of_le_mul (by omega)
    have : (2147483648 : Int) * 1 ≤ 2147483648 * d := by omega
    omega

set_option maxHeartbeats 400000 in
theorem floor_any (n d : Int) (w : World) (h1 : -4611686018427387904 ≤ n) (h2 : n ≤ 4611686018427387904) (hd : 1 ≤ d) (hd2 : d ≤ 9223372036854775807) :
    Calls Try.prog 20 #[.int .i64 n, .int .i64 d] w fun e w' => e = .returned (.int .i64 (n / d)) ∧ w = w' := by
  have hz : (d == 0) = false := by simp; omega
  by_cases hn : 0 ≤ n
  · have hm := Int.emod_nonneg n (show d ≠ 0 by omega)
    go_enter Try.func20, Try.ntmps20
    go_wp2
    go_ret
    exact ⟨rfl, rfl⟩
  · have tb := tdiv_bd n d h1 (by omega)
    by_cases hr : n.tmod d < 0
    · have H := Lib.hid (show n.tdiv d - 1 = n / d by rw [fdiv_of n d hd, if_pos hr])
      go_enter Try.func20, Try.ntmps20
      go_wp2
      go_ret
      exact ⟨ret_int H.out, rfl⟩
    · have H := Lib.hid (show n.tdiv d = n / d by rw [fdiv_of n d hd, if_neg hr])
      go_enter Try.func20, Try.ntmps20
      go_wp2
      go_ret
      exact ⟨ret_int H.out, rfl⟩

set_option maxHeartbeats 400000 in
theorem refFloor_any (n d : Int) (w : World) (hn : I64 n) (hd : I64 d) :
    Calls Try.prog 8 #[.agg #[.int .i64 n, .int .i64 d]] w (Made (.tuple #[.int .i64 (if vldB n d then n / d else 0), .int .i64 (if vldB n d then 0 else 2)]) w) := by
  cases v1 : vldB n d
  · have V1 := Lib.hid v1
    clear v1
    go_enter Try.func8, Try.ntmps8
    go_wp2_with fail
    refine (refValid_as _ hn hd V1.out).mono ?_
    rintro e w1 ⟨rfl, hb⟩
    go_wp2_with fail
    go_ret2
    exact ⟨rfl, past_one hb⟩
  · have V1 := Lib.hid v1
    obtain ⟨x1, x2, x3, x4⟩ := vld_bd v1
    clear v1
    have fb := fl_bd n d x1 (by omega) (by omega)
    go_enter Try.func8, Try.ntmps8
    go_wp2_with fail
    refine (refValid_as _ hn hd V1.out).mono ?_
    rintro e w1 ⟨rfl, hb⟩
    obtain ⟨hx, hf⟩ := bcell hb
    go_wp2_with fail
    refine (floor_any _ _ _ (by omega) (by omega) (by omega) (by omega)).mono ?_
    rintro e w2 ⟨rfl, rfl⟩
    go_wp2_with fail
    go_ret2
    exact ⟨rfl, past_one hb⟩

def sgn (x y : Int) : Int := if x < y then -1 else if y < x then 1 else 0

set_option maxHeartbeats 400000 in
theorem refCmp_any (n d m c : Int) (w : World) (hn : I64 n) (hd : I64 d) (hm : I64 m) (hc : I64 c) :
    Calls Try.prog 21 #[.agg #[.int .i64 n, .int .i64 d], .agg #[.int .i64 m, .int .i64 c]] w
      (Made (.tuple #[.int .i64 (if (vldB n d && vldB m c) then sgn (n * c) (m * d) else 0), .int .i64 (if (vldB n d && vldB m c) then 0 else 2)]) w) := by
  cases v1 : vldB n d
  · have V1 := Lib.hid v1
    clear v1
    go_enter Try.func21, Try.ntmps21
    go_wp2_with fail
    refine (refValid_as _ hn hd V1.out).mono ?_
    rintro e w1 ⟨rfl, hb⟩
    obtain ⟨hx, hf⟩ := bcell hb
    go_wp2_with fail
    go_ret2
    exact ⟨rfl, past_two hb⟩
  · cases v2 : vldB m c
    · have V1 := Lib.hid v1
      have V2 := Lib.hid v2
      clear v1 v2
      go_enter Try.func21, Try.ntmps21
      go_wp2_with fail
      refine (refValid_as _ hn hd V1.out).mono ?_
      rintro e w1 ⟨rfl, hb⟩
      obtain ⟨hx, hf⟩ := bcell hb
      go_wp2_with fail
      refine (refValid_as _ hm hc V2.out).mono ?_
      rintro e w2 ⟨rfl, hb2⟩
      replace hb2 := below_on hb hb2
      clear hb hx hf
      obtain ⟨hx, hf⟩ := bcell hb2
      go_wp2_with fail
      go_ret2
      exact ⟨rfl, past_two hb2⟩
    · have V1 := Lib.hid v1
      have V2 := Lib.hid v2
      obtain ⟨x1, x2, x3, x4⟩ := vld_bd v1
      obtain ⟨y1, y2, y3, y4⟩ := vld_bd v2
      clear v1 v2
      obtain ⟨p1a, p1b⟩ := mul_bd x3 x4 (show -2147483647 ≤ c by omega) y2
      obtain ⟨p2a, p2b⟩ := mul_bd y3 y4 (show -2147483647 ≤ d by omega) x2
      by_cases h1 : n * c < m * d
      · have H := Lib.hid (show sgn (n * c) (m * d) = -1 by unfold sgn; rw [if_pos h1])
        have e1 := wrap_in (n * c) (by omega) (by omega)
        have e2 := wrap_in (m * d) (by omega) (by omega)
        go_enter Try.func21, Try.ntmps21
        go_wp2_with fail
        refine (refValid_as _ hn hd V1.out).mono ?_
        rintro e w1 ⟨rfl, hb⟩
        obtain ⟨hx, hf⟩ := bcell hb
        go_wp2_with fail
        refine (refValid_as _ hm hc V2.out).mono ?_
        rintro e w2 ⟨rfl, hb2⟩
        replace hb2 := below_on hb hb2
        clear hb hx hf
        obtain ⟨hx, hf⟩ := bcell hb2
        go_wp2_with fail
        go_quiet (fail)
        go_wp2_with fail
        go_ret2
        exact ⟨ret_two H.out.symm rfl, below_drewN (past_two hb2) _⟩
      by_cases h2 : m * d < n * c
      · have H := Lib.hid (show sgn (n * c) (m * d) = 1 by unfold sgn; rw [if_neg h1, if_pos h2])
        have e1 := wrap_in (n * c) (by omega) (by omega)
        have e2 := wrap_in (m * d) (by omega) (by omega)
        go_enter Try.func21, Try.ntmps21
        go_wp2_with fail
        refine (refValid_as _ hn hd V1.out).mono ?_
        rintro e w1 ⟨rfl, hb⟩
        obtain ⟨hx, hf⟩ := bcell hb
        go_wp2_with fail
        refine (refValid_as _ hm hc V2.out).mono ?_
        rintro e w2 ⟨rfl, hb2⟩
        replace hb2 := below_on hb hb2
        clear hb hx hf
        obtain ⟨hx, hf⟩ := bcell hb2
        go_wp2_with fail
        go_quiet (fail)
        go_wp2_with fail
        go_ret2
        exact ⟨ret_two H.out.symm rfl, below_drewN (past_two hb2) _⟩
      have H := Lib.hid (show sgn (n * c) (m * d) = 0 by unfold sgn; rw [if_neg h1, if_neg h2])
      have e1 := wrap_in (n * c) (by omega) (by omega)
      have e2 := wrap_in (m * d) (by omega) (by omega)
      go_enter Try.func21, Try.ntmps21
      go_wp2_with fail
      refine (refValid_as _ hn hd V1.out).mono ?_
      rintro e w1 ⟨rfl, hb⟩
      obtain ⟨hx, hf⟩ := bcell hb
      go_wp2_with fail
      refine (refValid_as _ hm hc V2.out).mono ?_
      rintro e w2 ⟨rfl, hb2⟩
      replace hb2 := below_on hb hb2
      clear hb hx hf
      obtain ⟨hx, hf⟩ := bcell hb2
      go_wp2_with fail
      go_quiet (fail)
      go_wp2_with fail
      go_ret2
      exact ⟨ret_two H.out.symm rfl, below_drewN (past_two hb2) _⟩

theorem vld_neg (m c : Int) : vldB (-m) c = vldB m c := by
  unfold vldB; rw [Bool.eq_iff_iff]; simp; omega

set_option maxHeartbeats 400000 in
theorem refSub_any (n d m c : Int) (w : World) (hn : I64 n) (hd : I64 d) (hm : I64 m) (hc : I64 c) :
    Calls Try.prog 15 #[.agg #[.int .i64 n, .int .i64 d], .agg #[.int .i64 m, .int .i64 c]] w
      (Made (.tuple #[.agg #[.int .i64 (opNum (vldB n d && vldB m c) (n * c - m * d) (d * c)), .int .i64 (opDen (vldB n d && vldB m c) (n * c - m * d) (d * c))], .int .i64 (opErr (vldB n d && vldB m c) (n * c - m * d) (d * c))]) w) := by
  by_cases h0 : m = -9223372036854775808
  · have hv : vldB m c = false := vld_no (by omega)
    have HV := Lib.hid (show ∀ x y : Int, opNum (vldB n d && vldB m c) x y = 0 ∧ opDen (vldB n d && vldB m c) x y = 0 ∧ opErr (vldB n d && vldB m c) x y = 2 by simp [opNum, opDen, opErr, hv])
    clear hv
    subst h0
    go_enter Try.func15, Try.ntmps15
    go_wp2_with fail
    rw [w64min]
    refine (refAdd_any _ _ _ _ _ hn hd (by unfold I64; omega) hc).mono ?_
    rintro e w1 ⟨rfl, hb⟩
    obtain ⟨hx, hf⟩ := bcell hb
    rw [(HV.out _ _).1, (HV.out _ _).2.1, (HV.out _ _).2.2, (HV.out _ _).1, (HV.out _ _).2.1, (HV.out _ _).2.2]
    go_wp2_with fail
    refine bodyPost_ret (v := .tuple #[.agg #[.int .i64 0, .int .i64 0], .int .i64 2]) (by simp [results, Try.results15, go_sem, hx]) rfl ⟨by rw [(HV.out _ _).1, (HV.out _ _).2.1, (HV.out _ _).2.2], ?_⟩
    exact ((past_three hb).setCell (by simp; omega) _).setCell (by simp; omega) _
  · have he : n * c - m * d = n * c + (-m) * d := by rw [Int.neg_mul]; omega
    have b1 := hm.1
    have b2 := hm.2
    have b3 : -9223372036854775808 < m := by omega
    rw [he, ← vld_neg m c]
    clear he
    go_enter Try.func15, Try.ntmps15
    go_wp2_with fail
    refine (refAdd_any _ _ _ _ _ hn hd (by unfold I64; omega) hc).mono ?_
    rintro e w1 ⟨rfl, hb⟩
    obtain ⟨hx, hf⟩ := bcell hb
    go_wp2_with fail
    refine bodyPost_ret (v := .tuple #[.agg #[.int .i64 (opNum (vldB n d && vldB (-m) c) (n * c + (-m) * d) (d * c)), .int .i64 (opDen (vldB n d && vldB (-m) c) (n * c + (-m) * d) (d * c))], .int .i64 (opErr (vldB n d && vldB (-m) c) (n * c + (-m) * d) (d * c))]) (by simp [results, Try.results15, go_sem, hx]) rfl ⟨rfl, ?_⟩
    exact ((past_three hb).setCell (by simp; omega) _).setCell (by simp; omega) _
end Go.Proofs.Ytgdcclldgfcilaa

namespace Go.Proofs.Ytgdcclldgfcilaa
open Go.RowKit

/-- Points: the values of the clocks from 1 on. -/
abbrev Pq := Int × Int

def gp (ps : List Pq) (k : Nat) : Pq := ps.getD k (0, 0)

def clk (ps : List Pq) (i : Nat) : Pq := if i = 0 then (0, 1) else gp ps (i - 1)

def Rd2 (w : World) (a : Addr) (ps : List Pq) : Prop := ∀ j, j < ps.length → w.cell? (a.add (j * 2)) = some (.int .i64 (gp ps j).1) ∧ w.cell? ⟨(a.add (j * 2)).block, (a.add (j * 2)).off + 1, none⟩ = some (.int .i64 (gp ps j).2)

theorem Rd2.on {w w' : World} {a : Addr} {l : List Pq} (h : Rd2 w a l) (hb : Below w.heap.size w w') : Rd2 w' a l := fun j hj => ⟨kept hb (h j hj).1, kept hb (h j hj).2⟩

def Arg2 (w : World) (po : Option Addr) (ps : List Pq) : Prop := ps ≠ [] → ∃ a, po = some a ∧ Rd2 w a ps

theorem Arg2.on {w w' : World} {ao : Option Addr} {l : List Pq} (h : Arg2 w ao l) (hb : Below w.heap.size w w') : Arg2 w' ao l := fun hl => by
  obtain ⟨a, h1, h2⟩ := h hl
  exact ⟨a, h1, h2.on hb⟩

set_option maxHeartbeats 400000 in
theorem clock_any (ps : List Pq) (po : Option Addr) (pc i : Nat) (w : World) (hA : Arg2 w po ps) (hi : i ≤ ps.length) (hl : ps.length ≤ 1000) :
    Calls Try.prog 16 #[.slice po ps.length pc, .int .i64 i] w (Made (.agg #[.int .i64 (clk ps i).1, .int .i64 (clk ps i).2]) w) := by
  by_cases h0 : i = 0
  · have H := Lib.hid (show clk ps i = (0, 1) by unfold clk; rw [if_pos h0])
    have I0 : ((i : Int) == 0) = true := by simp; omega
    clear h0
    generalize ps.length = len at *
    go_enter Try.func16, Try.ntmps16
    go_wp2_with fail
    refine bodyPost_ret (v := .agg #[.int .i64 0, .int .i64 1]) (by simp [results, Try.results16, go_sem]) rfl ⟨by rw [H.out], ?_⟩
    exact one_more _
  · have H := Lib.hid (show clk ps i = gp ps (i - 1) by unfold clk; rw [if_neg h0])
    obtain ⟨a, rfl, hR⟩ := hA (fun e => by rw [e] at hi; simp at hi; omega)
    obtain ⟨k, rfl⟩ : ∃ k, i = k + 1 := ⟨i - 1, by omega⟩
    have c0 := fun o => (hR.on (one_more (w1 := w) o)) k (by omega)
    rw [show k + 1 - 1 = k by omega] at H
    generalize gp ps k = q at *
    obtain ⟨x, y⟩ := q
    have d0 : ∀ o, (w.alloc o).cell? (a.add (k * 2)) = some (.int .i64 x) := fun o => (c0 o).1
    have d1 : ∀ o, (w.alloc o).cell? ⟨(a.add (k * 2)).block, (a.add (k * 2)).off + 1, none⟩ = some (.int .i64 y) := fun o => (c0 o).2
    have I0 : (((k + 1 : Nat) : Int) == 0) = false := by simp; omega
    have kl : (k : Int) < (ps.length : Int) := by omega
    clear c0 hR hA
    generalize ps.length = len at *
    go_enter Try.func16, Try.ntmps16
    go_wp2_with fail
    refine bodyPost_ret (v := .agg #[.int .i64 x, .int .i64 y]) (by simp [results, Try.results16, go_sem]) rfl ⟨by rw [H.out], ?_⟩
    exact one_more _

/-- A value of a clock: a ratio from 0 on. -/
def vldC (c : Pq) : Bool := vldB c.1 c.2 && decide (0 ≤ c.1)

def sbE (ps : List Pq) (i j : Nat) : Int := mkErr ((clk ps i).1 * (clk ps j).2 - (clk ps j).1 * (clk ps i).2) ((clk ps i).2 * (clk ps j).2)

def sbN (ps : List Pq) (i j : Nat) : Int := mkNum ((clk ps i).1 * (clk ps j).2 - (clk ps j).1 * (clk ps i).2) ((clk ps i).2 * (clk ps j).2)

def sbD (ps : List Pq) (i j : Nat) : Int := mkDen ((clk ps i).1 * (clk ps j).2 - (clk ps j).1 * (clk ps i).2) ((clk ps i).2 * (clk ps j).2)

def rdR (n : Nat) (ps : List Pq) : Bool := (List.range (n + 1)).all fun i => (List.range (n + 1)).all fun j => decide (sbE ps i j = 0)

def rdE (N : Int) (l : List Int) (ps : List Pq) : Int := if chkE N l = 0 ∧ (ps.length : Int) = N ∧ ps.all vldC = true then (if rdR N.toNat ps then 0 else 7) else 2

theorem rd_all {ps : List Pq} (h : ps.all vldC = true) (k : Nat) (hk : k < ps.length) : vldC (gp ps k) = true := by
  rw [List.all_eq_true] at h
  have := h ps[k] (List.getElem_mem hk)
  simpa [gp, hk] using this

theorem rd_of {ps : List Pq} (h : ∀ k, k < ps.length → vldC (gp ps k) = true) : ps.all vldC = true := by
  rw [List.all_eq_true]
  intro x hx
  obtain ⟨k, hk, rfl⟩ := List.getElem_of_mem hx
  have := h k hk
  simpa [gp, hk] using this

theorem rdR_at {n : Nat} {ps : List Pq} (h : rdR n ps = true) {i j : Nat} (hi : i < n + 1) (hj : j < n + 1) : sbE ps i j = 0 := by
  simp [rdR] at h; exact h i hi j hj

theorem rdR_of {n : Nat} {ps : List Pq} (h : ∀ i, i < n + 1 → ∀ j, j < n + 1 → sbE ps i j = 0) : rdR n ps = true := by
  simp [rdR]; exact h

theorem clk_ok {ps : List Pq} (h : ∀ k, k < ps.length → vldC (gp ps k) = true) {i : Nat} (hi : i ≤ ps.length) : vldB (clk ps i).1 (clk ps i).2 = true := by
  unfold clk
  split
  · decide +kernel
  · have := h (i - 1) (by omega)
    unfold vldC at this
    simp at this
    exact this.1

/-- The difference of two clocks. -/
theorem sub_clk {ps : List Pq} (w : World) (h : ∀ k, k < ps.length → vldC (gp ps k) = true) {i j : Nat} (hi : i ≤ ps.length) (hj : j ≤ ps.length) :
    Calls Try.prog 15 #[.agg #[.int .i64 (clk ps i).1, .int .i64 (clk ps i).2], .agg #[.int .i64 (clk ps j).1, .int .i64 (clk ps j).2]] w (Made (.tuple #[.agg #[.int .i64 (sbN ps i j), .int .i64 (sbD ps i j)], .int .i64 (sbE ps i j)]) w) := by
  have v1 := clk_ok h hi
  have v2 := clk_ok h hj
  obtain ⟨a1, a2, a3, a4⟩ := vld_bd v1
  obtain ⟨b1, b2, b3, b4⟩ := vld_bd v2
  have := refSub_any (clk ps i).1 (clk ps i).2 (clk ps j).1 (clk ps j).2 w (by unfold I64; omega) (by unfold I64; omega) (by unfold I64; omega) (by unfold I64; omega)
  rw [v1, v2] at this
  exact this

set_option maxHeartbeats 400000 in
theorem ready_bad1 (N : Int) (l : List Int) (ao : Option Addr) (cap : Nat) (ps : List Pq) (po : Option Addr) (pc : Nat) (w : World) (hA : Arg w ao l) (hc : chkE N l ≠ 0) :
    Calls Try.prog 14 #[.agg #[.int .i64 N, .slice ao l.length cap], .slice po ps.length pc] w (Made (.int .i64 (rdE N l ps)) w) := by
  have H := Lib.hid (show rdE N l ps = 2 by unfold rdE; rw [if_neg (fun h => hc h.1)])
  have CK := Lib.hid fun W (h : Below w.heap.size w W) => check_as (cap := cap) W (hA.on h) (chk_two hc)
  have e0 := Lib.hid (one_more (w1 := w))
  clear hA hc
  generalize l.length = len at *
  generalize ps.length = plen at *
  go_enter Try.func14, Try.ntmps14
  go_wp2_with fail
  refine (CK.out _ (e0.out _)).mono ?_
  rintro e w1 ⟨rfl, hb⟩
  go_wp2_with fail
  go_ret
  exact ⟨ret_int H.out.symm, past_one hb⟩

set_option maxHeartbeats 400000 in
theorem ready_bad2 (N : Int) (l : List Int) (ao : Option Addr) (cap : Nat) (ps : List Pq) (po : Option Addr) (pc : Nat) (w : World) (hA : Arg w ao l) (hc : chkE N l = 0) (hp : (ps.length : Int) ≠ N) :
    Calls Try.prog 14 #[.agg #[.int .i64 N, .slice ao l.length cap], .slice po ps.length pc] w (Made (.int .i64 (rdE N l ps)) w) := by
  have H := Lib.hid (show rdE N l ps = 2 by unfold rdE; rw [if_neg (fun h => hp h.2.1)])
  have CK := Lib.hid fun W (h : Below w.heap.size w W) => check_as (cap := cap) W (hA.on h) hc
  have e0 := Lib.hid (one_more (w1 := w))
  have D : ((ps.length : Int) != N) = true := by simpa using hp
  clear hA hc hp
  generalize l.length = len at *
  generalize ps.length = plen at *
  go_enter Try.func14, Try.ntmps14
  go_wp2_with fail
  refine (CK.out _ (e0.out _)).mono ?_
  rintro e w1 ⟨rfl, hb⟩
  obtain ⟨b0, b1, b2, b3⟩ := ((Two.made w (.int .i64 N) (.slice ao len cap) 24).kept hb).facts
  go_wp2_with fail
  go_ret
  exact ⟨ret_int H.out.symm, past_one hb⟩

set_option maxHeartbeats 1600000 in
theorem ready_any (n : Nat) (l : List Int) (a : Addr) (cap : Nat) (ps : List Pq) (po : Option Addr) (pc : Nat) (w : World) (hn : n ≤ 10) (hl : l.length = (n + 1) * (n + 1)) (hR : Rd w a l) (hc : chkE n l = 0) (hp : ps.length = n) (hP : Arg2 w po ps) (hI : ∀ k, k < ps.length → I64 (gp ps k).1 ∧ I64 (gp ps k).2) :
    Calls Try.prog 14 #[.agg #[.int .i64 n, .slice (some a) l.length cap], .slice po ps.length pc] w (Made (.int .i64 (rdE n l ps)) w) := by
  obtain ⟨len, hlen⟩ : ∃ len, len = l.length := ⟨_, rfl⟩
  obtain ⟨w0, hw0⟩ : ∃ w0, w0 = w.alloc (.cells #[.int .i64 n, .slice (some a) len cap] 24) := ⟨_, rfl⟩
  have bx : Two w0 w.heap.size (.int .i64 n) (.slice (some a) len cap) := by rw [hw0]; exact Two.made _ _ _ _
  have e0 : Below w.heap.size w w0 := by rw [hw0]; exact one_more _
  have CK : Hid (∀ W, Below w.heap.size w W → Calls Try.prog 22 #[.agg #[.int .i64 n, .slice (some a) len cap]] W (Made (.int .i64 0) W)) := Lib.hid fun W h => by have := check_any n l a cap W hn hl (hR.on h); rw [hc, ← hlen] at this; exact this
  have CL : Hid (∀ (i : Nat) (W : World), i ≤ n → Below w.heap.size w W → Calls Try.prog 16 #[.slice po n pc, .int .i64 i] W (Made (.agg #[.int .i64 (clk ps i).1, .int .i64 (clk ps i).2]) W)) := Lib.hid fun i W hi h => by have := clock_any ps po pc i W (hP.on h) (by omega) (by omega); rw [hp] at this; exact this
  have HP := Lib.hid hP
  have HI := Lib.hid hI
  have HPl := Lib.hid hp
  have HC := Lib.hid hc
  have E0 := Lib.hid e0
  have HW0 := Lib.hid hw0
  have D0 : ((n : Int) != (n : Int)) = false := by simp
  rw [hp, ← hlen]
  clear hR hc hp hP hI e0 hw0 hl hlen
  go_enter Try.func14, Try.ntmps14
  go_wp2_with fail
  rw [← HW0.out]
  obtain ⟨b0, b1, b2, b3⟩ := bx.facts
  go_wp2_with fail
  refine (CK.out _ E0.out).mono ?_
  rintro e w1 ⟨rfl, hb1⟩
  clear b0 b1 b2 b3
  replace bx := bx.kept hb1
  have E1 := Lib.hid (below_on E0.out hb1)
  clear hb1 E0
  obtain ⟨b0, b1, b2, b3⟩ := bx.facts
  go_wp2_with fail
  clear b0 b1 b2 b3
  go_loopw [5] (fun s wr => ∃ t : Nat, t ≤ n ∧ s = .int .i64 t ∧ Hid (∀ k, k < t → vldC (gp ps k) = true) ∧ Hid (Below w1.heap.size w1 wr)) (fun s _ => n - (intOf s).toNat)
  case atStart => exact ⟨0, by omega, rfl, Lib.hid (fun k hk => by omega), Lib.hid (Below.refl _ _)⟩
  case round =>
    obtain ⟨t, ht, rfl, HK, HB⟩ := hrel
    by_cases htn : t < n
    · obtain ⟨d, hd, hD⟩ := HP.out (fun e => by have := HPl.out; rw [e] at this; simp at this; omega)
      subst hd
      obtain ⟨i1, i2⟩ := HI.out t (by rw [HPl.out]; exact htn)
      obtain ⟨c1, c2⟩ := (hD.on (below_on E1.out HB.out)) t (by rw [HPl.out]; exact htn)
      obtain ⟨q, hq⟩ : ∃ q, q = gp ps t := ⟨_, rfl⟩
      rw [← hq] at c1 c2 i1 i2
      have HQ := Lib.hid hq
      clear hq hD
      obtain ⟨x, y⟩ := q
      simp only at c1 c2 i1 i2
      cases v : vldB x y
      · have HE := Lib.hid (show rdE n l ps = 2 by
          unfold rdE
          rw [if_neg]
          rintro ⟨_, _, h⟩
          have := rd_all h t (by rw [HPl.out]; exact htn)
          rw [← HQ.out] at this
          simp [vldC, v] at this)
        have V := Lib.hid v
        clear v
        go_wp2_with fail
        refine (refValid_as _ i1 i2 V.out).mono ?_
        rintro e w2 ⟨rfl, hb2⟩
        go_wp2_with fail
        go_ret
        exact ⟨ret_int HE.out.symm, below_on (below_on E1.out HB.out) hb2⟩
      · have V := Lib.hid v
        by_cases x0 : x < 0
        · have HE := Lib.hid (show rdE n l ps = 2 by
            unfold rdE
            rw [if_neg]
            rintro ⟨_, _, h⟩
            have := rd_all h t (by rw [HPl.out]; exact htn)
            rw [← HQ.out] at this
            simp [vldC, v] at this
            omega)
          have D : decide (x < (0 : Int)) = true := by simpa using x0
          clear v
          go_wp2_with fail
          refine (refValid_as _ i1 i2 V.out).mono ?_
          rintro e w2 ⟨rfl, hb2⟩
          replace c1 := kept hb2 c1
          replace c2 := kept hb2 c2
          go_wp2_with fail
          go_ret
          exact ⟨ret_int HE.out.symm, below_on (below_on E1.out HB.out) hb2⟩
        · have HK2 := Lib.hid (show vldC (gp ps t) = true by rw [← HQ.out]; simp [vldC, v]; omega)
          have D : decide (x < (0 : Int)) = false := by simp; omega
          clear v
          go_wp2_with fail
          refine (refValid_as _ i1 i2 V.out).mono ?_
          rintro e w2 ⟨rfl, hb2⟩
          replace c1 := kept hb2 c1
          replace c2 := kept hb2 c2
          have HB2 := Lib.hid (below_on HB.out hb2)
          clear hb2
          go_wp2_with fail
          go_roundw
          case rel =>
            refine ⟨t + 1, by omega, by go_num, Lib.hid (fun k hk => ?_), HB2⟩
            by_cases e : k = t
            · rw [e]; exact HK2.out
            · exact HK.out k (by omega)
          case measure => simp [intOf]; omega
    · have HV := Lib.hid (show ∀ k, k < ps.length → vldC (gp ps k) = true from fun k hk => HK.out k (by rw [HPl.out] at hk; omega))
      have HA := Lib.hid (rd_of HV.out)
      have SB := Lib.hid fun (i j : Nat) (W : World) (hi : i ≤ n) (hj : j ≤ n) => sub_clk (ps := ps) W HV.out (i := i) (j := j) (by rw [HPl.out]; exact hi) (by rw [HPl.out]; exact hj)
      clear HK
      go_wp2_with fail
      go_loopw [6] (fun s wx => ∃ t : Nat, t ≤ n + 1 ∧ s = .int .i64 t ∧ Hid (∀ i, i < t → ∀ j, j < n + 1 → sbE ps i j = 0) ∧ Hid (Below w1.heap.size w1 wx)) (fun s _ => n + 1 - (intOf s).toNat)
      case atStart => exact ⟨0, by omega, rfl, Lib.hid (fun k hk => by omega), HB⟩
      case round =>
        clear HB
        obtain ⟨i, hi, rfl, HS, HB⟩ := hrel
        obtain ⟨b0, b1, b2, b3⟩ := (bx.kept HB.out).facts
        by_cases hin : i ≤ n
        · go_wp2_with fail
          clear b0 b1 b2 b3
          go_loopw [7] (fun s wx => ∃ t : Nat, t ≤ n + 1 ∧ s = .int .i64 t ∧ Hid (∀ j, j < t → sbE ps i j = 0) ∧ Hid (Below w1.heap.size w1 wx)) (fun s _ => n + 1 - (intOf s).toNat)
          case atStart => exact ⟨0, by omega, rfl, Lib.hid (fun k hk => by omega), HB⟩
          case round =>
            obtain ⟨j, hj, rfl, HJ, HBj⟩ := hrel
            obtain ⟨b0, b1, b2, b3⟩ := (bx.kept HBj.out).facts
            by_cases hjn : j ≤ n
            · by_cases hs : sbE ps i j = 0
              · have SB2 := Lib.hid fun (W : World) => by have := SB.out i j W hin hjn; rw [hs] at this; exact this
                have HS2 := Lib.hid hs
                clear hs
                go_wp2_with fail
                refine (CL.out i _ hin (below_on E1.out HBj.out)).mono ?_
                rintro e w3 ⟨rfl, hb3⟩
                have q3 := below_on HBj.out hb3
                clear hb3 b0 b1 b2 b3
                go_wp2_with fail
                refine (CL.out j _ hjn (below_on E1.out q3)).mono ?_
                rintro e w4 ⟨rfl, hb4⟩
                have q4 := below_on q3 hb4
                clear hb4 q3
                go_wp2_with fail
                refine (SB2.out _).mono ?_
                rintro e w5 ⟨rfl, hb5⟩
                have Q5 := Lib.hid (below_on q4 hb5)
                clear hb5 q4
                go_wp2_with fail
                go_roundw
                case rel =>
                  refine ⟨j + 1, by omega, by go_num, Lib.hid (fun k hk => ?_), Lib.hid (Q5.out.alloc Q5.out.size _)⟩
                  by_cases e : k = j
                  · rw [e]; exact HS2.out
                  · exact HJ.out k (by omega)
                case measure => simp [intOf]; omega
              · have HE := Lib.hid (show rdE n l ps = 7 by
                  unfold rdE
                  rw [if_pos ⟨HC.out, by rw [HPl.out], HA.out⟩]
                  have : rdR n ps = false := by
                    cases e : rdR n ps
                    · rfl
                    · have := rdR_at e (i := i) (j := j) (by omega) (by omega)
                      exact absurd this hs
                  simp [this])
                have D : (sbE ps i j != 0) = true := by simpa using hs
                have SB2 := Lib.hid fun (W : World) => SB.out i j W hin hjn
                generalize sbE ps i j = er at *
                clear hs
                go_wp2_with fail
                refine (CL.out i _ hin (below_on E1.out HBj.out)).mono ?_
                rintro e w3 ⟨rfl, hb3⟩
                have q3 := below_on HBj.out hb3
                clear hb3 b0 b1 b2 b3
                go_wp2_with fail
                refine (CL.out j _ hjn (below_on E1.out q3)).mono ?_
                rintro e w4 ⟨rfl, hb4⟩
                have q4 := below_on q3 hb4
                clear hb4 q3
                go_wp2_with fail
                refine (SB2.out _).mono ?_
                rintro e w5 ⟨rfl, hb5⟩
                have Q5 := Lib.hid (below_on q4 hb5)
                clear hb5 q4
                go_wp2_with fail
                go_ret
                exact ⟨ret_int HE.out.symm, (below_on E1.out Q5.out).alloc (below_on E1.out Q5.out).size _⟩
            · have HS3 := Lib.hid (show ∀ x, x < i + 1 → ∀ j, j < n + 1 → sbE ps x j = 0 from fun x hx y hy => by
                by_cases e : x = i
                · rw [e]; exact HJ.out y (by omega)
                · exact HS.out x (by omega) y hy)
              go_wp2_with fail
              go_roundw
              case rel => exact ⟨i + 1, by omega, by go_num, HS3, HBj⟩
              case measure => simp [intOf]; omega
        · have HE := Lib.hid (show rdE n l ps = 0 by
            unfold rdE
            rw [if_pos ⟨HC.out, by rw [HPl.out], HA.out⟩]
            have : rdR n ps = true := rdR_of (fun i hi j hj => HS.out i (by omega) j hj)
            simp [this])
          go_wp2_with fail
          go_ret
          exact ⟨ret_int HE.out.symm, below_on E1.out HB.out⟩
end Go.Proofs.Ytgdcclldgfcilaa

namespace Go.Proofs.Ytgdcclldgfcilaa
open Go.RowKit

/-- What common says of a point, if it is not 0. -/
def CoOk (ps : List Pq) (t : Nat) (D : Int) : Prop := 1 ≤ D ∧ D ≤ 500 ∧ ∀ k, k < t → (1 ≤ (gp ps k).2 ∧ (gp ps k).2 ≤ 500 ∧ 0 ≤ (gp ps k).1 ∧ (gp ps k).1 ≤ 1048576 ∧ (gp ps k).2 ∣ D)

theorem CoOk.step {ps : List Pq} {t : Nat} {B d G : Nat} (h : CoOk ps t B) (hd : (gp ps t).2 = d) (d1 : 1 ≤ d) (d5 : d ≤ 500) (n0 : 0 ≤ (gp ps t).1) (n1 : (gp ps t).1 ≤ 1048576) (hG : G = Nat.gcd B d) (hb : B / G * d ≤ 500) : CoOk ps (t + 1) ((B / G * d : Nat) : Int) := by
  obtain ⟨b1, b2, hk⟩ := h
  obtain ⟨u, hu⟩ := Nat.gcd_dvd_left B d
  obtain ⟨v, hv⟩ := Nat.gcd_dvd_right B d
  rw [← hG] at hu hv
  have gp' : 0 < G := by rw [hG]; exact Nat.gcd_pos_of_pos_right _ d1
  have eB : B / G = u := by rw [hu]; exact Nat.mul_div_cancel_left _ gp'
  have e1 : B / G * d = B * v := by rw [eB, hv, hu, ← Nat.mul_assoc, Nat.mul_comm u G]
  have up : 1 ≤ u := by
    rcases Nat.eq_zero_or_pos u with z | z
    · rw [z, Nat.mul_zero] at hu; omega
    · exact z
  refine ⟨?_, by omega, fun k hkt => ?_⟩
  · have : 1 ≤ B / G * d := by rw [eB]; exact Nat.mul_pos up d1
    omega
  · by_cases c : k = t
    · subst c
      refine ⟨by omega, by omega, n0, n1, ?_⟩
      rw [hd]
      exact Int.natCast_dvd_natCast.2 ⟨B / G, by rw [Nat.mul_comm]⟩
    · obtain ⟨a, b, c', d', e⟩ := hk k (by omega)
      refine ⟨a, b, c', d', Int.dvd_trans e (Int.natCast_dvd_natCast.2 ⟨v, e1⟩)⟩
end Go.Proofs.Ytgdcclldgfcilaa

namespace Go.Proofs.Ytgdcclldgfcilaa
open Go.RowKit

def kcB (c : Int) : Bool := decide (-1 ≤ c ∧ c ≤ 1048576)

def csB (k : List Int) : Bool := k.all kcB

def ksB (N : Int) (k : List Int) : Bool := csB k && decide ((k.length : Int) = N)

theorem csB_no {k : List Int} {j : Nat} (hj : j < k.length) (h : kcB (Zo.gt k j) = false) : csB k = false := by
  unfold csB
  rw [List.all_eq_false]
  exact ⟨k[j], List.getElem_mem hj, by rw [show k[j] = Zo.gt k j by simp [Zo.gt, hj], h]; simp⟩

theorem csB_yes {k : List Int} (h : ∀ j, j < k.length → kcB (Zo.gt k j) = true) : csB k = true := by
  unfold csB
  rw [List.all_eq_true]
  intro x hx
  obtain ⟨j, hj, rfl⟩ := List.getElem_of_mem hx
  have := h j hj
  simpa [Zo.gt, hj] using this

theorem csB_at {k : List Int} (h : csB k = true) {j : Nat} (hj : j < k.length) : -1 ≤ Zo.gt k j ∧ Zo.gt k j ≤ 1048576 := by
  unfold csB at h
  rw [List.all_eq_true] at h
  have := h _ (List.getElem_mem hj)
  rw [show k[j] = Zo.gt k j by simp [Zo.gt, hj]] at this
  simpa [kcB] using this

theorem ksB_ok {N : Int} {k : List Int} (h : ksB N k = true) : csB k = true ∧ (k.length : Int) = N := by
  unfold ksB at h; simpa using h

theorem ksB_at {n : Nat} {k : List Int} (h : ksB (n : Int) k = true) {j : Nat} (hj : j < n) : -1 ≤ Zo.gt k j ∧ Zo.gt k j ≤ 1048576 := by
  obtain ⟨h1, h2⟩ := ksB_ok h
  exact csB_at h1 (by omega)

set_option maxHeartbeats 400000 in
theorem isnone_any (c : Int) (w : World) : Calls Try.prog 41 #[.int .i64 c] w (Still (.bool (!kcB c)) w) := by
  by_cases h1 : c < -1
  · have D1 : decide (c < (-1 : Int)) = true := by simpa using h1
    have E := Lib.hid (show (!kcB c) = true by simp [kcB]; omega)
    clear h1
    go_enter Try.func41, Try.ntmps41
    go_wp2_with fail
    go_ret
    exact ⟨ret_bool E.out.symm, rfl⟩
  · have D1 : decide (c < (-1 : Int)) = false := by simp; omega
    have E := Lib.hid (show (!kcB c) = decide (1048576 < c) by rw [Bool.eq_iff_iff]; simp [kcB]; omega)
    clear h1
    go_enter Try.func41, Try.ntmps41
    go_wp2_with fail
    go_ret
    exact ⟨ret_bool E.out.symm, rfl⟩

theorem enter_isnone (args : Array Value) (W : World) : (callFunc 41 args).run Try.prog W = .ok (.enter 41 args) W := by go_simp

set_option maxRecDepth 20000 in
set_option maxHeartbeats 1000000 in
theorem index_any (l : List Int) (ao : Option Addr) (cap : Nat) (w : World) (hA : Arg w ao l) (hl : l.length ≤ 9223372036854775807) :
    Calls Try.prog 56 #[.slice ao l.length cap, .func (.func 41) #[] #[]] w (fun e w' => w' = w ∧ ∃ r : Int, e = .returned (.int .i64 r) ∧ decide (0 ≤ r) = !csB l) := by
  have HF := enter_isnone
  obtain ⟨len, hlen⟩ : ∃ len, len = l.length := ⟨_, rfl⟩
  have HL := Lib.hid hlen
  have HA := Lib.hid hA
  have lb : (len : Int) ≤ 9223372036854775807 := by omega
  rw [← hlen]
  clear hA hlen hl
  go_enter Try.func56, Try.ntmps56
  go_wp2_with fail
  go_loopw [8] (fun s wr => ∃ t : Nat, t ≤ len ∧ s = .int .i64 t ∧ Hid (∀ k, k < t → kcB (Zo.gt l k) = true) ∧ wr = w) (fun s _ => len - (intOf s).toNat)
  case atStart => exact ⟨0, by omega, rfl, Lib.hid (fun k hk => by omega), rfl⟩
  case round =>
    obtain ⟨t, ht, rfl, HK, hw⟩ := hrel
    rw [hw]
    clear hw
    by_cases htn : t < len
    · obtain ⟨a, hao, hR⟩ := HA.out (fun e => by have := HL.out; rw [e] at this; simp at this; omega)
      subst hao
      have d1 := hR t (by rw [← HL.out]; exact htn)
      obtain ⟨x, hx⟩ : ∃ x, x = Zo.gt l t := ⟨_, rfl⟩
      rw [← hx] at d1
      have HX := Lib.hid hx
      clear hx hR
      cases hc : kcB x
      · have HI := Lib.hid (show ∀ W, Calls Try.prog 41 (#[.int .i64 x] ++ #[]) W (Still (.bool true) W) from fun W => by have := isnone_any x W; rw [hc] at this; exact this)
        have HC := Lib.hid hc
        clear hc
        go_wp2_with fail
        refine (HI.out _).mono ?_
        rintro e w1 ⟨rfl, hw⟩
        rw [hw]
        clear hw w1
        go_wp2_with fail
        go_ret
        exact ⟨rfl, _, rfl, by rw [csB_no (k := l) (j := t) (by rw [← HL.out]; exact htn) (by rw [← HX.out]; exact HC.out)]; simp⟩
      · have HI := Lib.hid (show ∀ W, Calls Try.prog 41 (#[.int .i64 x] ++ #[]) W (Still (.bool false) W) from fun W => by have := isnone_any x W; rw [hc] at this; exact this)
        have HC := Lib.hid hc
        clear hc
        go_wp2_with fail
        refine (HI.out _).mono ?_
        rintro e w1 ⟨rfl, hw⟩
        rw [hw]
        clear hw w1
        go_wp2_with fail
        go_roundw
        case rel =>
          refine ⟨t + 1, by omega, by go_num, Lib.hid (fun k hk => ?_), trivial⟩
          by_cases e : k = t
          · rw [e, ← HX.out]; exact HC.out
          · exact HK.out k (by omega)
        case measure => simp [intOf]; omega
    · go_wp2_with fail
      go_ret
      exact ⟨rfl, _, rfl, by rw [csB_yes (k := l) (fun k hk => HK.out k (by rw [← HL.out] at hk; omega))]; simp⟩

set_option maxHeartbeats 400000 in
theorem contains_any (l : List Int) (ao : Option Addr) (cap : Nat) (w : World) (hA : Arg w ao l) (hl : l.length ≤ 9223372036854775807) :
    Calls Try.prog 42 #[.slice ao l.length cap, .func (.func 41) #[] #[]] w (Still (.bool (!csB l)) w) := by
  have IX := Lib.hid (index_any l ao cap w hA hl)
  generalize l.length = len at *
  clear hA hl
  go_enter Try.func42, Try.ntmps42
  go_wp2_with fail
  refine IX.out.mono ?_
  rintro e w1 ⟨hw, r, rfl, hr⟩
  rw [hw]
  clear hw w1
  have HR := Lib.hid hr
  clear hr
  go_wp2_with fail
  go_ret
  exact ⟨ret_bool HR.out, rfl⟩

set_option maxHeartbeats 1000000 in
theorem areconst_any (N : Int) (m l : List Int) (mo ao : Option Addr) (mc cap : Nat) (w : World) (hA : Arg w ao l) (hl : l.length ≤ 9223372036854775807) :
    Calls Try.prog 29 #[.agg #[.int .i64 N, .slice mo m.length mc], .slice ao l.length cap] w (Made (.bool (ksB N l)) w) := by
  obtain ⟨w0, hw0⟩ : ∃ w0, w0 = w.alloc (.cells #[.int .i64 N, .slice mo m.length mc] 24) := ⟨_, rfl⟩
  have bx : Two w0 w.heap.size (.int .i64 N) (.slice mo m.length mc) := by rw [hw0]; exact Two.made _ _ _ _
  have e0 : Below w.heap.size w w0 := by rw [hw0]; exact one_more _
  have CO := Lib.hid (contains_any l ao cap w0 (hA.on e0) hl)
  obtain ⟨len, hlen⟩ : ∃ len, len = l.length := ⟨_, rfl⟩
  rw [← hlen] at CO ⊢
  have E0 := Lib.hid e0
  obtain ⟨b0, b1, b2, b3⟩ := bx.facts
  clear hA hl bx e0
  cases hN : ((len : Int) == N)
  · have E := Lib.hid (show ksB N l = false by unfold ksB; rw [← hlen]; simp at hN ⊢; intro _; exact hN)
    clear hlen
    go_enter Try.func29, Try.ntmps29
    go_wp2_with fail
    rw [← hw0]
    clear hw0
    go_wp2_with fail
    try (go_ret)
    exact ⟨ret_bool E.out.symm, E0.out⟩
  · have E := Lib.hid (show ksB N l = !!csB l by unfold ksB; rw [← hlen]; simp at hN ⊢; rw [hN]; simp)
    clear hlen
    go_enter Try.func29, Try.ntmps29
    go_wp2_with fail
    rw [← hw0]
    clear hw0
    go_wp2_with fail
    refine CO.out.mono ?_
    rintro e w1 ⟨rfl, hw⟩
    rw [hw]
    clear hw w1
    go_wp2_with fail
    go_ret
    exact ⟨ret_bool (by rw [E.out]; simp), E0.out⟩
end Go.Proofs.Ytgdcclldgfcilaa

namespace Go.Proofs.Ytgdcclldgfcilaa
open Go.RowKit

def wdn (x : Int) (i j : Nat) (low high : List Int) : Int :=
  if spE x ≠ 0 then 1099511627776
  else if 1 ≤ i ∧ (Zo.gt low (i - 1) = -1 ∨ Zo.gt low (i - 1) < spC x) then 1099511627776
  else if 1 ≤ j ∧ Zo.gt high (j - 1) = -1 then (if i = 0 then 1 else 1099511627776)
  else if 1 ≤ j ∧ spC x < -Zo.gt high (j - 1) then -2 * Zo.gt high (j - 1)
  else x

/-- A list of constants whose elements 0 to n - 1 are in range. -/
def Kn (n : Nat) (k : List Int) : Prop := k.length = n ∧ ∀ j, j < n → -1 ≤ Zo.gt k j ∧ Zo.gt k j ≤ 1048576

theorem ksB_kn {n : Nat} {k : List Int} (h : ksB (n : Int) k = true) : Kn n k := ⟨by have := (ksB_ok h).2; omega, fun _ hj => ksB_at h hj⟩

theorem Arg.get {w : World} {ao : Option Addr} {l : List Int} (h : Arg w ao l) {j : Nat} (hj : j < l.length) : ∃ a, ao = some a ∧ w.cell? (a.add j) = some (.int .i64 (Zo.gt l j)) := by
  obtain ⟨a, e, hR⟩ := h (fun e => by rw [e] at hj; simp at hj)
  exact ⟨a, e, hR j hj⟩
end Go.Proofs.Ytgdcclldgfcilaa

namespace Go.Proofs.Ytgdcclldgfcilaa.Zo

/-- One step of a row with the element (i, k) as it was ahead of the row. -/
def prw (n k i : Nat) (c : Int) (l : List Int) (j : Nat) : List Int := l.set (ix n i j) (min (At n l i j) (smW c (At n l k j)))

def st1' (n : Nat) (l : List Int) (j : Nat) : List Int :=
  let l1 := l.set (ix n j j) (min (At n l j j) 1)
  l1.set (ix n 0 j) (min (At n l1 0 j) 1)

theorem st1_eq {n : Nat} {l : List Int} (hl : l.length = (n + 1) * (n + 1)) {j : Nat} (hj : j ≤ n) : st1' n l j = st1 n l j := by
  by_cases e : j = 0
  · subst e; rfl
  · have hne : ix n j j ≠ ix n 0 j := fun h => e (ix_inj hj hj h).1
    have a1 : At n (l.set (ix n j j) (min (At n l j j) 1)) 0 j = At n l 0 j := by
      rw [At_set hl hj hj _ hj, if_neg (fun h => e h.1.symm)]
    have a2 : At n (l.set (ix n 0 j) (min (At n l 0 j) 1)) j j = At n l j j := by
      rw [At_set hl (by omega) hj _ hj, if_neg (fun h => e h.1)]
    unfold st1' st1
    simp only [a1, a2]
    exact List.set_comm _ _ hne

/-- All elements are integers of 64 bits. -/
def A64 (l : List Int) : Prop := ∀ j, -9223372036854775808 ≤ gt l j ∧ gt l j ≤ 9223372036854775807

theorem smW_one {c : Int} (h1 : -9223372036854775808 ≤ c) (h2 : c ≤ 9223372036854775807) : smW c 1 = c := by
  unfold smW
  by_cases e : c = 1099511627776
  · rw [if_pos (Or.inl e), e]
  · rw [if_neg (by omega), if_neg (by omega)]
    unfold w64; omega

theorem smW_in (a b : Int) : -9223372036854775808 ≤ smW a b ∧ smW a b ≤ 9223372036854775807 := by
  unfold smW w64
  split
  · omega
  · split <;> omega

theorem gt_range (l : List Int) (k : Nat) (x : Int) (h1 : A64 l) (hx : -9223372036854775808 ≤ x ∧ x ≤ 9223372036854775807) : A64 (l.set k x) := by
  intro j
  by_cases hk : k < l.length
  · rw [gt_set x hk]; split
    · exact hx
    · exact h1 j
  · rw [List.set_eq_of_length_le (by omega)]; exact h1 j

theorem A64.min_ {l : List Int} (h : A64 l) (n i j : Nat) (y : Int) (hy : -9223372036854775808 ≤ y ∧ y ≤ 9223372036854775807) (k : Nat) : A64 (l.set k (min (At n l i j) y)) := by
  refine gt_range _ _ _ h ?_
  have := h (ix n i j)
  unfold At
  omega

theorem A64.prw {l : List Int} (h : A64 l) (n k i : Nat) (c : Int) (j : Nat) : A64 (prw n k i c l j) := h.min_ _ _ _ _ (smW_in _ _) _

theorem A64.st1 {l : List Int} (h : A64 l) (n j : Nat) : A64 (st1 n l j) := (h.min_ n 0 j 1 (by omega) _).min_ n j j 1 (by omega) _

/-- Where the diagonal element is 'at most 0', the row's steps are the reference's. -/
theorem prow_eq {n k i : Nat} {X : List Int} (hl : X.length = (n + 1) * (n + 1)) (hk : k ≤ n) (hi : i ≤ n) (h64 : A64 X) (hd : At n X k k = 1) :
    ∀ t, t ≤ n + 1 → (List.range t).foldl (prw n k i (At n X i k)) X = (List.range t).foldl (rlx n k i) X := by
  have c64 := h64 (ix n i k)
  have H : ∀ t, t ≤ n + 1 → ((List.range t).foldl (prw n k i (At n X i k)) X = (List.range t).foldl (rlx n k i) X) ∧ ((List.range t).foldl (rlx n k i) X).length = (n + 1) * (n + 1)
      ∧ At n ((List.range t).foldl (rlx n k i) X) i k = At n X i k ∧ At n ((List.range t).foldl (rlx n k i) X) k k = 1 := by
    intro t
    induction t with
    | zero => intro _; exact ⟨rfl, hl, rfl, hd⟩
    | succ t ih =>
      intro ht
      obtain ⟨e, l1, a1, a2⟩ := ih (by omega)
      rw [fold_succ, fold_succ, e]
      generalize (List.range t).foldl (rlx n k i) X = Y at *
      refine ⟨?_, by simpa [rlx] using l1, ?_, ?_⟩
      · unfold prw rlx; rw [a1]
      · unfold rlx
        rw [At_set l1 hi (by omega) _ hk]
        split
        · rename_i h
          rw [← h.2, a1, a2]
          have := smW_one c64.1 c64.2
          unfold At at *
          rw [this]; omega
        · exact a1
      · unfold rlx
        rw [At_set l1 hi (by omega) _ hk]
        split
        · rename_i h
          obtain ⟨h1, h2⟩ := h
          subst h1
          subst h2
          rw [a2]
          rfl
        · exact a2
  exact fun t ht => (H t ht).1

theorem prow_len {n k i : Nat} (c : Int) {X : List Int} (hl : X.length = (n + 1) * (n + 1)) : ∀ t, ((List.range t).foldl (prw n k i c) X).length = (n + 1) * (n + 1) := by
  intro t
  induction t with
  | zero => exact hl
  | succ t ih => rw [fold_succ]; simpa [prw] using ih

theorem prow_le {n k i : Nat} (c : Int) {X : List Int} (hl : X.length = (n + 1) * (n + 1)) (hi : i ≤ n) {a b : Nat} (hb : b ≤ n) : ∀ t, t ≤ n + 1 → At n ((List.range t).foldl (prw n k i c) X) a b ≤ At n X a b := by
  intro t
  induction t with
  | zero => intro _; exact Int.le_refl _
  | succ t ih =>
    intro ht
    rw [fold_succ]
    exact Int.le_trans (set_le (prow_len c hl t) hi (by omega) _ hb) (ih (by omega))

/-- What the rounds before k and the rows before i have left; no row that is done has a diagonal element below 'at most 0'. -/
def Mid (n : Nat) (l : List Int) (k i : Nat) (X : List Int) : Prop :=
  X = (List.range i).foldl (rlxJ n k) (rnd n l k) ∧ X.length = (n + 1) * (n + 1) ∧ A64 X ∧ (∀ a, a ≤ n → At n X a a ≤ 1) ∧ (∀ a, a ≤ n → (a < i ∨ 0 < k) → 1 ≤ At n X a a)

theorem rlx_64 {l : List Int} (h : A64 l) (n k i j : Nat) : A64 (rlx n k i l j) := h.min_ _ _ _ _ (smW_in _ _) _

theorem Mid.start {n : Nat} {l : List Int} (hl : l.length = (n + 1) * (n + 1)) (h64 : A64 l) : Mid n l 0 0 (pre n l) := by
  refine ⟨rfl, rnd_length hl 0 (by omega), ?_, fun a ha => (pre_low hl a ha).1, fun a ha h => by omega⟩
  exact pre_keeps (R := A64) (fun x i j _ _ _ hx => hx.min_ n i j 1 (by omega) _) h64

/-- A row that ends with its diagonal element as it should be. -/
theorem Mid.row {n : Nat} {l : List Int} {k i : Nat} {X Y : List Int} (hk : k ≤ n) (hi : i ≤ n) (h : Mid n l k i X) (hY : Y = (List.range (n + 1)).foldl (prw n k i (At n X i k)) X)
    (hd : 1 ≤ At n Y i i) : Mid n l k (i + 1) Y := by
  obtain ⟨e, h1, h2, h3, h4⟩ := h
  have hkk : At n X k k = 1 := by
    have hle := h3 k hk
    by_cases c : k < i ∨ 0 < k
    · have := h4 k hk c; omega
    · have : k = i := by omega
      subst this
      have := prow_le (n := n) (k := k) (i := k) (At n X k k) h1 hi (a := k) hi (n + 1) (Nat.le_refl _)
      rw [← hY] at this
      omega
  have e2 := prow_eq h1 hk hi h2 hkk (n + 1) (Nat.le_refl _)
  have hY2 : Y = rlxJ n k X i := by rw [hY, e2]; rfl
  refine ⟨by rw [fold_succ, ← e, hY2], by rw [hY]; exact prow_len _ h1 _, ?_, ?_, ?_⟩
  · rw [hY2]; exact fold_keeps (R := A64) (n + 1) (fun a t _ ha => rlx_64 ha n k i t) _ h2 _ (Nat.le_refl _)
  · intro a ha
    have := prow_le (n := n) (k := k) (i := i) (At n X i k) h1 hi (a := a) ha (n + 1) (Nat.le_refl _)
    rw [← hY] at this
    exact Int.le_trans this (h3 a ha)
  · intro a ha c
    by_cases ea : a = i
    · rw [ea]; exact hd
    · have hrow : ∀ t, t ≤ n + 1 → At n ((List.range t).foldl (prw n k i (At n X i k)) X) a a = At n X a a := by
        intro t
        induction t with
        | zero => intro _; rfl
        | succ t ih =>
          intro ht
          rw [fold_succ]
          rw [show ∀ Z : List Int, prw n k i (At n X i k) Z t = Z.set (ix n i t) (min (At n Z i t) (smW (At n X i k) (At n Z k t))) from fun _ => rfl, At_set (prow_len _ h1 t) hi (by omega) _ ha, if_neg (fun h => ea h.1)]
          exact ih (by omega)
      rw [hY, hrow (n + 1) (Nat.le_refl _)]
      exact h4 a ha (by omega)

theorem Mid.round {n : Nat} {l : List Int} {k : Nat} {X : List Int} (h : Mid n l k (n + 1) X) : Mid n l (k + 1) 0 X := by
  obtain ⟨e, h1, h2, h3, h4⟩ := h
  refine ⟨?_, h1, h2, h3, fun a ha _ => h4 a ha (by omega)⟩
  rw [e]; show _ = rnd n l (k + 1)
  rw [rnd_succ]; rfl

theorem Mid.done {n : Nat} {l : List Int} {X : List Int} (h : Mid n l (n + 1) 0 X) : X = clo n l ∧ ∀ a, a ≤ n → 1 ≤ At n (clo n l) a a := by
  obtain ⟨e, h1, h2, h3, h4⟩ := h
  have e2 : X = clo n l := e
  exact ⟨e2, fun a ha => by rw [← e2]; exact h4 a ha (by omega)⟩

theorem rlxJ_le {n k i : Nat} {X : List Int} (hl : X.length = (n + 1) * (n + 1)) (hi : i ≤ n) {a b : Nat} (hb : b ≤ n) : (rlxJ n k X i).length = (n + 1) * (n + 1) ∧ At n (rlxJ n k X i) a b ≤ At n X a b := by
  unfold rlxJ
  exact fold_keeps (R := fun x : List Int => x.length = (n + 1) * (n + 1) ∧ At n x a b ≤ At n X a b) (n + 1)
    (fun x t ht hx => ⟨by simpa [rlx] using hx.1, Int.le_trans (set_le hx.1 hi (by omega) _ hb) hx.2⟩) _ ⟨hl, Int.le_refl _⟩ _ (Nat.le_refl _)

theorem rows_le {n k : Nat} {Z : List Int} (hl : Z.length = (n + 1) * (n + 1)) (i : Nat) {a b : Nat} (hb : b ≤ n) : ∀ d, i + d ≤ n + 1 →
    ((List.range (i + d)).foldl (rlxJ n k) Z).length = (n + 1) * (n + 1) ∧ At n ((List.range (i + d)).foldl (rlxJ n k) Z) a b ≤ At n ((List.range i).foldl (rlxJ n k) Z) a b := by
  intro d
  induction d with
  | zero =>
    intro h
    refine ⟨?_, Int.le_refl _⟩
    exact fold_keeps (R := fun x : List Int => x.length = (n + 1) * (n + 1)) (n + 1) (fun x t ht hx => (rlxJ_le (a := 0) (b := 0) hx (by omega) (by omega)).1) _ hl _ h
  | succ d ih =>
    intro h
    obtain ⟨h1, h2⟩ := ih (by omega)
    rw [show i + (d + 1) = (i + d) + 1 by omega, fold_succ]
    have := rlxJ_le (n := n) (k := k) (i := i + d) h1 (by omega) (a := a) hb
    exact ⟨this.1, Int.le_trans this.2 h2⟩

/-- The whole is below what any row has left. -/
theorem clo_below {n : Nat} {l : List Int} (hl : l.length = (n + 1) * (n + 1)) {k i : Nat} (hk : k ≤ n) (hi : i ≤ n + 1) {a b : Nat} (ha : a ≤ n) (hb : b ≤ n) : At n (clo n l) a b ≤ At n ((List.range i).foldl (rlxJ n k) (rnd n l k)) a b := by
  have h1 := rnd_le hl (k + 1) (n - k) (by omega) a b ha hb
  rw [show k + 1 + (n - k) = n + 1 by omega, rnd_succ n l k] at h1
  have h2 := (rows_le (n := n) (k := k) (rnd_length hl k (by omega)) i (a := a) hb (n + 1 - i) (by omega)).2
  rw [show i + (n + 1 - i) = n + 1 by omega] at h2
  exact Int.le_trans h1 h2

/-- A row that ends with its diagonal element below 'at most 0': so does the whole. -/
theorem Mid.bad {n : Nat} {l : List Int} (hl : l.length = (n + 1) * (n + 1)) {k i : Nat} {X Y : List Int} (hk : k ≤ n) (hi : i ≤ n) (h : Mid n l k i X) (hY : Y = (List.range (n + 1)).foldl (prw n k i (At n X i k)) X)
    (hd : At n Y i i < 1) : At n (clo n l) i i < 1 := by
  obtain ⟨e, h1, h2, h3, h4⟩ := h
  by_cases c : At n X k k = 1
  · have e2 := prow_eq h1 hk hi h2 c (n + 1) (Nat.le_refl _)
    have hY2 : Y = (List.range (i + 1)).foldl (rlxJ n k) (rnd n l k) := by rw [fold_succ, ← e, hY, e2]; rfl
    have := clo_below hl hk (i := i + 1) (by omega) hi hi
    rw [← hY2] at this
    omega
  · have hle := h3 k hk
    have : k = i := by
      by_cases c2 : k < i ∨ 0 < k
      · have := h4 k hk c2; omega
      · omega
    subst this
    have := clo_below hl hk (i := k) (by omega) hi hi
    rw [← e] at this
    omega
end Go.Proofs.Ytgdcclldgfcilaa.Zo

namespace Go.Proofs.Ytgdcclldgfcilaa.Zo

/-- A limit, perhaps somewhat out of range. -/
def Wl (x : Int) : Prop := x = 1099511627776 ∨ (-4294967296 ≤ x ∧ x ≤ 4294967297)

theorem Vl.wl {x : Int} (h : Vl x) : Wl x := by unfold Vl at h; unfold Wl; omega

theorem pre_wl {n : Nat} {l : List Int} (hl : l.length = (n + 1) * (n + 1)) (hv : ∀ a b, a ≤ n → b ≤ n → Wl (At n l a b)) : ∀ a b, a ≤ n → b ≤ n → Wl (At n (pre n l) a b) := by
  refine (pre_keeps (R := fun x : List Int => x.length = (n + 1) * (n + 1) ∧ ∀ a b, a ≤ n → b ≤ n → Wl (At n x a b)) (fun x i j _ hi hj hx => ⟨by simpa using hx.1, fun a b ha hb => ?_⟩) ⟨hl, hv⟩).2
  rw [At_set hx.1 hi hj _ hb]
  split
  · have := hx.2 i j hi hj
    unfold Wl at this ⊢
    omega
  · exact hx.2 a b ha hb

theorem clo_repW {n : Nat} {l : List Int} (hn : n ≤ 10) (hl : l.length = (n + 1) * (n + 1)) (hv : ∀ a b, a ≤ n → b ≤ n → Wl (At n l a b)) (hd : ∀ i, i ≤ n → 1 ≤ At n (clo n l) i i) :
    ∀ t, t ≤ n + 1 → Rep n (rnd n l t) (fw (mat n l) t) ∧ ∀ k, k < t → fw (mat n l) k k k = some 1 := by
  have pv := pre_wl hl hv
  have hm : ∀ i j x, mat n l i j = some x → x ≤ 4294967297 ∧ -4294967297 + 1 ≤ x := by
    intro i j x h
    unfold mat at h
    split at h
    · rename_i c
      have := pv i j c.1 c.2
      unfold dec at h
      unfold Wl at this
      split at h
      · simp at h
      · simp at h; omega
    · simp at h
  have dg : ∀ t, t ≤ n + 1 → ∀ i, i ≤ n → At n (rnd n l t) i i = 1 := by
    intro t ht i hi
    have h1 := rnd_le hl t (n + 1 - t) (by omega) i i hi hi
    rw [show t + (n + 1 - t) = n + 1 by omega] at h1
    have h2 := rnd_le hl 0 t (by omega) i i hi hi
    have h3 := (pre_low hl i hi).1
    have h4 := hd i hi
    have e : rnd n l (n + 1) = clo n l := rfl
    have e0 : rnd n l 0 = pre n l := rfl
    rw [e] at h1
    rw [e0, Nat.zero_add] at h2
    omega
  intro t
  induction t with
  | zero =>
    intro _
    refine ⟨⟨rnd_length hl 0 (by omega), fun a b ha hb => ?_⟩, fun k hk => by omega⟩
    show At n (pre n l) a b = enc (mat n l a b)
    unfold mat
    rw [if_pos ⟨ha, hb⟩, enc_dec]
  | succ t ih =>
    intro ht
    obtain ⟨hr, hdg⟩ := ih (by omega)
    have htt : fw (mat n l) t t t = some 1 := by
      have h1 := hr.2 t t (by omega) (by omega)
      rw [dg t (by omega) t (by omega)] at h1
      cases e : fw (mat n l) t t t with
      | none => rw [e] at h1; simp [enc] at h1
      | some x => rw [e] at h1; simp [enc] at h1; rw [h1]
    have all : ∀ k, k < t + 1 → fw (mat n l) k k k = some 1 := by
      intro k hk
      by_cases e : k = t
      · rw [e]; exact htt
      · exact hdg k (by omega)
    have hB : Bd (fw (mat n l) t) := by
      intro i j x h
      constructor
      · have := fw_low (c := 4294967297) (by omega) (fun i j x h => (hm i j x h).2) t i j x h
        have p : (2 : Int) ^ t ≤ 2 ^ 11 := by
          have : (2 : Nat) ^ t ≤ 2 ^ 11 := Nat.pow_le_pow_right (by omega) (by omega)
          exact_mod_cast this
        omega
      · obtain ⟨S, _, hx⟩ := fw_bound (U := 4294967297) (fun i j x h => (hm i j x h).1) t hdg i j x h
        have := cnt_le S t
        omega
    refine ⟨?_, all⟩
    rw [rnd_succ]
    exact round_rep hB htt (by omega) hr

theorem fw_bd {n : Nat} {l : List Int} (hn : n ≤ 10) (hl : l.length = (n + 1) * (n + 1)) (hv : ∀ a b, a ≤ n → b ≤ n → Wl (At n l a b)) (hd : ∀ i, i ≤ n → 1 ≤ At n (clo n l) i i) :
    Rep n (clo n l) (fw (mat n l) (n + 1)) ∧ Tri (n + 1) (fw (mat n l) (n + 1)) ∧ Bd (fw (mat n l) (n + 1)) ∧ ∀ k, k ≤ n → fw (mat n l) (n + 1) k k = some 1 := by
  obtain ⟨hr, hdg⟩ := clo_repW hn hl hv hd (n + 1) (Nat.le_refl _)
  have pv := pre_wl hl hv
  have hm : ∀ i j x, mat n l i j = some x → x ≤ 4294967297 ∧ -4294967297 + 1 ≤ x := by
    intro i j x h
    unfold mat at h
    split at h
    · rename_i c
      have := pv i j c.1 c.2
      unfold dec at h
      unfold Wl at this
      split at h
      · simp at h
      · simp at h; omega
    · simp at h
  refine ⟨hr, tri_fw (n + 1) hdg, ?_, ?_⟩
  · intro i j x h
    constructor
    · have := fw_low (c := 4294967297) (by omega) (fun i j x h => (hm i j x h).2) (n + 1) i j x h
      have p : (2 : Int) ^ (n + 1) ≤ 2 ^ 11 := by
        have : (2 : Nat) ^ (n + 1) ≤ 2 ^ 11 := Nat.pow_le_pow_right (by omega) (by omega)
        exact_mod_cast this
      omega
    · obtain ⟨S, _, hx⟩ := fw_bound (U := 4294967297) (fun i j x h => (hm i j x h).1) (n + 1) hdg i j x h
      have := cnt_le S (n + 1)
      omega
  · intro k hk
    have h1 := hr.2 k k hk hk
    have h2 := hd k hk
    have h3 := clo_below hl (k := 0) (i := 0) (by omega) (by omega) hk hk
    have h4 := (pre_low hl k hk).1
    have e : (List.range 0).foldl (rlxJ n 0) (rnd n l 0) = pre n l := rfl
    rw [e] at h3
    have e2 : At n (rnd n l (n + 1)) k k = 1 := by
      show At n (clo n l) k k = 1
      omega
    rw [e2] at h1
    cases e : fw (mat n l) (n + 1) k k with
    | none => rw [e] at h1; simp [enc] at h1
    | some x => rw [e] at h1; simp [enc] at h1; rw [h1]

/-- .. in the code's own sums. -/
theorem clo_sums {n : Nat} {l : List Int} (hn : n ≤ 10) (hl : l.length = (n + 1) * (n + 1)) (hv : ∀ a b, a ≤ n → b ≤ n → Wl (At n l a b)) (hd : ∀ i, i ≤ n → 1 ≤ At n (clo n l) i i) :
    ∀ i j k, i ≤ n → j ≤ n → k ≤ n → At n (clo n l) i j ≤ smW (At n (clo n l) i k) (At n (clo n l) k j) := by
  intro i j k hi hj hk
  obtain ⟨rep, tri, bd, _⟩ := fw_bd hn hl hv hd
  have t := tri k (by omega) i j
  rw [rep.2 i j hi hj, rep.2 i k hi hk, rep.2 k j hk hj]
  have st := enc_step (a := fw (mat n l) (n + 1) i j) (b := fw (mat n l) (n + 1) i k) (c := fw (mat n l) (n + 1) k j) (fun x h => (bd i j x h).2) (fun x h => bd i k x h) (fun x h => bd k j x h)
  rw [mn_eq_left t] at st
  rw [← st]
  exact Int.min_le_right _ _
end Go.Proofs.Ytgdcclldgfcilaa.Zo

namespace Go.Proofs.Ytgdcclldgfcilaa.Zo

theorem At_ext {n : Nat} {x y : List Int} (hx : x.length = (n + 1) * (n + 1)) (hy : y.length = (n + 1) * (n + 1)) (h : ∀ a b, a ≤ n → b ≤ n → At n x a b = At n y a b) : x = y := by
  refine List.ext_getElem (by omega) fun i h1 h2 => ?_
  have c1 : i / (n + 1) ≤ n := by
    have : i < (n + 1) * (n + 1) := by omega
    have := Nat.div_lt_of_lt_mul this
    omega
  have c2 : i % (n + 1) ≤ n := by have := Nat.mod_lt i (show 0 < n + 1 by omega); omega
  have := h _ _ c1 c2
  unfold At ix gt at this
  rw [show i / (n + 1) * (n + 1) + i % (n + 1) = i by rw [Nat.mul_comm]; exact Nat.div_add_mod i (n + 1)] at this
  simpa [h1, h2] using this

theorem pre_at {n : Nat} {l : List Int} (hl : l.length = (n + 1) * (n + 1)) {a b : Nat} (ha : a ≤ n) (hb : b ≤ n) : At n (pre n l) a b = if a = 0 ∨ a = b then min (At n l a b) 1 else At n l a b := by
  have h : ∀ t, t ≤ n + 1 → ((List.range t).foldl (st1 n) l).length = (n + 1) * (n + 1) ∧ At n ((List.range t).foldl (st1 n) l) a b = if (a = 0 ∨ a = b) ∧ b < t then min (At n l a b) 1 else At n l a b := by
    intro t
    induction t with
    | zero => intro _; exact ⟨hl, by simp⟩
    | succ t ih =>
      intro ht
      obtain ⟨h1, h2⟩ := ih (by omega)
      rw [fold_succ]
      generalize (List.range t).foldl (st1 n) l = Y at *
      refine ⟨by simpa [st1] using h1, ?_⟩
      have e : st1 n Y t = (Y.set (ix n 0 t) (min (At n Y 0 t) 1)).set (ix n t t) (min (At n (Y.set (ix n 0 t) (min (At n Y 0 t) 1)) t t) 1) := rfl
      have l1 : (Y.set (ix n 0 t) (min (At n Y 0 t) 1)).length = (n + 1) * (n + 1) := by simpa using h1
      rw [e, At_set l1 (by omega) (by omega) _ hb, At_set h1 (by omega) (by omega) _ hb, At_set h1 (by omega) (by omega) _ (by omega)]
      by_cases c : b = t
      · subst c
        by_cases ca : a = 0
        · subst ca
          have e1 : At n Y 0 b = At n l 0 b := by rw [h2, if_neg (by omega)]
          by_cases cb : b = 0
          · subst cb; simp [e1]
          · rw [if_neg (by omega), if_pos ⟨rfl, rfl⟩, if_pos ⟨Or.inl rfl, by omega⟩, e1]
        · by_cases cb : a = b
          · subst cb
            have e1 : At n Y a a = At n l a a := by rw [h2, if_neg (by omega)]
            rw [if_pos ⟨rfl, rfl⟩, if_neg (by omega), if_pos ⟨Or.inr rfl, by omega⟩, e1]
          · rw [if_neg (by omega), if_neg (by omega), if_neg (by omega), h2, if_neg (by omega)]
      · rw [if_neg (by omega), if_neg (by omega), h2]
        by_cases ca : (a = 0 ∨ a = b) ∧ b < t
        · rw [if_pos ca, if_pos ⟨ca.1, by omega⟩]
        · rw [if_neg ca, if_neg (by omega)]
  have := (h (n + 1) (Nat.le_refl _)).2
  rw [show (List.range (n + 1)).foldl (st1 n) l = pre n l from rfl] at this
  rw [this]
  by_cases c : a = 0 ∨ a = b
  · rw [if_pos ⟨c, by omega⟩, if_pos c]
  · rw [if_neg (by omega), if_neg c]

theorem pre_len {n : Nat} {l : List Int} (hl : l.length = (n + 1) * (n + 1)) : (pre n l).length = (n + 1) * (n + 1) := rnd_length hl 0 (by omega)

theorem pre_eq {n : Nat} {x y : List Int} (hx : x.length = (n + 1) * (n + 1)) (hy : y.length = (n + 1) * (n + 1))
    (h : ∀ a b, a ≤ n → b ≤ n → (a ≠ 0 ∧ a ≠ b → At n x a b = At n y a b) ∧ (a = 0 ∨ a = b → min (At n x a b) 1 = min (At n y a b) 1)) : pre n x = pre n y := by
  refine At_ext (pre_len hx) (pre_len hy) fun a b ha hb => ?_
  rw [pre_at hx ha hb, pre_at hy ha hb]
  by_cases c : a = 0 ∨ a = b
  · rw [if_pos c, if_pos c]; exact (h a b ha hb).2 c
  · rw [if_neg c, if_neg c]; exact (h a b ha hb).1 (by omega)

theorem clo_pre {n : Nat} {x y : List Int} (h : pre n x = pre n y) : clo n x = clo n y := by unfold clo; rw [h]

/-- A fold of stores: each place gets its own value. -/
theorem fold_at {n : Nat} {N : Nat} {f : List Int → Nat → List Int} {p : Nat → Nat → Nat → Bool} {v : Int} (hf : ∀ (x : List Int) t, t < N → x.length = (n + 1) * (n + 1) → (f x t).length = (n + 1) * (n + 1) ∧ ∀ a b, a ≤ n → b ≤ n → At n (f x t) a b = if p t a b then v else At n x a b)
    {l : List Int} (hl : l.length = (n + 1) * (n + 1)) : ∀ t, t ≤ N → ((List.range t).foldl f l).length = (n + 1) * (n + 1) ∧ ∀ a b, a ≤ n → b ≤ n → At n ((List.range t).foldl f l) a b = if (List.range t).any (fun s => p s a b) then v else At n l a b := by
  intro t
  induction t with
  | zero => intro _; exact ⟨hl, fun a b _ _ => by simp⟩
  | succ t ih =>
    intro ht
    obtain ⟨h1, h2⟩ := ih (by omega)
    rw [fold_succ]
    obtain ⟨h3, h4⟩ := hf _ t (by omega) h1
    refine ⟨h3, fun a b ha hb => ?_⟩
    rw [h4 a b ha hb, h2 a b ha hb, List.range_succ, List.any_append]
    cases h5 : p t a b <;> cases h6 : (List.range t).any (fun s => p s a b) <;> simp [h5]
end Go.Proofs.Ytgdcclldgfcilaa.Zo

namespace Go.Proofs.Ytgdcclldgfcilaa.Zo

def elS (n : Nat) (f : Nat → Nat → Int → Int) (i : Nat) (x : List Int) (j : Nat) : List Int := if i = j then x else x.set (ix n i j) (f i j (At n x i j))

def elJ (n : Nat) (f : Nat → Nat → Int → Int) (x : List Int) (i : Nat) : List Int := (List.range (n + 1)).foldl (elS n f i) x

def elL (n : Nat) (f : Nat → Nat → Int → Int) (l : List Int) : List Int := (List.range (n + 1)).foldl (elJ n f) l

theorem elS_len (n : Nat) (f : Nat → Nat → Int → Int) (i : Nat) (x : List Int) (j : Nat) : (elS n f i x j).length = x.length := by unfold elS; split <;> simp

theorem elS_fold_len (n : Nat) (f : Nat → Nat → Int → Int) (i : Nat) (x : List Int) : ∀ t, ((List.range t).foldl (elS n f i) x).length = x.length := by
  intro t
  induction t with
  | zero => rfl
  | succ t ih => rw [fold_succ, elS_len, ih]

theorem elJ_len (n : Nat) (f : Nat → Nat → Int → Int) (x : List Int) (i : Nat) : (elJ n f x i).length = x.length := elS_fold_len n f i x _

theorem elL_fold_len (n : Nat) (f : Nat → Nat → Int → Int) (x : List Int) : ∀ t, ((List.range t).foldl (elJ n f) x).length = x.length := by
  intro t
  induction t with
  | zero => rfl
  | succ t ih => rw [fold_succ, elJ_len, ih]

theorem elL_len (n : Nat) (f : Nat → Nat → Int → Int) (l : List Int) : (elL n f l).length = l.length := elL_fold_len n f l _

theorem elS_at {n : Nat} (f : Nat → Nat → Int → Int) {i : Nat} (hi : i ≤ n) {x : List Int} (hx : x.length = (n + 1) * (n + 1)) {a b : Nat} (_ha : a ≤ n) (hb : b ≤ n) :
    ∀ t, t ≤ n + 1 → At n ((List.range t).foldl (elS n f i) x) a b = if a = i ∧ b < t ∧ a ≠ b then f a b (At n x a b) else At n x a b := by
  intro t
  induction t with
  | zero => intro _; simp
  | succ t ih =>
    intro ht
    have h := ih (by omega)
    rw [fold_succ]
    have hl := elS_fold_len n f i x t
    generalize (List.range t).foldl (elS n f i) x = Y at *
    unfold elS
    by_cases c : i = t
    · rw [if_pos c, h]
      by_cases d : a = i ∧ b < t ∧ a ≠ b
      · rw [if_pos d, if_pos ⟨d.1, by omega, d.2.2⟩]
      · rw [if_neg d, if_neg (fun q => d ⟨q.1, by omega, q.2.2⟩)]
    · rw [if_neg c, At_set (by rw [hl, hx]) hi (by omega) _ hb]
      by_cases d : a = i ∧ b = t
      · obtain ⟨rfl, rfl⟩ := d
        rw [if_pos ⟨rfl, rfl⟩, if_pos ⟨rfl, by omega, c⟩]
        rw [h, if_neg (by omega)]
      · rw [if_neg (by omega), h]
        by_cases e : a = i ∧ b < t ∧ a ≠ b
        · rw [if_pos e, if_pos ⟨e.1, by omega, e.2.2⟩]
        · rw [if_neg e, if_neg (fun q => e ⟨q.1, by omega, q.2.2⟩)]

theorem elL_at {n : Nat} (f : Nat → Nat → Int → Int) {l : List Int} (hl : l.length = (n + 1) * (n + 1)) {a b : Nat} (ha : a ≤ n) (hb : b ≤ n) :
    At n (elL n f l) a b = if a = b then At n l a b else f a b (At n l a b) := by
  have h : ∀ t, t ≤ n + 1 → At n ((List.range t).foldl (elJ n f) l) a b = if a < t ∧ a ≠ b then f a b (At n l a b) else At n l a b := by
    intro t
    induction t with
    | zero => intro _; simp
    | succ t ih =>
      intro ht
      have h := ih (by omega)
      rw [fold_succ]
      have hy := elL_fold_len n f l t
      generalize (List.range t).foldl (elJ n f) l = Y at *
      unfold elJ
      rw [elS_at f (by omega) (by rw [hy, hl]) ha hb (n + 1) (by omega), h]
      by_cases c : a = t
      · subst c
        by_cases d : a = b
        · rw [if_neg (by omega), if_neg (by omega), if_neg (by omega)]
        · rw [if_pos ⟨rfl, by omega, d⟩, if_neg (by omega), if_pos ⟨by omega, d⟩]
      · rw [if_neg (by omega)]
        by_cases d : a < t ∧ a ≠ b
        · rw [if_pos d, if_pos ⟨by omega, d.2⟩]
        · rw [if_neg d, if_neg (fun q => d ⟨by omega, q.2⟩)]
  have := h (n + 1) (Nat.le_refl _)
  rw [show (List.range (n + 1)).foldl (elJ n f) l = elL n f l from rfl] at this
  rw [this]
  by_cases c : a = b
  · rw [if_neg (by omega), if_pos c]
  · rw [if_pos ⟨by omega, c⟩, if_neg c]

theorem elL_congr {n : Nat} {f g : Nat → Nat → Int → Int} {l : List Int} (hl : l.length = (n + 1) * (n + 1)) (h : ∀ a b, a ≤ n → b ≤ n → a ≠ b → f a b (At n l a b) = g a b (At n l a b)) : elL n f l = elL n g l := by
  refine At_ext (by rw [elL_len, hl]) (by rw [elL_len, hl]) fun a b ha hb => ?_
  rw [elL_at f hl ha hb, elL_at g hl ha hb]
  by_cases c : a = b
  · rw [if_pos c, if_pos c]
  · rw [if_neg c, if_neg c]; exact h a b ha hb c
end Go.Proofs.Ytgdcclldgfcilaa.Zo

namespace Go.Proofs.Ytgdcclldgfcilaa
open Go.RowKit

/-- An element, as a value. -/
def elV (i j x c : Int) : Value := .agg #[.int .i64 i, .int .i64 j, .int .i64 x, .int .i64 c]

theorem four_made (w : World) (a b c d : Value) (t : TypeId) : (w.alloc (.cells #[a, b, c, d] t)).cell? ⟨w.heap.size, 0, none⟩ = some a ∧ (w.alloc (.cells #[a, b, c, d] t)).cell? ⟨w.heap.size, 1, none⟩ = some b ∧
    (w.alloc (.cells #[a, b, c, d] t)).cell? ⟨w.heap.size, 2, none⟩ = some c ∧ (w.alloc (.cells #[a, b, c, d] t)).cell? ⟨w.heap.size, 3, none⟩ = some d := by
  refine ⟨?_, ?_, ?_, ?_⟩ <;> go_simp

set_option maxHeartbeats 1000000 in
theorem element_any (i j x : Int) (w : World) (hx : I64 x) : Calls Try.prog 47 #[.int .i64 i, .int .i64 j, .int .i64 x] w (Made (elV i j x (spC x)) w) := by
  have SP := Lib.hid (fun W => limSplit_any x W hx)
  have E0 := Lib.hid (one_more (w1 := w) (.cells #[.int .i64 0, .int .i64 0, .int .i64 0, .int .i64 0] 92))
  go_enter Try.func47, Try.ntmps47
  go_wp2_with fail
  refine (SP.out _).mono ?_
  rintro e w1 ⟨rfl, hw⟩
  rw [hw]
  clear hw w1
  go_wp2_with fail
  refine bodyPost_ret (v := elV i j x (spC x)) (by simp [results, Try.results47, go_sem, elV]) rfl ⟨rfl, ?_⟩
  exact one_more _

def mdT (v : Int) (b : Bool) : Value := .tuple #[.int .i64 v, .bool b]

theorem ret_md {a b : Int} {c d : Bool} (h : a = b) (g : c = d) : Ending.returned (.tuple #[.int .i64 a, .bool c]) = .returned (mdT b d) := by rw [h, g]; rfl

set_option maxHeartbeats 1000000 in
theorem case1_any (i : Nat) (j x c : Int) (low : List Int) (p : Nat) (a : Addr) (cap : Nat) (w : World) (hi : i < low.length) (hp : w.cell? ⟨p, 0, none⟩ = some (.slice (some a) low.length cap)) (hR : Rd w a low) :
    Calls Try.prog 48 #[elV i j x c, .pointer (some ⟨p, 0, none⟩)] w (Made (mdT 1099511627776 (decide (x = 1099511627776) || (decide (Zo.gt low i = -1) || decide (Zo.gt low i < c)))) w) := by
  obtain ⟨w0, hw0⟩ : ∃ w0, w0 = w.alloc (.cells #[.int .i64 i, .int .i64 j, .int .i64 x, .int .i64 c] 92) := ⟨_, rfl⟩
  have e0 : Below w.heap.size w w0 := by rw [hw0]; exact one_more _
  obtain ⟨b0, b1, b2, b3⟩ := four_made w (.int .i64 i) (.int .i64 j) (.int .i64 x) (.int .i64 c) 92
  rw [← hw0] at b0 b1 b2 b3
  have p0 := kept e0 hp
  have d1 := kept e0 (hR i hi)
  have E0 := Lib.hid e0
  generalize Zo.gt low i = y at *
  generalize low.length = len at *
  clear hp hR e0
  unfold elV
  cases h1 : (x == 1099511627776)
  · have g1 : decide (x = 1099511627776) = false := by simpa using h1
    cases h2 : (y == -1)
    · have g2 : decide (y = -1) = false := by simpa using h2
      go_enter Try.func48, Try.ntmps48
      go_wp2_with fail
      rw [← hw0]
      clear hw0
      go_quiet (fail)
      go_wp2_with fail
      go_ret2
      exact ⟨ret_md rfl (by rw [g1, g2]; simp), below_drewN E0.out _⟩
    · have g2 : decide (y = -1) = true := by simpa using h2
      go_enter Try.func48, Try.ntmps48
      go_wp2_with fail
      rw [← hw0]
      clear hw0
      go_quiet (fail)
      go_wp2_with fail
      go_ret2
      exact ⟨ret_md rfl (by rw [g2]; simp), below_drewN E0.out _⟩
  · have g1 : decide (x = 1099511627776) = true := by simpa using h1
    go_enter Try.func48, Try.ntmps48
    go_wp2_with fail
    rw [← hw0]
    clear hw0
    go_quiet (fail)
    go_wp2_with fail
    go_ret2
    exact ⟨ret_md rfl (by rw [g1]; simp), below_drewN E0.out _⟩

set_option maxHeartbeats 1000000 in
theorem case2_any (i j : Nat) (x c : Int) (high : List Int) (p : Nat) (a : Addr) (cap : Nat) (w : World) (hj : j < high.length) (hp : w.cell? ⟨p, 0, none⟩ = some (.slice (some a) high.length cap)) (hR : Rd w a high) :
    Calls Try.prog 49 #[elV i j x c, .pointer (some ⟨p, 0, none⟩)] w (Made (mdT (if i = 0 then 1 else 1099511627776) (decide (Zo.gt high j = -1))) w) := by
  obtain ⟨w0, hw0⟩ : ∃ w0, w0 = w.alloc (.cells #[.int .i64 i, .int .i64 j, .int .i64 x, .int .i64 c] 92) := ⟨_, rfl⟩
  have e0 : Below w.heap.size w w0 := by rw [hw0]; exact one_more _
  obtain ⟨b0, b1, b2, b3⟩ := four_made w (.int .i64 i) (.int .i64 j) (.int .i64 x) (.int .i64 c) 92
  rw [← hw0] at b0 b1 b2 b3
  have p0 := kept e0 hp
  have d1 := kept e0 (hR j hj)
  have E0 := Lib.hid e0
  generalize Zo.gt high j = y at *
  generalize high.length = len at *
  clear hp hR e0
  unfold elV
  have g2 : decide (y = -1) = (y == -1) := by rw [Bool.eq_iff_iff]; simp
  by_cases h1 : i = 0
  · have h3 : ((i : Int) == 0) = true := by simpa using h1
    rw [if_pos h1]
    clear h1
    go_enter Try.func49, Try.ntmps49
    go_wp2_with fail
    rw [← hw0]
    clear hw0
    go_wp2_with fail
    go_quiet (fail)
    go_wp2_with fail
    go_ret2
    exact ⟨ret_md rfl g2.symm, below_drewN E0.out _⟩
  · have h3 : ((i : Int) == 0) = false := by simpa using h1
    rw [if_neg h1]
    clear h1
    go_enter Try.func49, Try.ntmps49
    go_wp2_with fail
    rw [← hw0]
    clear hw0
    go_wp2_with fail
    go_quiet (fail)
    go_wp2_with fail
    go_ret2
    exact ⟨ret_md rfl g2.symm, below_drewN E0.out _⟩

set_option maxHeartbeats 1000000 in
theorem case3_any (i : Int) (j : Nat) (x c : Int) (high : List Int) (p : Nat) (a : Addr) (cap : Nat) (w : World) (hj : j < high.length) (hp : w.cell? ⟨p, 0, none⟩ = some (.slice (some a) high.length cap)) (hR : Rd w a high)
    (hb : -1 ≤ Zo.gt high j ∧ Zo.gt high j ≤ 1048576) :
    Calls Try.prog 50 #[elV i j x c, .pointer (some ⟨p, 0, none⟩)] w (Made (mdT (-2 * Zo.gt high j) (decide (c < -Zo.gt high j))) w) := by
  have e0 : Below w.heap.size w (w.alloc (.cells #[.int .i64 i, .int .i64 j, .int .i64 x, .int .i64 c] 92)) := one_more _
  obtain ⟨b0, b1, b2, b3⟩ := four_made w (.int .i64 i) (.int .i64 j) (.int .i64 x) (.int .i64 c) 92
  have p0 := kept e0 hp
  have d1 := kept e0 (hR j hj)
  have E0 := Lib.hid e0
  generalize Zo.gt high j = y at *
  generalize high.length = len at *
  clear hp hR e0
  have SC := Lib.hid (show ∀ W, Calls Try.prog 51 #[.int .i64 (-y)] W (Still (.tuple #[.int .i64 (-2 * y), .int .i64 0]) W) from fun W => by
    have := strict_any (-y) W
    rw [show jnL (-y) true = -2 * y by unfold jnL; simp; omega, show jnE (-y) = 0 by unfold jnE; simp; omega] at this
    exact this)
  have w9 := wrap_in (-y) (by omega) (by omega)
  unfold elV
  go_enter Try.func50, Try.ntmps50
  go_wp2_with fail
  refine (SC.out _).mono ?_
  rintro e w1 ⟨rfl, hw⟩
  rw [hw]
  clear hw w1
  go_wp2_with fail
  go_quiet (fail)
  go_wp2_with fail
  go_ret2
  exact ⟨ret_md rfl rfl, below_drewN E0.out _⟩

set_option maxHeartbeats 1000000 in
theorem case4_any (i j x c : Int) (w : World) :
    Calls Try.prog 52 #[elV i j x c] w (Made (mdT x true) w) := by
  obtain ⟨w0, hw0⟩ : ∃ w0, w0 = w.alloc (.cells #[.int .i64 i, .int .i64 j, .int .i64 x, .int .i64 c] 92) := ⟨_, rfl⟩
  have e0 : Below w.heap.size w w0 := by rw [hw0]; exact one_more _
  obtain ⟨b0, b1, b2, b3⟩ := four_made w (.int .i64 i) (.int .i64 j) (.int .i64 x) (.int .i64 c) 92
  rw [← hw0] at b0 b1 b2 b3
  have E0 := Lib.hid e0
  clear e0
  unfold elV
  go_enter Try.func52, Try.ntmps52
  go_wp2_with fail
  rw [← hw0]
  clear hw0
  go_wp2_with fail
  go_ret2
  exact ⟨ret_md rfl rfl, E0.out⟩
end Go.Proofs.Ytgdcclldgfcilaa
