/- A part. -/
import Derived.Test.YthjapmdfcbngmaaGreatRows
import Derived.WalkKit
import Derived.WalkSpells
import Derived.WalkLawsBesides
import Derived.Deep.QuietTactic
import Derived.BigQuiet
import Derived.Deep.RegionHeld3
import Derived.Lib.Hide
import Derived.Laws.EntriesVeiled
namespace Go.Proofs.YthjapmdfcbngmaaGreat
set_option maxHeartbeats 800000
open Go.RowKit
def I64 (x : Int) : Prop := -9223372036854775808 ≤ x ∧ x ≤ 9223372036854775807
theorem ret_int {k : IntKind} {a b : Int} (h : a = b) : Ending.returned (.int k a) = .returned (.int k b) := by rw [h]
def Drawn (v : Value) (w : World) (e : Ending) (w' : World) : Prop := e = .returned v ∧ ∃ n, w' = w.drewN n
def Made (v : Value) (w : World) (e : Ending) (w' : World) : Prop := e = .returned v ∧ Below w.heap.size w w'
theorem bcell {B : Nat} {W w1 : World} (hb : Below B W w1) : (∀ b o, b < B → w1.cell? ⟨b, o, none⟩ = W.cell? ⟨b, o, none⟩) ∧ (∀ b o, b < B → w1.frozen? ⟨b, o, none⟩ = W.frozen? ⟨b, o, none⟩) :=
 ⟨fun b o h => hb.cell (p := ⟨b, o, none⟩) h, fun b o h => hb.frozen (p := ⟨b, o, none⟩) h⟩
theorem ret_bool {a b : Bool} (h : a = b) : Ending.returned (.bool a) = .returned (.bool b) := by rw [h]
theorem two_below {w w1 : World} (hb : Below w.heap.size w w1) (n : Nat) (x y : Value) : Below w.heap.size w (((w1.drewN n).setCell ⟨w.heap.size, 0, none⟩ x).setCell ⟨w.heap.size, 1, none⟩ y) :=
 ((below_drewN hb n).setCell (Nat.le_refl _) x).setCell (Nat.le_refl _) y
theorem past_one {w w1 : World} {o : Obj} (hb : Below (w.alloc o).heap.size (w.alloc o) w1) : Below w.heap.size w w1 :=
 ((Below.refl _ _).alloc (Nat.le_refl _) o).trans (hb.mono (by simp))
theorem past_two {w w1 : World} {o1 o2 : Obj} (hb : Below ((w.alloc o1).alloc o2).heap.size ((w.alloc o1).alloc o2) w1) : Below w.heap.size w w1 :=
 past_one (past_one hb)
theorem past_three {w w1 : World} {o1 o2 o3 : Obj} (hb : Below (((w.alloc o1).alloc o2).alloc o3).heap.size (((w.alloc o1).alloc o2).alloc o3) w1) : Below w.heap.size w w1 :=
 past_one ((past_one ((past_one hb))))
theorem below_on {X w1 w2 : World} (hb : Below X.heap.size X w1) (hb2 : Below w1.heap.size w1 w2) : Below X.heap.size X w2 := hb.trans (hb2.mono hb.size)
theorem ret_two {k1 k2 : IntKind} {a b c d : Int} (h : a = b) (g : c = d) : Ending.returned (.tuple #[.int k1 a, .int k2 c]) = .returned (.tuple #[.int k1 b, .int k2 d]) := by rw [h, g]
theorem wrap_in (x : Int) (h1 : -9223372036854775808 ≤ x) (h2 : x ≤ 9223372036854775807) : IntKind.i64.wrap x = x := by
 simp [IntKind.wrap, IntKind.bits, IntKind.signed]
 omega
theorem w64min : wrap64 9223372036854775808 = -9223372036854775808 := by unfold wrap64; omega
theorem kept {w1 w2 : World} (hb : Below w1.heap.size w1 w2) {p : Addr} {v : Value} (h : w1.cell? p = some v) : w2.cell? p = some v := by
 rw [hb.cell (World.block_lt_of_cell? w1 _ h)]; exact h
theorem one_more {w1 : World} (o : Obj) : Below w1.heap.size w1 (w1.alloc o) := (Below.refl _ _).alloc (Nat.le_refl _) o
theorem on_box {w w1 w2 : World} {o : Obj} (hB : Below w.heap.size w w1) (hb : Below (w1.alloc o).heap.size (w1.alloc o) w2) : Below w.heap.size w w2 :=
 below_on hB (past_one hb)
def Cell (w : World) (p : Addr) (v : Value) : Prop := w.cell? p = some v ∧ w.frozen? p = false
theorem Cell.lt {w : World} {p : Addr} {v : Value} (h : Cell w p v) : p.block < w.heap.size := World.block_lt_of_cell? w _ h.1
theorem Cell.kept {w w' : World} {p : Addr} {v : Value} (h : Cell w p v) (hb : Below w.heap.size w w') : Cell w' p v :=
 ⟨by rw [hb.cell h.lt]; exact h.1, by rw [hb.frozen h.lt]; exact h.2⟩
theorem Cell.same {w : World} {p : Addr} {v : Value} (h : Cell w p v) (x : Value) : Cell (w.setCell p x) p x :=
 ⟨World.cell?_setCell_same _ _ _ h.1, by rw [World.frozen?_setCell]; exact h.2⟩
theorem Cell.other {w : World} {p q : Addr} {v : Value} (h : Cell w q v) (hne : p ≠ q) (x : Value) : Cell (w.setCell p x) q v :=
 ⟨(World.cell?_setCell_other _ _ _ _ hne).trans h.1, by rw [World.frozen?_setCell]; exact h.2⟩
def Pair (w : World) (b : Nat) (x y : Int) : Prop := Cell w ⟨b, 0, none⟩ (.int .i64 x) ∧ Cell w ⟨b, 1, none⟩ (.int .i64 y)
theorem Pair.lt {w : World} {b : Nat} {x y : Int} (h : Pair w b x y) : b < w.heap.size := h.1.lt
theorem Pair.kept {w w' : World} {b : Nat} {x y : Int} (h : Pair w b x y) (hb : Below w.heap.size w w') : Pair w' b x y := ⟨h.1.kept hb, h.2.kept hb⟩
theorem Pair.made (w : World) (x y : Int) (t : TypeId) : Pair (w.alloc (.cells #[.int .i64 x, .int .i64 y] t)) w.heap.size x y :=
 ⟨⟨by go_simp, by go_simp⟩, ⟨by go_simp, by go_simp⟩⟩
theorem Pair.alloc {w : World} {b : Nat} {x y : Int} (h : Pair w b x y) (o : Obj) : Pair (w.alloc o) b x y := h.kept (one_more o)
theorem Pair.put {w : World} {b : Nat} {x y : Int} (h : Pair w b x y) (x' y' : Int) : Pair ((w.setCell ⟨b, 0, none⟩ (.int .i64 x')).setCell ⟨b, 1, none⟩ (.int .i64 y')) b x' y' :=
 ⟨((h.1.same _).other (by simp) _), ((h.2.other (by simp) _).same _)⟩
theorem Pair.facts {w : World} {b : Nat} {x y : Int} (h : Pair w b x y) : w.cell? ⟨b, 0, none⟩ = some (.int .i64 x) ∧ w.cell? ⟨b, 1, none⟩ = some (.int .i64 y) ∧ w.frozen? ⟨b, 0, none⟩ = false ∧ w.frozen? ⟨b, 1, none⟩ = false :=
 ⟨h.1.1, h.2.1, h.1.2, h.2.2⟩
theorem below_put {w w1 : World} (hb : Below w.heap.size w w1) {b : Nat} (hB : w.heap.size ≤ b) (x y : Value) : Below w.heap.size w ((w1.setCell ⟨b, 0, none⟩ x).setCell ⟨b, 1, none⟩ y) :=
 (hb.setCell hB x).setCell hB y
end Go.Proofs.YthjapmdfcbngmaaGreat
namespace Go.Proofs.YthjapmdfcbngmaaGreat
def top (a b : Int) : Nat := a.natAbs / Nat.gcd a.natAbs b.natAbs
def bot (a b : Int) : Nat := b.natAbs / Nat.gcd a.natAbs b.natAbs
def fits (a b : Int) : Bool := decide (top a b ≤ 2147483647 ∧ bot a b ≤ 2147483647)
def mkErr (a b : Int) : Int := if b = 0 then 2 else if fits a b then 0 else 7
def mkNum (a b : Int) : Int := if b = 0 then 0 else if fits a b then (if (decide (a < 0) != decide (b < 0)) then -(top a b : Int) else top a b) else 0
def mkDen (a b : Int) : Int := if b = 0 then 0 else if fits a b then bot a b else 0
theorem mkNum_bd (a b : Int) : -2147483647 ≤ mkNum a b ∧ mkNum a b ≤ 2147483647 := by
 unfold mkNum fits
 split
 · omega
 split
 · rename_i h; simp at h; split <;> omega
 · omega
theorem mkDen_bd (a b : Int) : 0 ≤ mkDen a b ∧ mkDen a b ≤ 2147483647 := by
 unfold mkDen fits
 split
 · omega
 split
 · rename_i h; simp at h; omega
 · omega
theorem top_le (a b : Int) : top a b ≤ a.natAbs := Nat.div_le_self _ _
theorem bot_le (a b : Int) : bot a b ≤ b.natAbs := Nat.div_le_self _ _
def opNum (v : Bool) (p q : Int) : Int := if v then mkNum p q else 0
def opDen (v : Bool) (p q : Int) : Int := if v then mkDen p q else 0
def opErr (v : Bool) (p q : Int) : Int := if v then mkErr p q else 2
theorem mul_bd {x y : Int} (x1 : -2147483647 ≤ x) (x2 : x ≤ 2147483647) (y1 : -2147483647 ≤ y) (y2 : y ≤ 2147483647) :
  -4611686014132420609 ≤ x * y ∧ x * y ≤ 4611686014132420609 := by
 have h : (x * y).natAbs ≤ 2147483647 * 2147483647 := by
  rw [Int.natAbs_mul]; exact Nat.mul_le_mul (by omega) (by omega)
 omega
open Go.RowKit
theorem neg_mag (n : Int) (h1 : -9223372036854775808 ≤ n) (h2 : n < 0) : IntKind.u64.wrap (-IntKind.u64.wrap n) = (n.natAbs : Int) := by
 simp [IntKind.wrap, IntKind.bits, IntKind.signed]
 omega
theorem magnitude_any (n : Int) (w : World) (h1 : -9223372036854775808 ≤ n) (h2 : n ≤ 9223372036854775807) :
  Calls Tryz.prog 168 #[.int .i64 n] w fun e w' => e = .returned (.int .u64 (n.natAbs : Int)) ∧ w = w' := by
 by_cases hn : n < 0
 · have H := Lib.hid (neg_mag n h1 hn)
   go_enter Tryz.func168, Tryz.ntmps168
   go_wp2
   go_ret
   exact ⟨ret_int H.out, rfl⟩
 · have H := Lib.hid (show (n : Int) = (n.natAbs : Int) by omega)
   go_enter Tryz.func168, Tryz.ntmps168
   go_wp2
   go_ret
   exact ⟨ret_int H.out, rfl⟩
theorem divide_any (k : Nat) : ∀ (a b : Nat) (p : Addr) (w : World), b ≤ k → a < 18446744073709551616 → b < 18446744073709551616 →
  w.cell? p = some (.func (.func 187) #[] #[.pointer (some p)]) →
  Calls Tryz.prog 187 #[.int .u64 a, .int .u64 b, .pointer (some p)] w (Drawn (.int .u64 (Nat.gcd a b)) w) := by
 induction k with
 | zero =>
  intro a b p w hb ha hb2 hc
  obtain rfl : b = 0 := by omega
  go_enter Tryz.func187, Tryz.ntmps187
  go_wp2_with fail
  go_ret
  exact ⟨ret_int (by simp), 0, rfl⟩
 | succ k ih =>
  intro a b p w hb ha hb2 hc
  by_cases h0 : b = 0
  · subst h0
    go_enter Tryz.func187, Tryz.ntmps187
    go_wp2_with fail
    go_ret
    exact ⟨ret_int (by simp), 0, rfl⟩
  · have H0 : ((b : Int) == 0) = false := by simpa using h0
    have IH := Lib.hid ih
    clear ih
    have G := Lib.hid (Nat.gcd_rec b a)
    go_enter Tryz.func187, Tryz.ntmps187
    go_wp2_with fail
    go_quiet ((go_at_call 187; refine Calls.quiet_of (IH.out b (a % b) p _ (by have := Nat.mod_lt a (Nat.pos_of_ne_zero h0); omega) hb2 (by have := Nat.mod_lt a (Nat.pos_of_ne_zero h0); omega) ?_); simpa using hc))
    go_wp2_with fail
    go_ret
    exact ⟨ret_int (by rw [Nat.gcd_comm a b, Nat.gcd_rec b a, Nat.gcd_comm]), _, rfl⟩
theorem commonDivisor_any (a b : Nat) (w : World) (ha : a < 18446744073709551616) (hb : b < 18446744073709551616) :
  Calls Tryz.prog 167 #[.int .u64 a, .int .u64 b] w (Made (.int .u64 (Nat.gcd a b)) w) := by
 go_enter Tryz.func167, Tryz.ntmps167
 go_wp2_with fail
 refine (divide_any b a b _ _ (Nat.le_refl _) ha hb ?_).mono ?_
 · go_simp
 rintro e w' ⟨rfl, n, rfl⟩
 go_wp2_with fail
 go_ret
 exact ⟨rfl, below_drewN ((Below.refl _ _).alloc (Nat.le_refl _) _) n⟩
def vldB (n d : Int) : Bool := decide (1 ≤ d ∧ d ≤ 2147483647 ∧ -2147483647 ≤ n ∧ n ≤ 2147483647 ∧ Nat.gcd n.natAbs d.natAbs = 1)
theorem vld_no {n d : Int} (h : d < 1 ∨ 2147483647 < d ∨ n < -2147483647 ∨ 2147483647 < n) : vldB n d = false := by
 unfold vldB; simp; omega
theorem vld_yes {n d : Int} (h1 : 1 ≤ d) (h2 : d ≤ 2147483647) (h3 : -2147483647 ≤ n) (h4 : n ≤ 2147483647) : vldB n d = (((Nat.gcd n.natAbs d.natAbs : Nat) : Int) == 1) := by
 unfold vldB; rw [Bool.eq_iff_iff]; simp; omega
theorem valid_any (n d : Int) (w : World) (n1 : -9223372036854775808 ≤ n) (n2 : n ≤ 9223372036854775807) (d1 : -9223372036854775808 ≤ d) (d2 : d ≤ 9223372036854775807) :
  Calls Tryz.prog 146 #[.agg #[.int .i64 n, .int .i64 d]] w (Made (.bool (vldB n d)) w) := by
 by_cases h1 : d < 1
 · have H := Lib.hid (vld_no (n := n) (Or.inl h1))
   go_enter Tryz.func146, Tryz.ntmps146
   go_wp2_with fail
   go_ret
   exact ⟨ret_bool (by rw [H.out]), (Below.refl _ _).alloc (Nat.le_refl _) _⟩
 by_cases h2 : 2147483647 < d
 · have H := Lib.hid (vld_no (n := n) (Or.inr (Or.inl h2)))
   go_enter Tryz.func146, Tryz.ntmps146
   go_wp2_with fail
   go_ret
   exact ⟨ret_bool (by rw [H.out]), (Below.refl _ _).alloc (Nat.le_refl _) _⟩
 by_cases h3 : n < -2147483647
 · have H := Lib.hid (vld_no (d := d) (Or.inr (Or.inr (Or.inl h3))))
   go_enter Tryz.func146, Tryz.ntmps146
   go_wp2_with fail
   go_ret
   exact ⟨ret_bool (by rw [H.out]), (Below.refl _ _).alloc (Nat.le_refl _) _⟩
 by_cases h4 : 2147483647 < n
 · have H := Lib.hid (vld_no (d := d) (Or.inr (Or.inr (Or.inr h4))))
   go_enter Tryz.func146, Tryz.ntmps146
   go_wp2_with fail
   go_ret
   exact ⟨ret_bool (by rw [H.out]), (Below.refl _ _).alloc (Nat.le_refl _) _⟩
 have H := Lib.hid (vld_yes (n := n) (d := d) (by omega) (by omega) (by omega) (by omega))
 have k1 : n.natAbs < 18446744073709551616 := by omega
 have k2 : d.natAbs < 18446744073709551616 := by omega
 go_enter Tryz.func146, Tryz.ntmps146
 go_wp2_with fail
 go_region_held3 (fun w' => w'.cell? ⟨w.heap.size, 0, none⟩ = some (.int .i64 n) ∧ w'.cell? ⟨w.heap.size, 1, none⟩ = some (.int .i64 d)) (first | go_keep)
  (first | (go_at_call 168; refine (magnitude_any _ _ (by omega) (by omega)).mono ?_; rintro e w' ⟨rfl, rfl⟩) | (go_at_call 167; refine (commonDivisor_any _ _ _ (by omega) (by omega)).mono ?_; rintro e w' ⟨rfl, hb⟩; obtain ⟨hc, hf⟩ := bcell hb))
 clear hc hf
 go_wp2_with fail
 go_ret
 exact ⟨ret_bool (by rw [H.out]), (((Below.refl _ _).alloc (Nat.le_refl _) _).drew).trans (hb.mono (by simp [go_sem]))⟩
theorem make_zero (a b : Int) (w : World) (hb : b = 0) :
  Calls Tryz.prog 170 #[.int .i64 a, .int .i64 b] w (Made (.tuple #[.agg #[.int .i64 (mkNum a b), .int .i64 (mkDen a b)], .int .i64 (mkErr a b)]) w) := by
 subst hb
 have H := Lib.hid (show mkNum a 0 = 0 ∧ mkDen a 0 = 0 ∧ mkErr a 0 = 2 by simp [mkNum, mkDen, mkErr])
 go_enter Tryz.func170, Tryz.ntmps170
 go_wp2_with fail
 refine bodyPost_ret (v := .tuple #[.agg #[.int .i64 0, .int .i64 0], .int .i64 2]) (by simp [results, Tryz.results170, go_sem]) rfl ⟨?_, ?_⟩
 · rw [H.out.1, H.out.2.1, H.out.2.2]
 · exact (((Below.refl _ _).alloc (Nat.le_refl _) _))
theorem wrap_top (a b : Int) (h : a.natAbs < 18446744073709551616) : IntKind.u64.wrap ((a.natAbs : Int) / ((Nat.gcd a.natAbs b.natAbs : Nat) : Int)) = ((top a b : Nat) : Int) := by
 have h1 := top_le a b
 have h2 : (a.natAbs : Int) / ((Nat.gcd a.natAbs b.natAbs : Nat) : Int) = ((top a b : Nat) : Int) := by unfold top; simp
 rw [h2]
 simp [IntKind.wrap, IntKind.bits, IntKind.signed]
 omega
theorem wrap_bot (a b : Int) (h : b.natAbs < 18446744073709551616) : IntKind.u64.wrap ((b.natAbs : Int) / ((Nat.gcd a.natAbs b.natAbs : Nat) : Int)) = ((bot a b : Nat) : Int) := by
 have h1 := bot_le a b
 have h2 : (b.natAbs : Int) / ((Nat.gcd a.natAbs b.natAbs : Nat) : Int) = ((bot a b : Nat) : Int) := by unfold bot; simp
 rw [h2]
 simp [IntKind.wrap, IntKind.bits, IntKind.signed]
 omega
theorem mk_no (a b : Int) (h0 : b ≠ 0) (h : 2147483647 < top a b ∨ 2147483647 < bot a b) : mkNum a b = 0 ∧ mkDen a b = 0 ∧ mkErr a b = 7 := by
 have hf : fits a b = false := by unfold fits; simp; omega
 simp [mkNum, mkDen, mkErr, h0, hf]
theorem mk_yes (a b : Int) (h0 : b ≠ 0) (h1 : ¬ 2147483647 < top a b) (h2 : ¬ 2147483647 < bot a b) : mkNum a b = (if (decide (a < 0) != decide (b < 0)) then -(top a b : Int) else top a b) ∧ mkDen a b = bot a b ∧ mkErr a b = 0 := by
 have hf : fits a b = true := by unfold fits; simp; omega
 simp [mkNum, mkDen, mkErr, h0, hf]
theorem make_some (a b : Int) (w : World) (a1 : -9223372036854775808 ≤ a) (a2 : a ≤ 9223372036854775807) (b1 : -9223372036854775808 ≤ b) (b2 : b ≤ 9223372036854775807) (h0 : b ≠ 0) :
  Calls Tryz.prog 170 #[.int .i64 a, .int .i64 b] w (Made (.tuple #[.agg #[.int .i64 (mkNum a b), .int .i64 (mkDen a b)], .int .i64 (mkErr a b)]) w) := by
 have B0 : ((b : Int) == 0) = false := by simpa using h0
 have k1 : a.natAbs < 18446744073709551616 := by omega
 have k2 : b.natAbs < 18446744073709551616 := by omega
 have gp : 0 < Nat.gcd a.natAbs b.natAbs := Nat.gcd_pos_of_pos_right _ (by omega)
 have gB : (((Nat.gcd a.natAbs b.natAbs : Nat) : Int) == 0) = false := by simp; omega
 have gl : Nat.gcd a.natAbs b.natAbs ≤ b.natAbs := Nat.gcd_le_right _ (by omega)
 go_enter Tryz.func170, Tryz.ntmps170
 go_wp2_with fail
 refine (magnitude_any _ _ (by omega) (by omega)).mono ?_
 rintro e w' ⟨rfl, rfl⟩
 go_wp2_with fail
 refine (magnitude_any _ _ (by omega) (by omega)).mono ?_
 rintro e w' ⟨rfl, rfl⟩
 go_wp2_with fail
 refine (commonDivisor_any _ _ _ (by omega) (by omega)).mono ?_
 rintro e w1 ⟨rfl, hb⟩
 obtain ⟨hc, hf⟩ := bcell hb
 go_wp2_with fail
 go_quiet (fail)
 rw [wrap_top a b k1, wrap_bot a b k2]
 by_cases f1 : 2147483647 < top a b
 · have HV := Lib.hid (mk_no a b h0 (Or.inl f1))
   go_wp2_with fail
   refine bodyPost_ret (v := .tuple #[.agg #[.int .i64 0, .int .i64 0], .int .i64 7]) (by simp [results, Tryz.results170, go_sem, hc]) rfl ⟨?_, two_below (past_one hb) _ _ _⟩
   rw [HV.out.1, HV.out.2.1, HV.out.2.2]
 by_cases f2 : 2147483647 < bot a b
 · have HV := Lib.hid (mk_no a b h0 (Or.inr f2))
   go_wp2_with fail
   refine bodyPost_ret (v := .tuple #[.agg #[.int .i64 0, .int .i64 0], .int .i64 7]) (by simp [results, Tryz.results170, go_sem, hc]) rfl ⟨?_, two_below (past_one hb) _ _ _⟩
   rw [HV.out.1, HV.out.2.1, HV.out.2.2]
 have hv := mk_yes a b h0 f1 f2
 by_cases s1 : a < 0
 · by_cases s2 : b < 0
   · have HV := Lib.hid (show mkNum a b = top a b ∧ mkDen a b = bot a b ∧ mkErr a b = 0 by simpa [s1, s2] using hv)
     clear hv
     go_wp2_with fail
     refine bodyPost_ret (v := .tuple #[.agg #[.int .i64 (top a b), .int .i64 (bot a b)], .int .i64 0]) (by simp [results, Tryz.results170, go_sem, hc]) rfl ⟨?_, two_below (past_one hb) _ _ _⟩
     rw [HV.out.1, HV.out.2.1, HV.out.2.2]
   · have HV := Lib.hid (show mkNum a b = -(top a b : Int) ∧ mkDen a b = bot a b ∧ mkErr a b = 0 by simpa [s1, s2] using hv)
     clear hv
     go_wp2_with fail
     refine bodyPost_ret (v := .tuple #[.agg #[.int .i64 (-(top a b : Int)), .int .i64 (bot a b)], .int .i64 0]) (by simp [results, Tryz.results170, go_sem, hc]) rfl ⟨?_, two_below (past_one hb) _ _ _⟩
     rw [HV.out.1, HV.out.2.1, HV.out.2.2]
 · by_cases s2 : b < 0
   · have HV := Lib.hid (show mkNum a b = -(top a b : Int) ∧ mkDen a b = bot a b ∧ mkErr a b = 0 by simpa [s1, s2] using hv)
     clear hv
     go_wp2_with fail
     refine bodyPost_ret (v := .tuple #[.agg #[.int .i64 (-(top a b : Int)), .int .i64 (bot a b)], .int .i64 0]) (by simp [results, Tryz.results170, go_sem, hc]) rfl ⟨?_, two_below (past_one hb) _ _ _⟩
     rw [HV.out.1, HV.out.2.1, HV.out.2.2]
   · have HV := Lib.hid (show mkNum a b = top a b ∧ mkDen a b = bot a b ∧ mkErr a b = 0 by simpa [s1, s2] using hv)
     clear hv
     go_wp2_with fail
     refine bodyPost_ret (v := .tuple #[.agg #[.int .i64 (top a b), .int .i64 (bot a b)], .int .i64 0]) (by simp [results, Tryz.results170, go_sem, hc]) rfl ⟨?_, two_below (past_one hb) _ _ _⟩
     rw [HV.out.1, HV.out.2.1, HV.out.2.2]
theorem make_any (a b : Int) (w : World) (a1 : -9223372036854775808 ≤ a) (a2 : a ≤ 9223372036854775807) (b1 : -9223372036854775808 ≤ b) (b2 : b ≤ 9223372036854775807) :
  Calls Tryz.prog 170 #[.int .i64 a, .int .i64 b] w (Made (.tuple #[.agg #[.int .i64 (mkNum a b), .int .i64 (mkDen a b)], .int .i64 (mkErr a b)]) w) := by
 by_cases h : b = 0
 · exact make_zero a b w h
 · exact make_some a b w a1 a2 b1 b2 h
theorem valid_as {n d : Int} {b : Bool} (w : World) (hn : I64 n) (hd : I64 d) (h : vldB n d = b) : Calls Tryz.prog 146 #[.agg #[.int .i64 n, .int .i64 d]] w (Made (.bool b) w) := by
 rw [← h]; exact valid_any n d w hn.1 hn.2 hd.1 hd.2
theorem vld_bd {n d : Int} (h : vldB n d = true) : 1 ≤ d ∧ d ≤ 2147483647 ∧ -2147483647 ≤ n ∧ n ≤ 2147483647 := by
 unfold vldB at h; simp at h; omega
theorem size_any (n : Int) (w : World) (h1 : -9223372036854775808 ≤ n) (h2 : n ≤ 9223372036854775807) :
  Calls Tryz.prog 128 #[.int .i64 n] w fun e w' => e = .returned (.int .u64 (n.natAbs : Int)) ∧ w' = w := by
 by_cases hn : n < 0
 · have H := Lib.hid (show -(n + 1) + 1 = (n.natAbs : Int) by omega)
   go_enter Tryz.func128, Tryz.ntmps128
   go_wp2
   go_ret
   exact ⟨ret_int H.out, rfl⟩
 · have H := Lib.hid (show (n : Int) = (n.natAbs : Int) by omega)
   go_enter Tryz.func128, Tryz.ntmps128
   go_wp2
   go_ret
   exact ⟨ret_int H.out, rfl⟩
theorem divisor_any (a b : Nat) (w : World) (ha : a < 18446744073709551616) (hb : b < 18446744073709551616) :
  Calls Tryz.prog 127 #[.int .u64 a, .int .u64 b] w (Drawn (.int .u64 (Nat.gcd a b)) w) := by
 go_enter Tryz.func127, Tryz.ntmps127
 go_wp2
 go_loopw [0, 1] (fun x y wr => ∃ p q n : Nat, p < 18446744073709551616 ∧ q < 18446744073709551616 ∧ x = .int .u64 p ∧ y = .int .u64 q ∧ Hid (Nat.gcd p q = Nat.gcd a b) ∧ Hid (wr = w.drewN n)) (fun _ y _ => (intOf y).toNat)
 case atStart => exact ⟨a, b, 0, ha, hb, rfl, rfl, Lib.hid rfl, Lib.hid rfl⟩
 case round =>
  obtain ⟨p, q, n, hp, hq, rfl, rfl, hg, hw⟩ := hrel
  by_cases hz : q = 0
  · subst hz
    go_wp2
    go_ret
    exact ⟨ret_int (by have := hg.out; simp at this; simpa using congrArg (fun k : Nat => (k : Int)) this), n, hw.out⟩
  · have Hz : ((q : Int) == 0) = false := by simpa using hz
    have Hz2 : ((q : Int) != 0) = true := by simpa using hz
    go_wp2
    go_quiet (fail)
    go_wp2
    go_roundw
    case rel => exact ⟨q, p % q, n + nq, hq, Nat.lt_of_lt_of_le (Nat.mod_lt _ (Nat.pos_of_ne_zero hz)) (by omega), rfl, rfl, Lib.hid (by rw [← hg.out, Nat.gcd_comm p q, Nat.gcd_rec q p, Nat.gcd_comm]), Lib.hid (by rw [hw.out, World.drewN_drewN])⟩
    case measure => have := Nat.mod_lt p (Nat.pos_of_ne_zero hz); simp [intOf]; omega
theorem refValid_any (n d : Int) (w : World) (n1 : -9223372036854775808 ≤ n) (n2 : n ≤ 9223372036854775807) (d1 : -9223372036854775808 ≤ d) (d2 : d ≤ 9223372036854775807) :
  Calls Tryz.prog 79 #[.agg #[.int .i64 n, .int .i64 d]] w (Made (.bool (vldB n d)) w) := by
 by_cases h1 : d < 1
 · have H := Lib.hid (vld_no (n := n) (d := d) (Or.inl h1))
   have D : decide ((1 : Int) ≤ d) = false := by simp; omega
   go_enter Tryz.func79, Tryz.ntmps79
   go_wp2_with fail
   go_quiet (fail)
   go_wp2_with fail
   go_ret
   exact ⟨ret_bool (by rw [H.out]), below_drewN ((Below.refl _ _).alloc (Nat.le_refl _) _) _⟩
 by_cases h2 : 2147483647 < d
 · have H := Lib.hid (vld_no (n := n) (d := d) (Or.inr (Or.inl h2)))
   have D : decide (d ≤ (2147483647 : Int)) = false := by simp; omega
   go_enter Tryz.func79, Tryz.ntmps79
   go_wp2_with fail
   go_quiet (fail)
   go_wp2_with fail
   go_ret
   exact ⟨ret_bool (by rw [H.out]), below_drewN ((Below.refl _ _).alloc (Nat.le_refl _) _) _⟩
 by_cases h3 : n < -2147483647
 · have H := Lib.hid (vld_no (n := n) (d := d) (Or.inr (Or.inr (Or.inl h3))))
   have D : decide ((-2147483647 : Int) ≤ n) = false := by simp; omega
   go_enter Tryz.func79, Tryz.ntmps79
   go_wp2_with fail
   go_quiet (fail)
   go_wp2_with fail
   go_ret
   exact ⟨ret_bool (by rw [H.out]), below_drewN ((Below.refl _ _).alloc (Nat.le_refl _) _) _⟩
 by_cases h4 : 2147483647 < n
 · have H := Lib.hid (vld_no (n := n) (d := d) (Or.inr (Or.inr (Or.inr h4))))
   have D : decide (n ≤ (2147483647 : Int)) = false := by simp; omega
   go_enter Tryz.func79, Tryz.ntmps79
   go_wp2_with fail
   go_quiet (fail)
   go_wp2_with fail
   go_ret
   exact ⟨ret_bool (by rw [H.out]), below_drewN ((Below.refl _ _).alloc (Nat.le_refl _) _) _⟩
 have H := Lib.hid (vld_yes (n := n) (d := d) (by omega) (by omega) (by omega) (by omega))
 have k1 : n.natAbs < 18446744073709551616 := by omega
 have k2 : d.natAbs < 18446744073709551616 := by omega
 go_enter Tryz.func79, Tryz.ntmps79
 go_wp2_with fail
 go_quiet (first | (go_at_call 128; exact Calls.quiet_of_same (size_any _ _ (by omega) (by omega))) | (go_at_call 127; exact Calls.quiet_of (divisor_any _ _ _ (by omega) (by omega))))
 go_wp2_with fail
 go_ret
 exact ⟨ret_bool (by rw [H.out]), below_drewN ((Below.refl _ _).alloc (Nat.le_refl _) _) _⟩
theorem refMake_zero (a b : Int) (w : World) (hb : b = 0) :
  Calls Tryz.prog 129 #[.int .i64 a, .int .i64 b] w (Made (.tuple #[.agg #[.int .i64 (mkNum a b), .int .i64 (mkDen a b)], .int .i64 (mkErr a b)]) w) := by
 subst hb
 have H := Lib.hid (show mkNum a 0 = 0 ∧ mkDen a 0 = 0 ∧ mkErr a 0 = 2 by simp [mkNum, mkDen, mkErr])
 go_enter Tryz.func129, Tryz.ntmps129
 go_wp2_with fail
 refine bodyPost_ret (v := .tuple #[.agg #[.int .i64 0, .int .i64 0], .int .i64 2]) (by simp [results, Tryz.results129, go_sem]) rfl ⟨?_, ?_⟩
 · rw [H.out.1, H.out.2.1, H.out.2.2]
 · exact (((Below.refl _ _).alloc (Nat.le_refl _) _))
theorem refMake_some (a b : Int) (w : World) (a1 : -9223372036854775808 ≤ a) (a2 : a ≤ 9223372036854775807) (b1 : -9223372036854775808 ≤ b) (b2 : b ≤ 9223372036854775807) (h0 : b ≠ 0) :
  Calls Tryz.prog 129 #[.int .i64 a, .int .i64 b] w (Made (.tuple #[.agg #[.int .i64 (mkNum a b), .int .i64 (mkDen a b)], .int .i64 (mkErr a b)]) w) := by
 have B0 : ((b : Int) == 0) = false := by simpa using h0
 have k1 : a.natAbs < 18446744073709551616 := by omega
 have k2 : b.natAbs < 18446744073709551616 := by omega
 have gp : 0 < Nat.gcd a.natAbs b.natAbs := Nat.gcd_pos_of_pos_right _ (by omega)
 have gB : (((Nat.gcd a.natAbs b.natAbs : Nat) : Int) == 0) = false := by simp; omega
 have gl : Nat.gcd a.natAbs b.natAbs ≤ b.natAbs := Nat.gcd_le_right _ (by omega)
 go_enter Tryz.func129, Tryz.ntmps129
 go_wp2_with fail
 refine (size_any _ _ (by omega) (by omega)).mono ?_
 rintro e w' ⟨rfl, rfl⟩
 go_wp2_with fail
 refine (size_any _ _ (by omega) (by omega)).mono ?_
 rintro e w' ⟨rfl, rfl⟩
 go_wp2_with fail
 refine (divisor_any _ _ _ (by omega) (by omega)).mono ?_
 rintro e w1 ⟨rfl, n1, rfl⟩
 go_wp2_with fail
 go_quiet ((go_at_call 128; exact (size_any _ _ (by omega) (by omega)).mono (fun e w' h => ⟨h.1, _, h.2⟩)))
 rw [wrap_top a b k1, wrap_bot a b k2]
 by_cases f1 : 2147483647 < top a b
 · have HV := Lib.hid (mk_no a b h0 (Or.inl f1))
   go_wp2_with fail
   refine bodyPost_ret (v := .tuple #[.agg #[.int .i64 0, .int .i64 0], .int .i64 7]) (by simp [results, Tryz.results129, go_sem]) rfl ⟨?_, ?_⟩
   · rw [HV.out.1, HV.out.2.1, HV.out.2.2]
   · repeat (first | exact Below.refl _ _ | refine Below.alloc ?_ (by simp) _ | refine Below.setCell ?_ (by simp) _ | refine below_drewN ?_ _)
 by_cases f2 : 2147483647 < bot a b
 · have HV := Lib.hid (mk_no a b h0 (Or.inr f2))
   go_wp2_with fail
   refine bodyPost_ret (v := .tuple #[.agg #[.int .i64 0, .int .i64 0], .int .i64 7]) (by simp [results, Tryz.results129, go_sem]) rfl ⟨?_, ?_⟩
   · rw [HV.out.1, HV.out.2.1, HV.out.2.2]
   · repeat (first | exact Below.refl _ _ | refine Below.alloc ?_ (by simp) _ | refine Below.setCell ?_ (by simp) _ | refine below_drewN ?_ _)
 have hv := mk_yes a b h0 f1 f2
 by_cases s1 : a < 0
 · by_cases s2 : b < 0
   · have HV := Lib.hid (show mkNum a b = top a b ∧ mkDen a b = bot a b ∧ mkErr a b = 0 by simpa [s1, s2] using hv)
     clear hv
     go_wp2_with fail
     refine bodyPost_ret (v := .tuple #[.agg #[.int .i64 (top a b), .int .i64 (bot a b)], .int .i64 0]) (by simp [results, Tryz.results129, go_sem]) rfl ⟨?_, ?_⟩
     · rw [HV.out.1, HV.out.2.1, HV.out.2.2]
     · repeat (first | exact Below.refl _ _ | refine Below.alloc ?_ (by simp) _ | refine Below.setCell ?_ (by simp) _ | refine below_drewN ?_ _)
   · have HV := Lib.hid (show mkNum a b = -(top a b : Int) ∧ mkDen a b = bot a b ∧ mkErr a b = 0 by simpa [s1, s2] using hv)
     clear hv
     go_wp2_with fail
     refine bodyPost_ret (v := .tuple #[.agg #[.int .i64 (-(top a b : Int)), .int .i64 (bot a b)], .int .i64 0]) (by simp [results, Tryz.results129, go_sem]) rfl ⟨?_, ?_⟩
     · rw [HV.out.1, HV.out.2.1, HV.out.2.2]
     · repeat (first | exact Below.refl _ _ | refine Below.alloc ?_ (by simp) _ | refine Below.setCell ?_ (by simp) _ | refine below_drewN ?_ _)
 · by_cases s2 : b < 0
   · have HV := Lib.hid (show mkNum a b = -(top a b : Int) ∧ mkDen a b = bot a b ∧ mkErr a b = 0 by simpa [s1, s2] using hv)
     clear hv
     go_wp2_with fail
     refine bodyPost_ret (v := .tuple #[.agg #[.int .i64 (-(top a b : Int)), .int .i64 (bot a b)], .int .i64 0]) (by simp [results, Tryz.results129, go_sem]) rfl ⟨?_, ?_⟩
     · rw [HV.out.1, HV.out.2.1, HV.out.2.2]
     · repeat (first | exact Below.refl _ _ | refine Below.alloc ?_ (by simp) _ | refine Below.setCell ?_ (by simp) _ | refine below_drewN ?_ _)
   · have HV := Lib.hid (show mkNum a b = top a b ∧ mkDen a b = bot a b ∧ mkErr a b = 0 by simpa [s1, s2] using hv)
     clear hv
     go_wp2_with fail
     refine bodyPost_ret (v := .tuple #[.agg #[.int .i64 (top a b), .int .i64 (bot a b)], .int .i64 0]) (by simp [results, Tryz.results129, go_sem]) rfl ⟨?_, ?_⟩
     · rw [HV.out.1, HV.out.2.1, HV.out.2.2]
     · repeat (first | exact Below.refl _ _ | refine Below.alloc ?_ (by simp) _ | refine Below.setCell ?_ (by simp) _ | refine below_drewN ?_ _)
theorem refMake_any (a b : Int) (w : World) (a1 : -9223372036854775808 ≤ a) (a2 : a ≤ 9223372036854775807) (b1 : -9223372036854775808 ≤ b) (b2 : b ≤ 9223372036854775807) :
  Calls Tryz.prog 129 #[.int .i64 a, .int .i64 b] w (Made (.tuple #[.agg #[.int .i64 (mkNum a b), .int .i64 (mkDen a b)], .int .i64 (mkErr a b)]) w) := by
 by_cases h : b = 0
 · exact refMake_zero a b w h
 · exact refMake_some a b w a1 a2 b1 b2 h
theorem refValid_as {n d : Int} {b : Bool} (w : World) (hn : I64 n) (hd : I64 d) (h : vldB n d = b) : Calls Tryz.prog 79 #[.agg #[.int .i64 n, .int .i64 d]] w (Made (.bool b) w) := by
 rw [← h]; exact refValid_any n d w hn.1 hn.2 hd.1 hd.2
theorem sub_any (n d m c : Int) (w : World) (hn : I64 n) (hd : I64 d) (hm : I64 m) (hc : I64 c) :
  Calls Tryz.prog 149 #[.agg #[.int .i64 n, .int .i64 d], .agg #[.int .i64 m, .int .i64 c]] w
   (Made (.tuple #[.agg #[.int .i64 (opNum (vldB n d && vldB m c) (n * c - m * d) (d * c)), .int .i64 (opDen (vldB n d && vldB m c) (n * c - m * d) (d * c))], .int .i64 (opErr (vldB n d && vldB m c) (n * c - m * d) (d * c))]) w) := by
 by_cases v1 : vldB n d = true
 · by_cases v2 : vldB m c = true
   · have V1 := Lib.hid v1
     have V2 := Lib.hid v2
     obtain ⟨x1, x2, x3, x4⟩ := vld_bd v1
     obtain ⟨y1, y2, y3, y4⟩ := vld_bd v2
     have HV := Lib.hid (show opNum (vldB n d && vldB m c) (n * c - m * d) (d * c) = mkNum (n * c - m * d) (d * c) ∧ opDen (vldB n d && vldB m c) (n * c - m * d) (d * c) = mkDen (n * c - m * d) (d * c) ∧ opErr (vldB n d && vldB m c) (n * c - m * d) (d * c) = mkErr (n * c - m * d) (d * c) by simp [opNum, opDen, opErr, v1, v2])
     clear v1 v2
     obtain ⟨p1a, p1b⟩ := mul_bd x3 x4 (show -2147483647 ≤ c by omega) y2
     obtain ⟨p2a, p2b⟩ := mul_bd y3 y4 (show -2147483647 ≤ d by omega) x2
     obtain ⟨p3a, p3b⟩ := mul_bd (show -2147483647 ≤ d by omega) x2 (show -2147483647 ≤ c by omega) y2
     obtain ⟨p4a, p4b⟩ := mul_bd x3 x4 y3 y4
     obtain ⟨p5a, p5b⟩ := mul_bd (show -2147483647 ≤ d by omega) x2 y3 y4
     go_enter Tryz.func149, Tryz.ntmps149
     go_wp2_with fail
     refine (valid_as _ hn hd V1.out).mono ?_
     rintro e w1 ⟨rfl, hb⟩
     obtain ⟨hx, hf⟩ := bcell hb
     go_wp2_with fail
     refine (valid_as _ hm hc V2.out).mono ?_
     rintro e w2 ⟨rfl, hb2⟩
     replace hb2 := below_on hb hb2
     clear hb hx hf
     obtain ⟨hx, hf⟩ := bcell hb2
     go_wp2_with fail
     refine (make_any _ _ _ (by omega) (by omega) (by omega) (by omega)).mono ?_
     rintro e w3 ⟨rfl, hb3⟩
     replace hb3 := below_on hb2 hb3
     clear hb2 hx hf
     obtain ⟨hx, hf⟩ := bcell hb3
     go_wp2_with fail
     refine bodyPost_ret (v := .tuple #[.agg #[.int .i64 (mkNum (n * c - m * d) (d * c)), .int .i64 (mkDen (n * c - m * d) (d * c))], .int .i64 (mkErr (n * c - m * d) (d * c))]) (by simp [results, Tryz.results149, go_sem, hx]) rfl ⟨?_, ?_⟩
     · rw [HV.out.1, HV.out.2.1, HV.out.2.2]
     · exact ((past_three hb3).setCell (by simp; omega) _).setCell (by simp; omega) _
   · have V1 := Lib.hid v1
     have v2' : vldB m c = false := by simpa using v2
     have V2 := Lib.hid v2'
     have HV := Lib.hid (show opNum (vldB n d && vldB m c) (n * c - m * d) (d * c) = 0 ∧ opDen (vldB n d && vldB m c) (n * c - m * d) (d * c) = 0 ∧ opErr (vldB n d && vldB m c) (n * c - m * d) (d * c) = 2 by simp [opNum, opDen, opErr, v1, v2'])
     clear v1 v2 v2'
     go_enter Tryz.func149, Tryz.ntmps149
     go_wp2_with fail
     refine (valid_as _ hn hd V1.out).mono ?_
     rintro e w1 ⟨rfl, hb⟩
     obtain ⟨hx, hf⟩ := bcell hb
     go_wp2_with fail
     refine (valid_as _ hm hc V2.out).mono ?_
     rintro e w2 ⟨rfl, hb2⟩
     replace hb2 := below_on hb hb2
     clear hb hx hf
     obtain ⟨hx, hf⟩ := bcell hb2
     go_wp2_with fail
     refine bodyPost_ret (v := .tuple #[.agg #[.int .i64 0, .int .i64 0], .int .i64 2]) (by simp [results, Tryz.results149, go_sem, hx]) rfl ⟨?_, ?_⟩
     · rw [HV.out.1, HV.out.2.1, HV.out.2.2]
     · exact ((past_three hb2).setCell (by simp; omega) _).setCell (by simp; omega) _
 · have v1' : vldB n d = false := by simpa using v1
   have V1 := Lib.hid v1'
   have HV := Lib.hid (show opNum (vldB n d && vldB m c) (n * c - m * d) (d * c) = 0 ∧ opDen (vldB n d && vldB m c) (n * c - m * d) (d * c) = 0 ∧ opErr (vldB n d && vldB m c) (n * c - m * d) (d * c) = 2 by simp [opNum, opDen, opErr, v1'])
   clear v1 v1'
   go_enter Tryz.func149, Tryz.ntmps149
   go_wp2_with fail
   refine (valid_as _ hn hd V1.out).mono ?_
   rintro e w1 ⟨rfl, hb⟩
   obtain ⟨hx, hf⟩ := bcell hb
   go_wp2_with fail
   refine bodyPost_ret (v := .tuple #[.agg #[.int .i64 0, .int .i64 0], .int .i64 2]) (by simp [results, Tryz.results149, go_sem, hx]) rfl ⟨?_, ?_⟩
   · rw [HV.out.1, HV.out.2.1, HV.out.2.2]
   · exact ((past_three hb).setCell (by simp; omega) _).setCell (by simp; omega) _
theorem refAdd_any (n d m c : Int) (w : World) (hn : I64 n) (hd : I64 d) (hm : I64 m) (hc : I64 c) :
  Calls Tryz.prog 80 #[.agg #[.int .i64 n, .int .i64 d], .agg #[.int .i64 m, .int .i64 c]] w
   (Made (.tuple #[.agg #[.int .i64 (opNum (vldB n d && vldB m c) (n * c + m * d) (d * c)), .int .i64 (opDen (vldB n d && vldB m c) (n * c + m * d) (d * c))], .int .i64 (opErr (vldB n d && vldB m c) (n * c + m * d) (d * c))]) w) := by
 by_cases v1 : vldB n d = true
 · by_cases v2 : vldB m c = true
   · have V1 := Lib.hid v1
     have V2 := Lib.hid v2
     obtain ⟨x1, x2, x3, x4⟩ := vld_bd v1
     obtain ⟨y1, y2, y3, y4⟩ := vld_bd v2
     have HV := Lib.hid (show opNum (vldB n d && vldB m c) (n * c + m * d) (d * c) = mkNum (n * c + m * d) (d * c) ∧ opDen (vldB n d && vldB m c) (n * c + m * d) (d * c) = mkDen (n * c + m * d) (d * c) ∧ opErr (vldB n d && vldB m c) (n * c + m * d) (d * c) = mkErr (n * c + m * d) (d * c) by simp [opNum, opDen, opErr, v1, v2])
     clear v1 v2
     obtain ⟨p1a, p1b⟩ := mul_bd x3 x4 (show -2147483647 ≤ c by omega) y2
     obtain ⟨p2a, p2b⟩ := mul_bd y3 y4 (show -2147483647 ≤ d by omega) x2
     obtain ⟨p3a, p3b⟩ := mul_bd (show -2147483647 ≤ d by omega) x2 (show -2147483647 ≤ c by omega) y2
     obtain ⟨p4a, p4b⟩ := mul_bd x3 x4 y3 y4
     obtain ⟨p5a, p5b⟩ := mul_bd (show -2147483647 ≤ d by omega) x2 y3 y4
     go_enter Tryz.func80, Tryz.ntmps80
     go_wp2_with fail
     refine (refValid_as _ hn hd V1.out).mono ?_
     rintro e w1 ⟨rfl, hb⟩
     obtain ⟨hx, hf⟩ := bcell hb
     go_wp2_with fail
     refine (refValid_as _ hm hc V2.out).mono ?_
     rintro e w2 ⟨rfl, hb2⟩
     replace hb2 := below_on hb hb2
     clear hb hx hf
     obtain ⟨hx, hf⟩ := bcell hb2
     go_wp2_with fail
     refine (refMake_any _ _ _ (by omega) (by omega) (by omega) (by omega)).mono ?_
     rintro e w3 ⟨rfl, hb3⟩
     replace hb3 := below_on hb2 hb3
     clear hb2 hx hf
     obtain ⟨hx, hf⟩ := bcell hb3
     go_wp2_with fail
     refine bodyPost_ret (v := .tuple #[.agg #[.int .i64 (mkNum (n * c + m * d) (d * c)), .int .i64 (mkDen (n * c + m * d) (d * c))], .int .i64 (mkErr (n * c + m * d) (d * c))]) (by simp [results, Tryz.results80, go_sem, hx]) rfl ⟨?_, ?_⟩
     · rw [HV.out.1, HV.out.2.1, HV.out.2.2]
     · exact ((past_three hb3).setCell (by simp; omega) _).setCell (by simp; omega) _
   · have V1 := Lib.hid v1
     have v2' : vldB m c = false := by simpa using v2
     have V2 := Lib.hid v2'
     have HV := Lib.hid (show opNum (vldB n d && vldB m c) (n * c + m * d) (d * c) = 0 ∧ opDen (vldB n d && vldB m c) (n * c + m * d) (d * c) = 0 ∧ opErr (vldB n d && vldB m c) (n * c + m * d) (d * c) = 2 by simp [opNum, opDen, opErr, v1, v2'])
     clear v1 v2 v2'
     go_enter Tryz.func80, Tryz.ntmps80
     go_wp2_with fail
     refine (refValid_as _ hn hd V1.out).mono ?_
     rintro e w1 ⟨rfl, hb⟩
     obtain ⟨hx, hf⟩ := bcell hb
     go_wp2_with fail
     refine (refValid_as _ hm hc V2.out).mono ?_
     rintro e w2 ⟨rfl, hb2⟩
     replace hb2 := below_on hb hb2
     clear hb hx hf
     obtain ⟨hx, hf⟩ := bcell hb2
     go_wp2_with fail
     refine bodyPost_ret (v := .tuple #[.agg #[.int .i64 0, .int .i64 0], .int .i64 2]) (by simp [results, Tryz.results80, go_sem, hx]) rfl ⟨?_, ?_⟩
     · rw [HV.out.1, HV.out.2.1, HV.out.2.2]
     · exact ((past_three hb2).setCell (by simp; omega) _).setCell (by simp; omega) _
 · have v1' : vldB n d = false := by simpa using v1
   have V1 := Lib.hid v1'
   have HV := Lib.hid (show opNum (vldB n d && vldB m c) (n * c + m * d) (d * c) = 0 ∧ opDen (vldB n d && vldB m c) (n * c + m * d) (d * c) = 0 ∧ opErr (vldB n d && vldB m c) (n * c + m * d) (d * c) = 2 by simp [opNum, opDen, opErr, v1'])
   clear v1 v1'
   go_enter Tryz.func80, Tryz.ntmps80
   go_wp2_with fail
   refine (refValid_as _ hn hd V1.out).mono ?_
   rintro e w1 ⟨rfl, hb⟩
   obtain ⟨hx, hf⟩ := bcell hb
   go_wp2_with fail
   refine bodyPost_ret (v := .tuple #[.agg #[.int .i64 0, .int .i64 0], .int .i64 2]) (by simp [results, Tryz.results80, go_sem, hx]) rfl ⟨?_, ?_⟩
   · rw [HV.out.1, HV.out.2.1, HV.out.2.2]
   · exact ((past_three hb).setCell (by simp; omega) _).setCell (by simp; omega) _
end Go.Proofs.YthjapmdfcbngmaaGreat
