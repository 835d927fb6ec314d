/- A part. -/
import Derived.Test.YthjapmdfcbngmaaGreatWr8
import Derived.Test.YthjapmdfcbngmaaGreatWr14
namespace Go.Proofs.YthjapmdfcbngmaaGreat
set_option maxHeartbeats 3200000
open Go.RowKit
theorem miat_any (n i j : Nat) (l : List Int) (a : Addr) (cap : Nat) (w : World) (hn : n ≤ 10) (hi : i ≤ n) (hj : j ≤ n) (hl : l.length = (n + 1) * (n + 1)) (h : Rd w a l) :
  Calls Tryz.prog 177 #[.agg #[.int .i64 n, .slice (some a) l.length cap], .int .i64 i, .int .i64 j] w (Made (.int .i64 (Zo.At n l i j)) w) := by
 have t1 := Zo.ix_lt hi hj
 have t2 : (i : Int) * ((n : Int) + 1) + (j : Int) < (l.length : Int) := by rw [hl]; exact_mod_cast t1
 have t3 : (i : Int) * ((n : Int) + 1) ≤ 110 ∧ 0 ≤ (i : Int) * ((n : Int) + 1) := by
  have : i * (n + 1) ≤ 10 * 11 := Nat.mul_le_mul (by omega) (by omega)
  constructor
  · exact_mod_cast this
  · exact_mod_cast Nat.zero_le _
 have hc : ∀ o : Obj, (w.alloc o).cell? (a.add (i * (n + 1) + j)) = some (.int .i64 (Zo.At n l i j)) := fun o => kept (one_more o) (h _ (by rw [hl]; exact t1))
 clear h t1 hl
 go_enter Tryz.func177, Tryz.ntmps177
 go_wp2_with fail
 go_ret
 exact ⟨rfl, one_more _⟩
def bdB (n : Nat) (l : List Int) (i j : Nat) : Bool := decide (Zo.smW (Zo.At n l i j) (Zo.At n l j i) = 1)
def suB (a b c : Int) : Bool := decide (adE a b = 0) && decide (adL a b = c)
theorem areb_any (n i j : Nat) (l : List Int) (a : Addr) (cap : Nat) (w : World) (hn : n ≤ 10) (hi : i ≤ n) (hj : j ≤ n) (hl : l.length = (n + 1) * (n + 1)) (hv : ∀ i j, i ≤ n → j ≤ n → I64 (Zo.At n l i j)) (h : Rd w a l) :
  Calls Tryz.prog 178 #[.agg #[.int .i64 n, .slice (some a) l.length cap], .int .i64 i, .int .i64 j] w (Made (.bool (suB (Zo.At n l i j) (Zo.At n l j i) 1)) w) := by
 obtain ⟨len, hlen⟩ : ∃ len, len = l.length := ⟨_, rfl⟩
 obtain ⟨w0, hw0⟩ : ∃ w0, w0 = w.alloc (.cells #[.int .i64 n, .slice (some a) len cap] 36) := ⟨_, rfl⟩
 have bx : Two w0 w.heap.size (.int .i64 n) (.slice (some a) len cap) := by rw [hw0]; exact Two.made _ _ _ _
 have e0 : Below w.heap.size w w0 := by rw [hw0]; exact one_more _
 have AT := Lib.hid (show ∀ (i j : Nat) (W : World), i ≤ n → j ≤ n → Below w.heap.size w W → Calls Tryz.prog 177 #[.agg #[.int .i64 n, .slice (some a) len cap], .int .i64 i, .int .i64 j] W (Made (.int .i64 (Zo.At n l i j)) W) from fun i j W hi hj h' => by have := miat_any n i j l a cap W hn hi hj hl (h.on h'); rw [← hlen] at this; exact this)
 have KS := Lib.hid (show ∀ W : World, Below w0.heap.size w0 W → (W.cell? ⟨w.heap.size, 0, none⟩ = some (.int .i64 n) ∧ W.cell? ⟨w.heap.size, 1, none⟩ = some (.slice (some a) len cap)) from
  fun W h => ⟨(bx.kept h).facts.1, (bx.kept h).facts.2.1⟩)
 have A1 := Lib.hid (fun W h => AT.out i j W hi hj h)
 have A2 := Lib.hid (fun W h => AT.out j i W hj hi h)
 have HB := Lib.hid (show suB (Zo.At n l i j) (Zo.At n l j i) 1 = (decide (adE (Zo.At n l i j) (Zo.At n l j i) = 0) && decide (adL (Zo.At n l i j) (Zo.At n l j i) = 1)) from rfl)
 have E0 := Lib.hid e0
 have HW0 := Lib.hid hw0
 have V1 := hv i j hi hj
 have V2 := hv j i hj hi
 rw [← hlen]
 clear AT hv
 generalize suB (Zo.At n l i j) (Zo.At n l j i) 1 = bb at *
 generalize Zo.At n l i j = x at *
 generalize Zo.At n l j i = y at *
 have SM := Lib.hid (fun W => limAdd_any x y W V1 V2)
 generalize adL x y = s at *
 generalize adE x y = er at *
 clear hlen hl h bx e0 hw0 V1 V2
 go_enter Tryz.func178, Tryz.ntmps178
 go_wp2_with fail
 rw [← HW0.out]
 have s1 : Below w0.heap.size w0 w0.drew := (Below.refl _ _).drew
 go_region_held3 (fun w' => (w'.cell? ⟨w.heap.size, 0, none⟩ = some (.int .i64 n) ∧ w'.cell? ⟨w.heap.size, 1, none⟩ = some (.slice (some a) len cap))) (first | exact KS.out _ s1 | exact KS.out _ s7 | exact KS.out _ s8)
  (first | (go_at_call 177; ((with_reducible refine (A1.out _ (below_on E0.out s1)).mono ?_)); rintro e w7 ⟨rfl, hb7⟩; have s7 := below_on s1 hb7) | (go_at_call 177; ((with_reducible refine (A2.out _ (below_on E0.out s7)).mono ?_)); rintro e w8 ⟨rfl, hb8⟩; have s8 := below_on s7 hb8) | (go_at_call 190; refine (SM.out _).mono ?_; rintro e w9 ⟨rfl, rfl⟩))
 have Q8 := Lib.hid s8
 clear s1 s7 s8 hb7 hb8
 by_cases he : er = 0
 · have HBB := Lib.hid (show bb = decide (s = 1) by rw [HB.out, he]; rfl)
   subst he
   go_wp2_with fail
   go_ret
   exact ⟨ret_bool (HBB.out.trans rfl).symm, below_on E0.out Q8.out⟩
 · have HBB := Lib.hid (show bb = false by rw [HB.out]; simp [he])
   have D : (er == 0) = false := by simpa using he
   clear he
   go_wp2_with fail
   go_ret
   exact ⟨ret_bool HBB.out.symm, below_on E0.out Q8.out⟩
def plB (n : Nat) (l : List Int) (i j : Nat) : Bool := decide (i = 0) && decide (Zo.At n l i j = 1)
theorem plain_any (n i j : Nat) (l : List Int) (a : Addr) (cap : Nat) (w : World) (hn : n ≤ 10) (hi : i ≤ n) (hj : j ≤ n) (hl : l.length = (n + 1) * (n + 1)) (h : Rd w a l) :
  Calls Tryz.prog 192 #[.agg #[.int .i64 n, .slice (some a) l.length cap], .int .i64 i, .int .i64 j] w (Made (.bool (plB n l i j)) w) := by
 obtain ⟨len, hlen⟩ : ∃ len, len = l.length := ⟨_, rfl⟩
 obtain ⟨w0, hw0⟩ : ∃ w0, w0 = w.alloc (.cells #[.int .i64 n, .slice (some a) len cap] 36) := ⟨_, rfl⟩
 have bx : Two w0 w.heap.size (.int .i64 n) (.slice (some a) len cap) := by rw [hw0]; exact Two.made _ _ _ _
 have E0 := Lib.hid (show Below w.heap.size w w0 by rw [hw0]; exact one_more _)
 have A1 := Lib.hid (show ∀ W, Below w.heap.size w W → Calls Tryz.prog 177 #[.agg #[.int .i64 n, .slice (some a) len cap], .int .i64 i, .int .i64 j] W (Made (.int .i64 (Zo.At n l i j)) W) from fun W h' => by have := miat_any n i j l a cap W hn hi hj hl (h.on h'); rw [← hlen] at this; exact this)
 have HW0 := Lib.hid hw0
 rw [← hlen]
 by_cases h0 : i = 0
 · have H := Lib.hid (show plB n l i j = decide (Zo.At n l i j = 1) by unfold plB; simp [h0])
   have D : ((i : Int) == 0) = true := by simp; omega
   generalize plB n l i j = bb at *
   generalize Zo.At n l i j = x at *
   clear hlen hl h hw0 h0
   obtain ⟨b0, b1, b2, b3⟩ := bx.facts
   clear bx
   go_enter Tryz.func192, Tryz.ntmps192
   go_wp2_with fail
   rw [← HW0.out]
   go_wp2_with fail
   refine (A1.out _ E0.out).mono ?_
   rintro e w1 ⟨rfl, hb1⟩
   have B1 := Lib.hid (below_on E0.out hb1)
   clear hb1 b0 b1 b2 b3
   go_wp2_with fail
   go_ret
   exact ⟨ret_bool (H.out.trans rfl).symm, B1.out⟩
 · have H := Lib.hid (show plB n l i j = false by unfold plB; simp [h0])
   have D : ((i : Int) == 0) = false := by simp; omega
   generalize plB n l i j = bb at *
   clear hlen hl h hw0 h0 A1
   go_enter Tryz.func192, Tryz.ntmps192
   go_wp2_with fail
   rw [← HW0.out]
   go_ret
   exact ⟨ret_bool H.out.symm, E0.out⟩
theorem issum_any (n i k j : Nat) (l : List Int) (a : Addr) (cap : Nat) (w : World) (hn : n ≤ 10) (hi : i ≤ n) (hk : k ≤ n) (hj : j ≤ n) (hl : l.length = (n + 1) * (n + 1)) (hv : ∀ i j, i ≤ n → j ≤ n → I64 (Zo.At n l i j)) (h : Rd w a l) :
  Calls Tryz.prog 193 #[.agg #[.int .i64 n, .slice (some a) l.length cap], .int .i64 i, .int .i64 k, .int .i64 j] w (Made (.bool (suB (Zo.At n l i k) (Zo.At n l k j) (Zo.At n l i j))) w) := by
 obtain ⟨len, hlen⟩ : ∃ len, len = l.length := ⟨_, rfl⟩
 obtain ⟨w0, hw0⟩ : ∃ w0, w0 = w.alloc (.cells #[.int .i64 n, .slice (some a) len cap] 36) := ⟨_, rfl⟩
 have bx : Two w0 w.heap.size (.int .i64 n) (.slice (some a) len cap) := by rw [hw0]; exact Two.made _ _ _ _
 have e0 : Below w.heap.size w w0 := by rw [hw0]; exact one_more _
 have AT := Lib.hid (show ∀ (i j : Nat) (W : World), i ≤ n → j ≤ n → Below w.heap.size w W → Calls Tryz.prog 177 #[.agg #[.int .i64 n, .slice (some a) len cap], .int .i64 i, .int .i64 j] W (Made (.int .i64 (Zo.At n l i j)) W) from fun i j W hi hj h' => by have := miat_any n i j l a cap W hn hi hj hl (h.on h'); rw [← hlen] at this; exact this)
 have KS := Lib.hid (show ∀ W : World, Below w0.heap.size w0 W → (W.cell? ⟨w.heap.size, 0, none⟩ = some (.int .i64 n) ∧ W.cell? ⟨w.heap.size, 1, none⟩ = some (.slice (some a) len cap)) from
  fun W h => ⟨(bx.kept h).facts.1, (bx.kept h).facts.2.1⟩)
 have A1 := Lib.hid (fun W h => AT.out i k W hi hk h)
 have A2 := Lib.hid (fun W h => AT.out k j W hk hj h)
 have A3 := Lib.hid (fun W h => AT.out i j W hi hj h)
 have HB := Lib.hid (show suB (Zo.At n l i k) (Zo.At n l k j) (Zo.At n l i j) = (decide (adE (Zo.At n l i k) (Zo.At n l k j) = 0) && decide (adL (Zo.At n l i k) (Zo.At n l k j) = (Zo.At n l i j))) from rfl)
 have E0 := Lib.hid e0
 have HW0 := Lib.hid hw0
 have V1 := hv i k hi hk
 have V2 := hv k j hk hj
 rw [← hlen]
 clear AT hv
 generalize suB (Zo.At n l i k) (Zo.At n l k j) (Zo.At n l i j) = bb at *
 generalize Zo.At n l i k = x at *
 generalize Zo.At n l k j = y at *
 generalize Zo.At n l i j = z at *
 have SM := Lib.hid (fun W => limAdd_any x y W V1 V2)
 generalize adL x y = s at *
 generalize adE x y = er at *
 clear hlen hl h bx e0 hw0 V1 V2
 go_enter Tryz.func193, Tryz.ntmps193
 go_wp2_with fail
 rw [← HW0.out]
 have s1 : Below w0.heap.size w0 w0.drew := (Below.refl _ _).drew
 go_region_held3 (fun w' => (w'.cell? ⟨w.heap.size, 0, none⟩ = some (.int .i64 n) ∧ w'.cell? ⟨w.heap.size, 1, none⟩ = some (.slice (some a) len cap))) (first | exact KS.out _ s1 | exact KS.out _ s7 | exact KS.out _ s8)
  (first | (go_at_call 177; ((with_reducible refine (A1.out _ (below_on E0.out s1)).mono ?_)); rintro e w7 ⟨rfl, hb7⟩; have s7 := below_on s1 hb7) | (go_at_call 177; ((with_reducible refine (A2.out _ (below_on E0.out s7)).mono ?_)); rintro e w8 ⟨rfl, hb8⟩; have s8 := below_on s7 hb8) | (go_at_call 190; refine (SM.out _).mono ?_; rintro e w9 ⟨rfl, rfl⟩))
 have Q8 := Lib.hid s8
 clear s1 s7 s8 hb7 hb8
 obtain ⟨b0, b1⟩ := KS.out _ Q8.out
 by_cases he : er = 0
 · have HBB := Lib.hid (show bb = decide (s = z) by rw [HB.out, he]; rfl)
   subst he
   go_wp2_with fail
   refine (A3.out _ (below_on E0.out Q8.out)).mono ?_
   rintro e w1 ⟨rfl, hb1⟩
   have B1 := Lib.hid (below_on (below_on E0.out Q8.out) hb1)
   clear hb1 b0 b1
   go_wp2_with fail
   go_ret
   exact ⟨ret_bool (HBB.out.trans rfl).symm, B1.out⟩
 · have HBB := Lib.hid (show bb = false by rw [HB.out]; simp [he])
   have D : (er == 0) = false := by simpa using he
   clear he
   go_wp2_with fail
   go_ret
   exact ⟨ret_bool HBB.out.symm, below_on E0.out Q8.out⟩
def fiB (n : Nat) (l : List Int) (i : Nat) : Bool := (List.range i).all fun k => !bdB n l k i
theorem fiB_iff {n i : Nat} {l : List Int} : fiB n l i = true ↔ ∀ k, k < i → bdB n l k i = false := by
 unfold fiB; simp
def btB (i j k : Nat) : Bool := (decide (i < j) && decide (i < k) && decide (k < j)) || (decide (j < i) && (decide (i < k) || decide (k < j)))
def skB (n : Nat) (l : List Int) (i j k : Nat) : Bool := decide (k = i) || decide (k = j) || !bdB n l k i
def nxB (n : Nat) (l : List Int) (i j : Nat) : Bool := (List.range (n + 1)).all fun k => skB n l i j k || !btB i j k
theorem nxB_yes {n i j : Nat} {l : List Int} (h : ∀ k, k < n + 1 → (skB n l i j k || !btB i j k) = true) : nxB n l i j = true := by
 unfold nxB; rw [List.all_eq_true]; intro k hk; exact h k (List.mem_range.1 hk)
theorem zbox (n : Nat) (a : Addr) (len cap : Nat) (w : World) : ∃ w0, w0 = w.alloc (.cells #[.int .i64 n, .slice (some a) len cap] 36) ∧ Below w.heap.size w w0 ∧
  (∀ W : World, Below w0.heap.size w0 W → (W.cell? ⟨w.heap.size, 0, none⟩ = some (.int .i64 n) ∧ W.cell? ⟨w.heap.size, 1, none⟩ = some (.slice (some a) len cap))) := by
 refine ⟨_, rfl, one_more _, fun W h => ?_⟩
 have bx := (Two.made w (.int .i64 n) (.slice (some a) len cap) 36).kept h
 exact ⟨bx.facts.1, bx.facts.2.1⟩
def kpN (n : Nat) (l : List Int) (i j : Nat) : Bool := nxB n l i j && (!decide (i = 0) || !decide (Zo.At n l i j = 1))
def kpA (n : Nat) (l : List Int) (i j k : Nat) : Bool := decide (i = 0) && bdB n l k j && decide (Zo.At n l 0 k = 1)
def kpS (n : Nat) (l : List Int) (i j k : Nat) : Bool := decide (Zo.At n l i j = Zo.smW (Zo.At n l i k) (Zo.At n l k j))
def kpC (n : Nat) (l : List Int) (i j k : Nat) : Bool := fiB n l k && !decide (k = i) && !decide (k = j) && kpS n l i j k
def kpM (n : Nat) (l : List Int) (i j : Nat) : Bool := fiB n l i && fiB n l j && (List.range (n + 1)).all fun k => !(kpA n l i j k || kpC n l i j k)
def kpB (n : Nat) (l : List Int) (i j : Nat) : Bool := !decide (i = j) && !decide (Zo.At n l i j = 1099511627776) && (if bdB n l i j then kpN n l i j else kpM n l i j)
theorem kpM_yes {n i j : Nat} {l : List Int} (hi : fiB n l i = true) (hj : fiB n l j = true) (h : ∀ k, k < n + 1 → (kpA n l i j k || kpC n l i j k) = false) : kpM n l i j = true := by
 unfold kpM
 rw [hi, hj]
 simp only [Bool.true_and, List.all_eq_true]
 intro k hk
 rw [h k (List.mem_range.1 hk)]; rfl
theorem made_as {P : Program} {f : FuncId} {args : Array Value} {W : World} {b c : Bool} (h : Calls P f args W (Made (.bool b) W)) (e : b = c) : Calls P f args W (Made (.bool c) W) := by rw [← e]; exact h
def conV (cs : List Con) : List Value := cs.flatMap fun c => [.int .i64 c.1, .int .i64 c.2.1, .int .i64 c.2.2]
theorem conV_app (cs : List Con) (i j x : Int) : conV (cs ++ [(i, j, x)]) = conV cs ++ [.int .i64 i, .int .i64 j, .int .i64 x] := by unfold conV; rw [List.flatMap_append]; rfl
theorem conV_at (cs : List Con) (k : Nat) (hk : k < cs.length) : (conV cs)[k * 3]? = some (.int .i64 (gc cs k).1) ∧ (conV cs)[k * 3 + 1]? = some (.int .i64 (gc cs k).2.1) ∧ (conV cs)[k * 3 + 2]? = some (.int .i64 (gc cs k).2.2) := by
 induction cs generalizing k with
 | nil => simp at hk
 | cons c cs ih =>
  cases k with
  | zero => exact ⟨rfl, rfl, rfl⟩
  | succ k =>
   have := ih k (by simp at hk; omega)
   have e : conV (c :: cs) = [.int .i64 c.1, .int .i64 c.2.1, .int .i64 c.2.2] ++ conV cs := rfl
   have g : gc (c :: cs) (k + 1) = gc cs k := by simp [gc]
   rw [e, g, show (k + 1) * 3 = k * 3 + 3 by omega]
   refine ⟨?_, ?_, ?_⟩
   · rw [List.getElem?_append_right (by simp)]; exact this.1
   · rw [List.getElem?_append_right (by simp)]; simpa using this.2.1
   · rw [List.getElem?_append_right (by simp)]; simpa using this.2.2
def OwnC (w : World) (B : Nat) (v : Value) (cs : List Con) : Prop := w.ownsRow B 110 3 v cs.length (conV cs)
theorem OwnC.nil (w : World) (B : Nat) : OwnC w B (.slice none 0 0) [] := World.ownsRow_nil w B _ _
theorem OwnC.on {w w' : World} {B : Nat} {v : Value} {cs : List Con} (h : OwnC w B v cs) (hb : Below w.heap.size w w') : OwnC w' B v cs := by
 have hg : w.grownBy w' none := ⟨hb.os, hb.tape, hb.output, hb.size, fun k hk _ => hb.block k hk⟩
 exact World.ownsRow.kept h hg (by cases v.ownBlock <;> simp)
theorem OwnC.arg {w : World} {B : Nat} {v : Value} {cs : List Con} (h : OwnC w B v cs) : ∃ ao cap, v = .slice ao cs.length cap ∧ Arg3 w ao cs := by
 rcases h.2 with ⟨rfl, hn⟩ | ⟨g, cap, cur, rfl, hb, hg, hc, hm, hsz, htake⟩
 · exact ⟨none, 0, by rw [hn], fun hne => absurd (List.eq_nil_of_length_eq_zero hn) hne⟩
 · refine ⟨_, cap, rfl, fun _ => ⟨⟨g, 0, none⟩, rfl, fun j hj => ?_⟩⟩
   have hc := World.ownsRow.cellAt (g := g) (cap := cap) h
   obtain ⟨c0, c1, c2⟩ := conV_at cs j hj
   refine ⟨?_, ?_, ?_⟩
   · rw [addr_add]; exact (hc (j * 3) (by omega)).trans c0
   · rw [addr_add]; exact (hc (j * 3 + 1) (by omega)).trans c1
   · rw [addr_add]; exact (hc (j * 3 + 2) (by omega)).trans c2
theorem OwnC.low {w : World} {B B' : Nat} {v : Value} {cs : List Con} (h : OwnC w B v cs) (hb : B' ≤ B) : OwnC w B' v cs := by
 refine ⟨h.1, ?_⟩
 rcases h.2 with c | ⟨g, cap, cur, h1, h2, h3⟩
 · exact Or.inl c
 · exact Or.inr ⟨g, cap, cur, h1, by omega, h3⟩
def CRes (w : World) (cs : List Con) (er : Int) (e : Ending) (w' : World) : Prop :=
 Below w.heap.size w w' ∧ ∃ v, e = .returned (.tuple #[v, .int .i64 er]) ∧ OwnC w' w.heap.size v cs
theorem cells_three {w w' : World} (x y z : Value) (t : TypeId) (hw : w' = w.alloc (.cells #[x, y, z] t)) : ∀ j u, ([x, y, z] : List Value)[j]? = some u → w'.cell? ((⟨w.heap.size, 0, none⟩ : Addr).add j) = some u := by
 subst hw
 intro j u hu
 rw [addr_add]
 match j, hu with
 | 0, hu => simp at hu; subst hu; go_simp
 | 1, hu => simp at hu; subst hu; go_simp
 | 2, hu => simp at hu; subst hu; go_simp
def redT (n : Nat) (l : List Int) (i t : Nat) : List Con := (List.range t).flatMap fun j => if kpB n l i j then [((i : Int), (j : Int), Zo.At n l i j)] else []
def redS (n : Nat) (l : List Int) (t : Nat) : List Con := (List.range t).flatMap fun i => redT n l i (n + 1)
def redL (n : Nat) (l : List Int) : List Con := redS n l (n + 1)
theorem redT_no {n i t : Nat} {l : List Int} (h : kpB n l i t = false) : redT n l i (t + 1) = redT n l i t := by
 unfold redT; rw [List.range_succ, List.flatMap_append]; simp [h]
theorem redT_yes {n i t : Nat} {l : List Int} (h : kpB n l i t = true) : redT n l i (t + 1) = redT n l i t ++ [((i : Int), (t : Int), Zo.At n l i t)] := by
 unfold redT; rw [List.range_succ, List.flatMap_append]; simp [h]
theorem redS_succ (n : Nat) (l : List Int) (t : Nat) : redS n l (t + 1) = redS n l t ++ redT n l t (n + 1) := by
 unfold redS; rw [List.range_succ, List.flatMap_append]; simp
theorem flat_le {α : Type} (f : Nat → List α) (b : Nat) (hf : ∀ i, (f i).length ≤ b) (t : Nat) : ((List.range t).flatMap f).length ≤ t * b := by
 induction t with
 | zero => simp
 | succ t ih =>
  rw [List.range_succ, List.flatMap_append, List.length_append]
  have := hf t
  simp only [List.flatMap_cons, List.flatMap_nil, List.append_nil]
  rw [Nat.add_mul]; omega
theorem redT_len (n : Nat) (l : List Int) (i t : Nat) : (redT n l i t).length ≤ t := by
 have := flat_le (fun j => if kpB n l i j then [((i : Int), (j : Int), Zo.At n l i j)] else []) 1 (fun j => by split <;> simp) t
 unfold redT; omega
theorem redS_len (n : Nat) (l : List Int) (t : Nat) : (redS n l t).length ≤ t * (n + 1) := flat_le _ _ (fun i => redT_len n l i (n + 1)) t
theorem redL_le {n : Nat} {l : List Int} (hn : n ≤ 10) : (redL n l).length ≤ 121 := by
 have := redS_len n l (n + 1)
 have : (n + 1) * (n + 1) ≤ 11 * 11 := Nat.mul_le_mul (by omega) (by omega)
 unfold redL; omega
theorem con_info : (Tryz.prog.info? 110).map (fun i => (i.zero, i.size, i.bytes)) = some (some (.agg #[.int .i64 0, .int .i64 0, .int .i64 0]), 3, 24) := by kernel_rfl
def Cls (A : Array Value) (n : Nat) (f : Nat → Nat) : Prop := A.size = 11 ∧ A.all (·.oneCell') = true ∧ ∀ k, k ≤ n → A[k]? = some (.int .i64 (f k)) ∧ f k ≤ n
theorem cls_cell {A : Array Value} {n : Nat} {f : Nat → Nat} (hA : Cls A n f) (w : World) : ∀ W, Below (w.alloc (.cells A 160)).heap.size (w.alloc (.cells A 160)) W → ∀ k, k ≤ n → W.cell? ⟨w.heap.size, k, none⟩ = some (.int .i64 (f k)) := by
 intro W h k hk
 refine kept h ?_
 rw [cell_of_row _ _ k A _ _ (heap_alloc_last w _)]
 exact (hA.2.2 k hk).1
def nxN (n : Nat) (f : Nat → Nat) (i : Nat) : Nat := ((List.range (n + 1)).find? fun k => decide (i < k) && decide (f k = f i)).getD (f i)
theorem nx_found {n i t : Nat} {f : Nat → Nat} (h1 : i < t) (h2 : t ≤ n) (h3 : f t = f i) (h4 : ∀ k, i < k → k < t → f k ≠ f i) : nxN n f i = t := by
 unfold nxN
 have : (List.range (n + 1)).find? (fun k => decide (i < k) && decide (f k = f i)) = some t := by
  rw [List.find?_range_eq_some]
  refine ⟨by simp [h1, h3], by simp; omega, fun j hj => ?_⟩
  by_cases c : i < j
  · simp [h4 j c hj]
  · simp [c]
 rw [this]; rfl
theorem nx_none {n i : Nat} {f : Nat → Nat} (h4 : ∀ k, i < k → k ≤ n → f k ≠ f i) : nxN n f i = f i := by
 unfold nxN
 have : (List.range (n + 1)).find? (fun k => decide (i < k) && decide (f k = f i)) = none := by
  rw [List.find?_range_eq_none]
  intro j hj
  by_cases c : i < j
  · simp [h4 j c (by omega)]
  · simp [c]
 rw [this]; rfl
theorem next_any (n i : Nat) (A : Array Value) (f : Nat → Nat) (w : World) (hn : n ≤ 10) (hi : i ≤ n) (hA : Cls A n f) :
  Calls Tryz.prog 191 #[.agg A, .int .i64 i, .int .i64 n] w (Made (.int .i64 (nxN n f i)) w) := by
 obtain ⟨w0, hw0⟩ : ∃ w0, w0 = w.alloc (.cells A 160) := ⟨_, rfl⟩
 have CC := Lib.hid (cls_cell hA w)
 have FB := Lib.hid (show ∀ k, k ≤ n → f k ≤ n from fun k hk => (hA.2.2 k hk).2)
 have HA := Lib.hid hA
 have E0 := Lib.hid (show Below w.heap.size w w0 by rw [hw0]; exact one_more _)
 rw [← hw0] at CC
 have HW0 := Lib.hid hw0
 clear hA hw0
 go_enter Tryz.func191, Tryz.ntmps191
 go_wp2_with fail
 rw [← HW0.out]
 have hi2 := hi
 go_loopw [7] (fun s wr => ∃ t : Nat, i < t ∧ t ≤ n + 1 ∧ s = .int .i64 t ∧ Hid (∀ k, i < k → k < t → f k ≠ f i) ∧ Hid (Below w0.heap.size w0 wr)) (fun s _ => n + 1 - (intOf s).toNat)
 case atStart => exact ⟨i + 1, by omega, by omega, by go_num, Lib.hid (fun k hk hk2 => by omega), Lib.hid (Below.refl _ _)⟩
 case round =>
  obtain ⟨t, hit, ht, rfl, HT, HB⟩ := hrel
  by_cases htn : t ≤ n
  · have c1 := CC.out _ HB.out t htn
    have c2 := CC.out _ HB.out i hi
    by_cases hf : f t = f i
    · have HF := Lib.hid (nx_found hit htn hf HT.out)
      have D : (((f t : Nat) : Int) == ((f i : Nat) : Int)) = true := by simp [hf]
      clear hf
      generalize f t = x at *
      generalize f i = y at *
      go_wp2_with fail
      go_quiet (fail)
      go_wp2_with fail
      go_ret
      exact ⟨ret_int (by rw [HF.out]), below_on E0.out (below_drewN HB.out _)⟩
    · have HT2 := Lib.hid (show ∀ k, i < k → k < t + 1 → f k ≠ f i from fun k h1 h2 => by
       by_cases e : k = t
       · rw [e]; exact hf
       · exact HT.out k h1 (by omega))
      have D : (((f t : Nat) : Int) == ((f i : Nat) : Int)) = false := by simp; omega
      clear hf
      go_wp2_with fail
      go_quiet (fail)
      go_wp2_with fail
      go_roundw
      case rel => exact ⟨t + 1, by omega, by omega, by go_num, HT2, Lib.hid (below_drewN HB.out _)⟩
      case measure => simp [intOf]; omega
  · have c2 := CC.out _ HB.out i hi
    have HF := Lib.hid (nx_none (n := n) (f := f) (i := i) (fun k h1 h2 => HT.out k h1 (by omega)))
    go_wp2_with fail
    go_ret
    exact ⟨ret_int (by rw [HF.out]), below_on E0.out HB.out⟩
theorem cls_size : (Tryz.prog.info? 160).map (·.size) = some 11 := by kernel_rfl
def Crow (w : World) (b : Nat) (A : Array Value) : Prop := w.heap[b]? = some (.cells A 160 (0, 0)) ∧ A.size = 11
theorem Crow.lt {w : World} {b : Nat} {cs : Array Value} (h : Crow w b cs) : b < w.heap.size := by
 by_cases e : b < w.heap.size
 · exact e
 · have := h.1; rw [Array.getElem?_eq_none (by omega)] at this; cases this
theorem Crow.kept {w w' : World} {b : Nat} {cs : Array Value} (h : Crow w b cs) (hb : Below w.heap.size w w') : Crow w' b cs := ⟨(hb.block b h.lt).trans h.1, h.2⟩
theorem Crow.made (w : World) {A : Array Value} (h : A.size = 11) : Crow (w.alloc (.cells A 160)) w.heap.size A := ⟨heap_alloc_last w _, h⟩
theorem Crow.alloc {w : World} {b : Nat} {A : Array Value} (h : Crow w b A) (o : Obj) : Crow (w.alloc o) b A := h.kept (one_more o)
theorem Crow.cell {w : World} {b : Nat} {A : Array Value} (h : Crow w b A) {n : Nat} {f : Nat → Nat} (hA : Cls A n f) {k : Nat} (hk : k ≤ n) : w.cell? ⟨b, k, none⟩ = some (.int .i64 (f k)) := by
 rw [cell_of_row _ _ k A _ _ h.1]; exact (hA.2.2 k hk).1
theorem wplc_load {ops : Array Oper} {rest : List Oper} {o : Oper} {a : Act} {w : World} {Q : Exit → Act → World → Prop} (hgd : o.guard = none) (x : Operand) (ho : o.op = .load 160 x)
  (b : Nat) (hx : a.eval x = .pointer (some ⟨b, 0, none⟩)) (cs : Array Value) (hv : Crow w b cs) (h : wpList Tryz.prog ops Q rest (a.put o.dst (.agg cs)) w) : wpList Tryz.prog ops Q (o :: rest) a w :=
 wpList_load_row hgd _ x ho b hx _ cs (0, 0) _ hv.1 Tryz.underlying160 rfl (by rw [hv.2]; exact cls_size) h
def kwB (n : Nat) (l : List Int) (f : Nat → Nat) (i j : Nat) : Bool := decide (j = nxN n f i) && !plB n l i j
def kbX (n : Nat) (l : List Int) (f : Nat → Nat) (i j k : Nat) : Bool := decide (f k = j) && plB n l i k
def kbY (n : Nat) (l : List Int) (f : Nat → Nat) (i j k : Nat) : Bool := decide (f k = k) && !decide (k = i) && !decide (k = j) && suB (Zo.At n l i k) (Zo.At n l k j) (Zo.At n l i j)
def kbB (n : Nat) (l : List Int) (f : Nat → Nat) (i j : Nat) : Bool := decide (f i = i) && decide (f j = j) && (List.range (n + 1)).all fun k => !(kbX n l f i j k || kbY n l f i j k)
theorem kbB_no {n i j k : Nat} {l : List Int} {f : Nat → Nat} (hk : k < n + 1) (h : (kbX n l f i j k || kbY n l f i j k) = true) : kbB n l f i j = false := by
 unfold kbB
 have : ((List.range (n + 1)).all fun k => !(kbX n l f i j k || kbY n l f i j k)) = false := by
  rw [List.all_eq_false]; exact ⟨k, List.mem_range.2 hk, by rw [h]; simp⟩
 rw [this]; simp
theorem kbB_yes {n i j : Nat} {l : List Int} {f : Nat → Nat} (hi : f i = i) (hj : f j = j) (h : ∀ k, k < n + 1 → (kbX n l f i j k || kbY n l f i j k) = false) : kbB n l f i j = true := by
 unfold kbB
 simp only [hi, hj, decide_true, Bool.true_and, List.all_eq_true]
 intro k hk
 rw [h k (List.mem_range.1 hk)]; rfl
def ksB (n : Nat) (l : List Int) (f : Nat → Nat) (i j : Nat) : Bool := !decide (i = j) && !decide (Zo.At n l i j = 1099511627776) && (if f i = f j then kwB n l f i j else kbB n l f i j)
theorem czbox (n : Nat) (a : Addr) (len cap : Nat) (A : Array Value) (f : Nat → Nat) (hA : Cls A n f) (w : World) : ∃ w0, w0 = (w.alloc (.cells A 160)).alloc (.cells #[.int .i64 n, .slice (some a) len cap] 36) ∧ Below w.heap.size w w0 ∧
  (∀ W : World, Below w0.heap.size w0 W → (W.cell? ⟨w.heap.size + 1, 0, none⟩ = some (.int .i64 n) ∧ W.cell? ⟨w.heap.size + 1, 1, none⟩ = some (.slice (some a) len cap))) ∧
  (∀ W : World, Below w0.heap.size w0 W → Crow W w.heap.size A) ∧ (∀ W : World, Below w0.heap.size w0 W → ∀ k, k ≤ n → W.cell? ⟨w.heap.size, k, none⟩ = some (.int .i64 (f k))) := by
 refine ⟨_, rfl, past_two (Below.refl _ _), fun W h => ?_, fun W h => ?_, fun W h k hk => ?_⟩
 · have := (Two.made (w.alloc (.cells A 160)) (.int .i64 n) (.slice (some a) len cap) 36).kept h
   have e : (w.alloc (.cells A 160)).heap.size = w.heap.size + 1 := by simp
   rw [e] at this
   exact ⟨this.facts.1, this.facts.2.1⟩
 · exact ((Crow.made w hA.1).alloc _).kept h
 · exact (((Crow.made w hA.1).alloc _).kept h).cell hA hk
theorem miat_len {n : Nat} {l : List Int} {a : Addr} {cap len : Nat} {w : World} (hn : n ≤ 10) (hl : l.length = (n + 1) * (n + 1)) (h : Rd w a l) (hlen : len = l.length) :
  ∀ (i j : Nat) (W : World), i ≤ n → j ≤ n → Below w.heap.size w W → Calls Tryz.prog 177 #[.agg #[.int .i64 n, .slice (some a) len cap], .int .i64 i, .int .i64 j] W (Made (.int .i64 (Zo.At n l i j)) W) := by
 intro i j W hi hj h'
 have := miat_any n i j l a cap W hn hi hj hl (h.on h')
 rw [← hlen] at this; exact this
theorem plain_len {n : Nat} {l : List Int} {a : Addr} {cap len : Nat} {w : World} (hn : n ≤ 10) (hl : l.length = (n + 1) * (n + 1)) (h : Rd w a l) (hlen : len = l.length) :
  ∀ (i j : Nat) (W : World), i ≤ n → j ≤ n → Below w.heap.size w W → Calls Tryz.prog 192 #[.agg #[.int .i64 n, .slice (some a) len cap], .int .i64 i, .int .i64 j] W (Made (.bool (plB n l i j)) W) := by
 intro i j W hi hj h'
 have := plain_any n i j l a cap W hn hi hj hl (h.on h')
 rw [← hlen] at this; exact this
theorem issum_len {n : Nat} {l : List Int} {a : Addr} {cap len : Nat} {w : World} (hn : n ≤ 10) (hl : l.length = (n + 1) * (n + 1)) (hv : ∀ i j, i ≤ n → j ≤ n → I64 (Zo.At n l i j)) (h : Rd w a l) (hlen : len = l.length) :
  ∀ (i k j : Nat) (W : World), i ≤ n → k ≤ n → j ≤ n → Below w.heap.size w W → Calls Tryz.prog 193 #[.agg #[.int .i64 n, .slice (some a) len cap], .int .i64 i, .int .i64 k, .int .i64 j] W (Made (.bool (suB (Zo.At n l i k) (Zo.At n l k j) (Zo.At n l i j))) W) := by
 intro i k j W hi hk hj h'
 have := issum_any n i k j l a cap W hn hi hk hj hl hv (h.on h')
 rw [← hlen] at this; exact this
theorem within_any (n i j : Nat) (l : List Int) (a : Addr) (cap : Nat) (A : Array Value) (f : Nat → Nat) (w : World) (hn : n ≤ 10) (hi : i ≤ n) (hj : j ≤ n) (hl : l.length = (n + 1) * (n + 1)) (h : Rd w a l) (hA : Cls A n f) :
  Calls Tryz.prog 179 #[.agg A, .agg #[.int .i64 n, .slice (some a) l.length cap], .int .i64 i, .int .i64 j] w (Made (.bool (kwB n l f i j)) w) := by
 obtain ⟨len, hlen⟩ : ∃ len, len = l.length := ⟨_, rfl⟩
 have PL := Lib.hid (plain_len (cap := cap) hn hl h hlen)
 have NX := Lib.hid (fun W => next_any n i A f W hn hi hA)
 rw [← hlen]
 obtain ⟨w0, hw0, e0, ks, kr, kc⟩ := czbox n a len cap A f hA w
 have KS := Lib.hid ks
 have KR := Lib.hid kr
 have E0 := Lib.hid e0
 have HW0 := Lib.hid hw0
 have HK := Lib.hid (show kwB n l f i j = (decide (j = nxN n f i) && !plB n l i j) from rfl)
 obtain ⟨b0, b1⟩ := ks w0 (Below.refl _ _)
 generalize nxN n f i = x at *
 have KR0 := Lib.hid (show Crow ((w.alloc (.cells A 160)).alloc (.cells #[.int .i64 n, .slice (some a) len cap] 36)) w.heap.size A by rw [← hw0]; exact kr _ (Below.refl _ _))
 have B0 := Lib.hid (Below.refl w0.heap.size w0)
 clear ks kr kc e0 hw0 hlen hl h hA
 by_cases hx : j = x
 · have D : ((j : Int) == (x : Int)) = true := by simp; omega
   have HF0 := Lib.hid (show kwB n l f i j = !plB n l i j by rw [HK.out, decide_eq_true hx]; rfl)
   clear hx
   cases hp : plB n l i j
   · have HP := Lib.hid hp
     have HF := Lib.hid (show kwB n l f i j = true by rw [HF0.out, hp]; rfl)
     clear hp
     go_enter Tryz.func179, Tryz.ntmps179
     go_wp2_with (refine wplc_load rfl _ rfl _ rfl _ KR0.out ?_)
     rw [← HW0.out]
     refine (NX.out _).mono ?_
     rintro e w1 ⟨rfl, hb1⟩
     have B1 := Lib.hid hb1
     clear hb1 b0 b1
     obtain ⟨b0, b1⟩ := KS.out _ B1.out
     go_wp2_with fail
     refine (made_as (PL.out i j _ hi hj (below_on E0.out B1.out)) HP.out).mono ?_
     rintro e w2 ⟨rfl, hb2⟩
     have B2 := Lib.hid (below_on B1.out hb2)
     clear hb2 b0 b1
     go_wp2_with fail
     go_ret
     exact ⟨ret_bool HF.out.symm, below_on E0.out B2.out⟩
   · have HP := Lib.hid hp
     have HF := Lib.hid (show kwB n l f i j = false by rw [HF0.out, hp]; rfl)
     clear hp
     go_enter Tryz.func179, Tryz.ntmps179
     go_wp2_with (refine wplc_load rfl _ rfl _ rfl _ KR0.out ?_)
     rw [← HW0.out]
     refine (NX.out _).mono ?_
     rintro e w1 ⟨rfl, hb1⟩
     have B1 := Lib.hid hb1
     clear hb1 b0 b1
     obtain ⟨b0, b1⟩ := KS.out _ B1.out
     go_wp2_with fail
     refine (made_as (PL.out i j _ hi hj (below_on E0.out B1.out)) HP.out).mono ?_
     rintro e w2 ⟨rfl, hb2⟩
     have B2 := Lib.hid (below_on B1.out hb2)
     clear hb2 b0 b1
     go_wp2_with fail
     go_ret
     exact ⟨ret_bool HF.out.symm, below_on E0.out B2.out⟩
 · have D : ((j : Int) == (x : Int)) = false := by simp; omega
   have HF := Lib.hid (show kwB n l f i j = false by rw [HK.out, decide_eq_false hx]; rfl)
   clear hx
   go_enter Tryz.func179, Tryz.ntmps179
   go_wp2_with (refine wplc_load rfl _ rfl _ rfl _ KR0.out ?_)
   rw [← HW0.out]
   refine (NX.out _).mono ?_
   rintro e w1 ⟨rfl, hb1⟩
   have B1 := Lib.hid hb1
   clear hb1 b0 b1
   go_wp2_with fail
   go_ret
   exact ⟨ret_bool HF.out.symm, below_on E0.out B1.out⟩
end Go.Proofs.YthjapmdfcbngmaaGreat
