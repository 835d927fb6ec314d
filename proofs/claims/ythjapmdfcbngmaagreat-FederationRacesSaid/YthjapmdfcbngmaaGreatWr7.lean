/- A part. -/
import Derived.Test.YthjapmdfcbngmaaGreatWr5
import Derived.Test.YthjapmdfcbngmaaGreatWr6
import Derived.Deep.RegionLawGrows
import Derived.Lib.SmallJoins
namespace Go.Proofs.YthjapmdfcbngmaaGreat
set_option maxHeartbeats 1600000
open Go.RowKit
theorem Tryz.info37 : (Tryz.prog.info? 37).map (fun i => (i.zero, i.size, i.bytes)) = some (some (.int .i64 0), 1, 8) := by kernel_rfl
theorem Rd.map {w : World} {a : Addr} {l : List Int} (h : Rd w a l) : ∀ j u, (l.map (Value.int .i64))[j]? = some u → w.cell? (a.add j) = some u := by
 intro j u hj
 have hl : j < l.length := by
  rcases Nat.lt_or_ge j l.length with c | c
  · exact c
  · simp [c] at hj
 rw [h j hl]
 simp [hl] at hj
 rw [← hj]; simp [Zo.gt, hl]
theorem grown_below {X w w' : World} (hb : Below X.heap.size X w) (hg : w.grownBy w' none) : Below X.heap.size X w' :=
 hb.trans ⟨hg.os, hg.tape, hg.output, hg.size, fun k hk => hg.block k (Nat.lt_of_lt_of_le hk hb.size) (by simp)⟩
theorem own_of {w : World} {base g c len : Nat} {xs : List Value} {l : List Int} (h : w.ownsRow base 37 1 (.slice (some ⟨g, 0, none⟩) len c) len xs) (hx : xs = l.map (Value.int .i64)) (hl : len = l.length) : Own w g c l ∧ base ≤ g := by
 subst hl hx
 refine ⟨?_, (World.ownsRow.lt h g rfl).1⟩
 obtain ⟨h1, h2⟩ := h
 refine ⟨h1, ?_⟩
 rcases h2 with h2 | ⟨g', cap', cur, a1, _, a3⟩
 · exact Or.inl h2
 · exact Or.inr ⟨g', cap', cur, a1, Nat.zero_le _, a3⟩
theorem put_far {w : World} {g c b : Nat} {l : List Int} (h : Own w g c l) (hb : b ≠ g) (u v : Value) : Own ((w.setCell ⟨b, 0, none⟩ u).setCell ⟨b, 1, none⟩ v) g c l := by
 have e1 : w.grownBy (w.setCell ⟨b, 0, none⟩ u) (some b) := ⟨rfl, rfl, rfl, by simp, fun k _ hk => heap_setCell_other w ⟨b, 0, none⟩ k u (fun e => hk (by simp [e]))⟩
 have e2 : (w.setCell ⟨b, 0, none⟩ u).grownBy ((w.setCell ⟨b, 0, none⟩ u).setCell ⟨b, 1, none⟩ v) (some b) := ⟨rfl, rfl, rfl, by simp, fun k _ hk => heap_setCell_other _ ⟨b, 1, none⟩ k v (fun e => hk (by simp [e]))⟩
 exact h.kept (grown_trans e1 e2) (by simp; omega)
set_option maxRecDepth 20000 in
theorem copied_any (N : Int) (l : List Int) (a : Addr) (cap : Nat) (w : World) (h0 : 0 < l.length) (h1 : l.length ≤ 1000) (hR : Rd w a l) :
  Calls Tryz.prog 93 #[.agg #[.int .i64 N, .slice (some a) l.length cap]] w
   (fun e w' => ∃ g c, e = .returned (.agg #[.int .i64 N, .slice (some ⟨g, 0, none⟩) l.length c]) ∧ w.heap.size ≤ g ∧ Own w' g c l ∧ Below w.heap.size w w') := by
 obtain ⟨len, hlen⟩ : ∃ len, len = l.length := ⟨_, rfl⟩
 obtain ⟨xs, hxs⟩ : ∃ xs, xs = l.map (Value.int .i64) := ⟨_, rfl⟩
 obtain ⟨i0, hi, hz0, hz1, hz2⟩ := info_parts Tryz.info37
 obtain ⟨w0, hw0⟩ : ∃ w0, w0 = (w.alloc (.cells #[.int .i64 N, .slice (some a) len cap] 36)).alloc (.cells #[.int .i64 0, .slice none 0 0] 36) := ⟨_, rfl⟩
 have b0 : w0.cell? ⟨w.heap.size, 0, none⟩ = some (.int .i64 N) := by rw [hw0]; go_simp
 have b1 : w0.cell? ⟨w.heap.size, 1, none⟩ = some (.slice (some a) len cap) := by rw [hw0]; go_simp
 have r0 : w0.cell? ⟨w.heap.size + 1, 0, none⟩ = some (.int .i64 0) := by rw [hw0]; go_simp
 have r1 : w0.cell? ⟨w.heap.size + 1, 1, none⟩ = some (.slice none 0 0) := by rw [hw0]; go_simp
 have f0 : w0.frozen? ⟨w.heap.size + 1, 0, none⟩ = false := by rw [hw0]; go_simp
 have f1 : w0.frozen? ⟨w.heap.size + 1, 1, none⟩ = false := by rw [hw0]; go_simp
 have z0 : w0.heap.size = w.heap.size + 2 := by rw [hw0]; simp
 have e0 : Below w.heap.size w w0 := by rw [hw0]; exact past_two (Below.refl _ _)
 have RN := Lib.hid (show ∀ w' : World, Below w0.heap.size w0 w' → ∀ j u, xs[j]? = some u → w'.cell? (a.add j) = some u from fun w' h => by rw [hxs]; exact ((hR.on e0).on h).map)
 have KS := Lib.hid (show ∀ w' : World, Below w0.heap.size w0 w' → w'.cell? ⟨w.heap.size, 0, none⟩ = some (.int .i64 N) ∧ w'.cell? ⟨w.heap.size, 1, none⟩ = some (.slice (some a) len cap) from fun w' h => ⟨kept h b0, kept h b1⟩)
 have l1 : xs.length = len * 1 := by rw [hxs, hlen]; simp
 have o1 : ∀ u ∈ xs, u.oneCell' = true := by rw [hxs]; simp [Value.oneCell']
 have l2 : 0 < len := by omega
 have l3 : len ≤ 1000 := by omega
 have B1 : Below w0.heap.size w0 w0.drew := (Below.refl _ _).drew
 have B2 : ∀ o : Obj, Below w0.heap.size w0 (w0.drew.alloc o) := fun o => B1.alloc (Nat.le_refl _) o
 have HX := Lib.hid hxs
 have HL := Lib.hid hlen
 have HO1 := Lib.hid o1
 have HB2 := Lib.hid B2
 have HB1 := Lib.hid B1
 have E0 := Lib.hid e0
 rw [← hlen]
 clear hR hlen hxs o1 B1 B2 b0 b1 h0 h1 e0
 go_enter Tryz.func93, Tryz.ntmps93
 go_wp2_with fail
 rw [← hw0]
 clear hw0
 go_region_held3 (fun w' => w'.cell? ⟨w.heap.size, 0, none⟩ = some (.int .i64 N) ∧ w'.cell? ⟨w.heap.size, 1, none⟩ = some (.slice (some a) len cap)) (first | exact KS.out _ HB1.out | exact KS.out _ (HB2.out _) | exact KS.out _ (by assumption) | go_keep)
  (first | (refine step_append_grows rfl (.tmp 5) (.tmp 7) 34 rfl 37 i0 (.int .i64 0) 1 8 Tryz.underlying34 hi hz0 hz1 hz2 rfl (by decide) (some ⟨w.heap.size + 2, 0, none⟩) 0 0 [] (by simp [Act.eval]) (by simp) rfl (by simp) a len cap xs (by simp [Act.eval]) l1 (RN.out _ (HB2.out _)) HO1.out (by omega) (by unfold maxLen; omega) (by omega) ?_; intro v' w5 hown hgrow; obtain ⟨g, c, rfl⟩ := Joins.ownsRow_form hown (by omega); have B5 : Below w0.heap.size w0 w5 := grown_below (HB2.out _) hgrow; have q0 := kept B5 r0; have q1 := kept B5 r1; have q2 := (B5.frozen (p := ⟨w.heap.size + 1, 0, none⟩) (by show w.heap.size + 1 < w0.heap.size; omega)).trans f0; have q3 := (B5.frozen (p := ⟨w.heap.size + 1, 1, none⟩) (by show w.heap.size + 1 < w0.heap.size; omega)).trans f1))
 go_wp2_with fail
 have hown' : w5.ownsRow (w0.drew.alloc (.cells #[] 37)).heap.size 37 1 (.slice (some ⟨g, 0, none⟩) len c) len xs := by simpa using hown
 obtain ⟨ho, hg⟩ := own_of hown' HX.out HL.out
 have hg2 : w0.heap.size ≤ g := Nat.le_trans (by simp) hg
 refine bodyPost_ret (v := .agg #[.int .i64 N, .slice (some ⟨g, 0, none⟩) len c]) (by simp [results, Tryz.results93, go_sem, q0, q1]) rfl ⟨g, c, rfl, by omega, put_far ho (by omega) _ _, ?_⟩
 exact ((below_on E0.out B5).setCell (by show w.heap.size ≤ w.heap.size + 1; omega) _).setCell (by show w.heap.size ≤ w.heap.size + 1; omega) _
def Two (w : World) (b : Nat) (u v : Value) : Prop := Cell w ⟨b, 0, none⟩ u ∧ Cell w ⟨b, 1, none⟩ v
theorem Two.lt {w : World} {b : Nat} {u v : Value} (h : Two w b u v) : b < w.heap.size := h.1.lt
theorem Two.kept {w w' : World} {b : Nat} {u v : Value} (h : Two w b u v) (hb : Below w.heap.size w w') : Two w' b u v := ⟨h.1.kept hb, h.2.kept hb⟩
theorem Two.made (w : World) (u v : Value) (t : TypeId) : Two (w.alloc (.cells #[u, v] t)) w.heap.size u v := ⟨⟨by go_simp, by go_simp⟩, ⟨by go_simp, by go_simp⟩⟩
theorem Two.alloc {w : World} {b : Nat} {u v : Value} (h : Two w b u v) (o : Obj) : Two (w.alloc o) b u v := h.kept (one_more o)
theorem Two.put {w : World} {b : Nat} {u v : Value} (h : Two w b u v) (u' v' : Value) : Two ((w.setCell ⟨b, 0, none⟩ u').setCell ⟨b, 1, none⟩ v') b u' v' :=
 ⟨((h.1.same _).other (by simp) _), ((h.2.other (by simp) _).same _)⟩
theorem Two.aside {w : World} {b b' : Nat} {u v : Value} (h : Two w b u v) (hne : b' ≠ b) (u' v' : Value) : Two ((w.setCell ⟨b', 0, none⟩ u').setCell ⟨b', 1, none⟩ v') b u v :=
 ⟨((h.1.other (fun e => hne (congrArg Addr.block e)) _).other (fun e => hne (congrArg Addr.block e)) _), ((h.2.other (fun e => hne (congrArg Addr.block e)) _).other (fun e => hne (congrArg Addr.block e)) _)⟩
theorem Two.facts {w : World} {b : Nat} {u v : Value} (h : Two w b u v) : w.cell? ⟨b, 0, none⟩ = some u ∧ w.cell? ⟨b, 1, none⟩ = some v ∧ w.frozen? ⟨b, 0, none⟩ = false ∧ w.frozen? ⟨b, 1, none⟩ = false :=
 ⟨h.1.1, h.2.1, h.1.2, h.2.2⟩
theorem Two.grown {w w' : World} {b g : Nat} {u v : Value} (h : Two w b u v) (hg : w.grownBy w' (some g)) (hne : b ≠ g) : Two w' b u v :=
 ⟨⟨hg.cell h.1.1 (by simpa using hne), (World.frozen?_of_block (hg.block _ h.1.lt (by simpa using hne))).trans h.1.2⟩, ⟨hg.cell h.2.1 (by simpa using hne), (World.frozen?_of_block (hg.block _ h.2.lt (by simpa using hne))).trans h.2.2⟩⟩
def ZRes (w : World) (N : Int) (l : List Int) (er : Int) (e : Ending) (w' : World) : Prop :=
 Below w.heap.size w w' ∧ ((er = 0 ∧ ∃ g c, e = .returned (.tuple #[.agg #[.int .i64 N, .slice (some ⟨g, 0, none⟩) l.length c], .int .i64 0]) ∧ w.heap.size ≤ g ∧ Own w' g c l) ∨
  (er ≠ 0 ∧ e = .returned (.tuple #[.agg #[.int .i64 0, .slice none 0 0], .int .i64 er])))
theorem closed_ok {n : Nat} {l : List Int} {g cap : Nat} (w : World) (hn : n ≤ 10) (hl : l.length = (n + 1) * (n + 1)) (hO : Own w g cap l) (h : cloE n l = 0) :
  Calls Tryz.prog 94 #[.agg #[.int .i64 n, .slice (some ⟨g, 0, none⟩) l.length cap]] w (fun e w' => e = .returned (.tuple #[.agg #[.int .i64 n, .slice (some ⟨g, 0, none⟩) l.length cap], .int .i64 0]) ∧ Own w' g cap (Zo.clo n l) ∧ w.grownBy w' (some g)) := by
 have := closed_any n l g cap w hn hl hO
 rwa [h] at this
theorem closed_no {n : Nat} {l : List Int} {g cap : Nat} (w : World) (hn : n ≤ 10) (hl : l.length = (n + 1) * (n + 1)) (hO : Own w g cap l) (h : cloE n l ≠ 0) :
  Calls Tryz.prog 94 #[.agg #[.int .i64 n, .slice (some ⟨g, 0, none⟩) l.length cap]] w (fun e w' => e = .returned (.tuple #[.agg #[.int .i64 0, .slice none 0 0], .int .i64 (cloE n l)]) ∧ Own w' g cap (Zo.clo n l) ∧ w.grownBy w' (some g)) := by
 have := closed_any n l g cap w hn hl hO
 rwa [show zres (cloE n l) n g l.length cap = .agg #[.int .i64 0, .slice none 0 0] by unfold zres; rw [if_neg h]] at this
theorem dsq_pos (n : Nat) : 0 < (n + 1) * (n + 1) := Nat.mul_pos (by omega) (by omega)
theorem dsq_le {n : Nat} (hn : n ≤ 10) : (n + 1) * (n + 1) ≤ 121 := by
 have : (n + 1) * (n + 1) ≤ 11 * 11 := Nat.mul_le_mul (by omega) (by omega)
 omega
theorem grown_over {w w1 w2 : World} {g : Nat} (hb : Below w.heap.size w w1) (hg : w1.grownBy w2 (some g)) (hle : w.heap.size ≤ g) : Below w.heap.size w w2 :=
 hb.trans ⟨hg.os, hg.tape, hg.output, hg.size, fun k hk => hg.block k (Nat.lt_of_lt_of_le hk hb.size) (by simp; omega)⟩
theorem fold_len {f : List Int → Nat → List Int} (hf : ∀ x t, (f x t).length = x.length) (l : List Int) (t : Nat) : ((List.range t).foldl f l).length = l.length := by
 induction t with
 | zero => rfl
 | succ t ih => rw [Zo.fold_succ, hf, ih]
def upS (n : Nat) (x : List Int) (t : Nat) : List Int := x.set (Zo.ix n (t + 1) 0) 1099511627776
def upL (n : Nat) (l : List Int) : List Int := (List.range n).foldl (upS n) l
theorem upL_len (n : Nat) (l : List Int) : (upL n l).length = l.length := fold_len (fun x t => by simp [upS]) l n
theorem up_any (n : Nat) (l : List Int) (a : Addr) (cap : Nat) (w : World) (hn : n ≤ 10) (hl : l.length = (n + 1) * (n + 1)) (hR : Rd w a l) (hc : chkE n l = 0) :
  Calls Tryz.prog 63 #[.agg #[.int .i64 n, .slice (some a) l.length cap]] w (ZRes w n (Zo.clo n (upL n l)) (cloE n (upL n l))) := by
 obtain ⟨len, hlen⟩ : ∃ len, len = l.length := ⟨_, rfl⟩
 obtain ⟨w0, hw0⟩ : ∃ w0, w0 = (w.alloc (.cells #[.int .i64 n, .slice (some a) len cap] 36)).alloc (.cells #[.int .i64 0, .slice none 0 0] 36) := ⟨_, rfl⟩
 have bx : Two w0 w.heap.size (.int .i64 n) (.slice (some a) len cap) := by rw [hw0]; exact (Two.made _ _ _ _).alloc _
 have rs : Two w0 (w.heap.size + 1) (.int .i64 0) (.slice none 0 0) := by
  rw [hw0]
  have := Two.made (w.alloc (.cells #[.int .i64 n, .slice (some a) len cap] 36)) (.int .i64 0) (.slice none 0 0) 36
  simpa using this
 have z0 : w0.heap.size = w.heap.size + 2 := by rw [hw0]; simp
 have e0 : Below w.heap.size w w0 := by rw [hw0]; exact past_two (Below.refl _ _)
 have R0 := hR.on e0
 have CK : Hid (∀ W, Rd W a l → Calls Tryz.prog 39 #[.agg #[.int .i64 n, .slice (some a) len cap]] W (Made (.int .i64 0) W)) := Lib.hid fun W h => by have := check_any n l a cap W hn hl h; rw [hc, ← hlen] at this; exact this
 have CP : Hid (∀ W, Rd W a l → Calls Tryz.prog 93 #[.agg #[.int .i64 n, .slice (some a) len cap]] W (fun e w' => ∃ g c, e = .returned (.agg #[.int .i64 n, .slice (some ⟨g, 0, none⟩) len c]) ∧ W.heap.size ≤ g ∧ Own w' g c l ∧ Below W.heap.size W w')) := Lib.hid fun W h => by have := copied_any n l a cap W (by rw [hl]; exact dsq_pos n) (by rw [hl]; have := dsq_le hn; omega) h; rw [← hlen] at this; exact this
 have HR := Lib.hid R0
 have HL := Lib.hid hl
 have HLn := Lib.hid hlen
 have E0 := Lib.hid e0
 rw [← hlen]
 clear hR R0 hl hlen hc e0
 go_enter Tryz.func63, Tryz.ntmps63
 go_wp2_with fail
 rw [← hw0]
 clear hw0
 obtain ⟨b0, b1, b2, b3⟩ := bx.facts
 go_wp2_with fail
 refine (CK.out _ HR.out).mono ?_
 rintro e w1 ⟨rfl, hb1⟩
 clear b0 b1 b2 b3
 replace bx := bx.kept hb1
 replace rs := rs.kept hb1
 have HR1 := Lib.hid (HR.out.on hb1)
 have E1 := Lib.hid (below_on E0.out hb1)
 have z1 := hb1.size
 clear hb1 HR E0
 obtain ⟨b0, b1, b2, b3⟩ := bx.facts
 go_wp2_with fail
 refine (CP.out _ HR1.out).mono ?_
 rintro e w2 ⟨g, c, rfl, hg, ho, hb2⟩
 clear b0 b1 b2 b3
 replace bx := bx.kept hb2
 replace rs := rs.kept hb2
 have E2 := Lib.hid (below_on E1.out hb2)
 have z2 := hb2.size
 clear hb2 E1 HR1
 obtain ⟨b0, b1, b2, b3⟩ := bx.facts
 obtain ⟨w3, hw3⟩ : ∃ w3, w3 = (w2.setCell ⟨w.heap.size, 0, none⟩ (.int .i64 n)).setCell ⟨w.heap.size, 1, none⟩ (.slice (some ⟨g, 0, none⟩) len c) := ⟨_, rfl⟩
 have bx3 : Two w3 w.heap.size (.int .i64 n) (.slice (some ⟨g, 0, none⟩) len c) := by rw [hw3]; exact bx.put _ _
 have rs3 : Two w3 (w.heap.size + 1) (.int .i64 0) (.slice none 0 0) := by rw [hw3]; exact rs.aside (by omega) _ _
 have O3 : Own w3 g c l := by rw [hw3]; exact put_far ho (by omega) _ _
 have E3 : Below w.heap.size w w3 := by rw [hw3]; exact (E2.out.setCell (by show w.heap.size ≤ w.heap.size; omega) _).setCell (by show w.heap.size ≤ w.heap.size; omega) _
 have S3 := Lib.hid (show St w3 g c l w3 from ⟨O3, World.grownBy.refl _ _⟩)
 have HE3 := Lib.hid E3
 clear ho O3 E3 E2 rs bx
 go_wp2_with fail
 rw [← hw3]
 clear hw3 b0 b1 b2 b3
 go_loopw [4] (fun s wr => ∃ (t : Nat) (x : List Int), t ≤ n ∧ s = .int .i64 ((t : Int) + 1) ∧ x.length = len ∧ Hid (x = (List.range t).foldl (upS n) l) ∧ Hid (St w3 g c x wr)) (fun s _ => n + 1 - (intOf s).toNat)
 case atStart => exact ⟨0, l, by omega, rfl, HLn.out.symm, Lib.hid rfl, S3⟩
 case round =>
  obtain ⟨t, x, ht, rfl, hx, HX, HT⟩ := hrel
  have bx4 := bx3.grown HT.out.2 (by omega)
  obtain ⟨b0, b1, b2, b3⟩ := bx4.facts
  by_cases htn : t + 1 ≤ n
  · have lx : x.length = (n + 1) * (n + 1) := by rw [hx, HLn.out, HL.out]
    have SE : Hid (∀ w' : World, St w3 g c x w' → Calls Tryz.prog 111 #[.agg #[.int .i64 n, .slice (some ⟨g, 0, none⟩) len c], .int .i64 ((t : Int) + 1), .int .i64 0, .int .i64 1099511627776] w' (fun e w' => e = .returned (.tuple #[]) ∧ St w3 g c (upS n x t) w')) :=
     Lib.hid fun w' h => by have := set_st (i := t + 1) (j := 0) 1099511627776 hn htn (by omega) lx h; rw [hx] at this; exact this
    go_wp2_with fail
    refine (SE.out _ HT.out).mono ?_
    rintro e w4 ⟨rfl, s4⟩
    have S4 := Lib.hid s4
    clear s4
    go_wp2_with fail
    go_roundw
    case rel => exact ⟨t + 1, _, htn, by go_num, by simpa [upS] using hx, Lib.hid (by rw [Zo.fold_succ, ← HX.out]), S4⟩
    case measure => simp [intOf]; omega
  · have HX2 := Lib.hid (show x = upL n l by rw [HX.out, show t = n by omega]; rfl)
    have lx : x.length = (n + 1) * (n + 1) := by rw [hx, HLn.out, HL.out]
    by_cases hE : cloE n x = 0
    · have CL : Hid (∀ W, Own W g c x → Calls Tryz.prog 94 #[.agg #[.int .i64 n, .slice (some ⟨g, 0, none⟩) len c]] W (fun e w' => e = .returned (.tuple #[.agg #[.int .i64 n, .slice (some ⟨g, 0, none⟩) len c], .int .i64 0]) ∧ Own w' g c (Zo.clo n x) ∧ W.grownBy w' (some g))) := Lib.hid fun W h => by have := closed_ok W hn lx h hE; rw [hx] at this; exact this
      have HEE := Lib.hid hE
      clear hE
      go_wp2_with fail
      refine (CL.out _ HT.out.1).mono ?_
      rintro e w5 ⟨rfl, ho5, hg5⟩
      have rs5 := (rs3.grown HT.out.2 (by omega)).grown hg5 (by omega)
      obtain ⟨q0, q1, q2, q3⟩ := rs5.facts
      have E5 := Lib.hid (grown_over (grown_over HE3.out HT.out.2 (by omega)) hg5 (by omega))
      have HO5 := Lib.hid ho5
      clear ho5 hg5
      go_wp2_with fail
      refine bodyPost_ret (v := .tuple #[.agg #[.int .i64 n, .slice (some ⟨g, 0, none⟩) len c], .int .i64 0]) (by simp [results, Tryz.results63, go_sem, q0, q1]) rfl ⟨(E5.out.setCell (by show w.heap.size ≤ w.heap.size + 1; omega) _).setCell (by show w.heap.size ≤ w.heap.size + 1; omega) _, Or.inl ⟨by rw [← HX2.out]; exact HEE.out, g, c, ?_, by omega, ?_⟩⟩
      · rw [Zo.clo_length, upL_len, ← HLn.out]
      · rw [← HX2.out]; exact put_far HO5.out (by omega) _ _
    · have CL : Hid (∀ W, Own W g c x → Calls Tryz.prog 94 #[.agg #[.int .i64 n, .slice (some ⟨g, 0, none⟩) len c]] W (fun e w' => e = .returned (.tuple #[.agg #[.int .i64 0, .slice none 0 0], .int .i64 (cloE n x)]) ∧ Own w' g c (Zo.clo n x) ∧ W.grownBy w' (some g))) := Lib.hid fun W h => by have := closed_no W hn lx h hE; rw [hx] at this; exact this
      have HEE := Lib.hid hE
      clear hE
      go_wp2_with fail
      refine (CL.out _ HT.out.1).mono ?_
      rintro e w5 ⟨rfl, ho5, hg5⟩
      have rs5 := (rs3.grown HT.out.2 (by omega)).grown hg5 (by omega)
      obtain ⟨q0, q1, q2, q3⟩ := rs5.facts
      have E5 := Lib.hid (grown_over (grown_over HE3.out HT.out.2 (by omega)) hg5 (by omega))
      clear ho5 hg5
      go_wp2_with fail
      refine bodyPost_ret (v := .tuple #[.agg #[.int .i64 0, .slice none 0 0], .int .i64 (cloE n x)]) (by simp [results, Tryz.results63, go_sem, q0, q1]) rfl ⟨(E5.out.setCell (by show w.heap.size ≤ w.heap.size + 1; omega) _).setCell (by show w.heap.size ≤ w.heap.size + 1; omega) _, Or.inr ⟨by rw [← HX2.out]; exact HEE.out, ?_⟩⟩
      rw [HX2.out]
def dnS (n : Nat) (x : List Int) (t : Nat) : List Int := x.set (Zo.ix n 0 (t + 1)) 1
def dnL (n : Nat) (l : List Int) : List Int := (List.range n).foldl (dnS n) l
theorem dnL_len (n : Nat) (l : List Int) : (dnL n l).length = l.length := fold_len (fun x t => by simp [dnS]) l n
theorem dn_any (n : Nat) (l : List Int) (a : Addr) (cap : Nat) (w : World) (hn : n ≤ 10) (hl : l.length = (n + 1) * (n + 1)) (hR : Rd w a l) (hc : chkE n l = 0) :
  Calls Tryz.prog 66 #[.agg #[.int .i64 n, .slice (some a) l.length cap]] w (ZRes w n (Zo.clo n (dnL n l)) (cloE n (dnL n l))) := by
 obtain ⟨len, hlen⟩ : ∃ len, len = l.length := ⟨_, rfl⟩
 obtain ⟨w0, hw0⟩ : ∃ w0, w0 = (w.alloc (.cells #[.int .i64 n, .slice (some a) len cap] 36)).alloc (.cells #[.int .i64 0, .slice none 0 0] 36) := ⟨_, rfl⟩
 have bx : Two w0 w.heap.size (.int .i64 n) (.slice (some a) len cap) := by rw [hw0]; exact (Two.made _ _ _ _).alloc _
 have rs : Two w0 (w.heap.size + 1) (.int .i64 0) (.slice none 0 0) := by
  rw [hw0]
  have := Two.made (w.alloc (.cells #[.int .i64 n, .slice (some a) len cap] 36)) (.int .i64 0) (.slice none 0 0) 36
  simpa using this
 have z0 : w0.heap.size = w.heap.size + 2 := by rw [hw0]; simp
 have e0 : Below w.heap.size w w0 := by rw [hw0]; exact past_two (Below.refl _ _)
 have R0 := hR.on e0
 have CK : Hid (∀ W, Rd W a l → Calls Tryz.prog 39 #[.agg #[.int .i64 n, .slice (some a) len cap]] W (Made (.int .i64 0) W)) := Lib.hid fun W h => by have := check_any n l a cap W hn hl h; rw [hc, ← hlen] at this; exact this
 have CP : Hid (∀ W, Rd W a l → Calls Tryz.prog 93 #[.agg #[.int .i64 n, .slice (some a) len cap]] W (fun e w' => ∃ g c, e = .returned (.agg #[.int .i64 n, .slice (some ⟨g, 0, none⟩) len c]) ∧ W.heap.size ≤ g ∧ Own w' g c l ∧ Below W.heap.size W w')) := Lib.hid fun W h => by have := copied_any n l a cap W (by rw [hl]; exact dsq_pos n) (by rw [hl]; have := dsq_le hn; omega) h; rw [← hlen] at this; exact this
 have HR := Lib.hid R0
 have HL := Lib.hid hl
 have HLn := Lib.hid hlen
 have E0 := Lib.hid e0
 rw [← hlen]
 clear hR R0 hl hlen hc e0
 go_enter Tryz.func66, Tryz.ntmps66
 go_wp2_with fail
 rw [← hw0]
 clear hw0
 obtain ⟨b0, b1, b2, b3⟩ := bx.facts
 go_wp2_with fail
 refine (CK.out _ HR.out).mono ?_
 rintro e w1 ⟨rfl, hb1⟩
 clear b0 b1 b2 b3
 replace bx := bx.kept hb1
 replace rs := rs.kept hb1
 have HR1 := Lib.hid (HR.out.on hb1)
 have E1 := Lib.hid (below_on E0.out hb1)
 have z1 := hb1.size
 clear hb1 HR E0
 obtain ⟨b0, b1, b2, b3⟩ := bx.facts
 go_wp2_with fail
 refine (CP.out _ HR1.out).mono ?_
 rintro e w2 ⟨g, c, rfl, hg, ho, hb2⟩
 clear b0 b1 b2 b3
 replace bx := bx.kept hb2
 replace rs := rs.kept hb2
 have E2 := Lib.hid (below_on E1.out hb2)
 have z2 := hb2.size
 clear hb2 E1 HR1
 obtain ⟨b0, b1, b2, b3⟩ := bx.facts
 obtain ⟨w3, hw3⟩ : ∃ w3, w3 = (w2.setCell ⟨w.heap.size, 0, none⟩ (.int .i64 n)).setCell ⟨w.heap.size, 1, none⟩ (.slice (some ⟨g, 0, none⟩) len c) := ⟨_, rfl⟩
 have bx3 : Two w3 w.heap.size (.int .i64 n) (.slice (some ⟨g, 0, none⟩) len c) := by rw [hw3]; exact bx.put _ _
 have rs3 : Two w3 (w.heap.size + 1) (.int .i64 0) (.slice none 0 0) := by rw [hw3]; exact rs.aside (by omega) _ _
 have O3 : Own w3 g c l := by rw [hw3]; exact put_far ho (by omega) _ _
 have E3 : Below w.heap.size w w3 := by rw [hw3]; exact (E2.out.setCell (by show w.heap.size ≤ w.heap.size; omega) _).setCell (by show w.heap.size ≤ w.heap.size; omega) _
 have S3 := Lib.hid (show St w3 g c l w3 from ⟨O3, World.grownBy.refl _ _⟩)
 have HE3 := Lib.hid E3
 clear ho O3 E3 E2 rs bx
 go_wp2_with fail
 rw [← hw3]
 clear hw3 b0 b1 b2 b3
 go_loopw [4] (fun s wr => ∃ (t : Nat) (x : List Int), t ≤ n ∧ s = .int .i64 ((t : Int) + 1) ∧ x.length = len ∧ Hid (x = (List.range t).foldl (dnS n) l) ∧ Hid (St w3 g c x wr)) (fun s _ => n + 1 - (intOf s).toNat)
 case atStart => exact ⟨0, l, by omega, rfl, HLn.out.symm, Lib.hid rfl, S3⟩
 case round =>
  obtain ⟨t, x, ht, rfl, hx, HX, HT⟩ := hrel
  have bx4 := bx3.grown HT.out.2 (by omega)
  obtain ⟨b0, b1, b2, b3⟩ := bx4.facts
  by_cases htn : t + 1 ≤ n
  · have lx : x.length = (n + 1) * (n + 1) := by rw [hx, HLn.out, HL.out]
    have SE : Hid (∀ w' : World, St w3 g c x w' → Calls Tryz.prog 111 #[.agg #[.int .i64 n, .slice (some ⟨g, 0, none⟩) len c], .int .i64 0, .int .i64 ((t : Int) + 1), .int .i64 1] w' (fun e w' => e = .returned (.tuple #[]) ∧ St w3 g c (dnS n x t) w')) :=
     Lib.hid fun w' h => by have := set_st (i := 0) (j := t + 1) 1 hn (by omega) htn lx h; rw [hx] at this; exact this
    go_wp2_with fail
    refine (SE.out _ HT.out).mono ?_
    rintro e w4 ⟨rfl, s4⟩
    have S4 := Lib.hid s4
    clear s4
    go_wp2_with fail
    go_roundw
    case rel => exact ⟨t + 1, _, htn, by go_num, by simpa [dnS] using hx, Lib.hid (by rw [Zo.fold_succ, ← HX.out]), S4⟩
    case measure => simp [intOf]; omega
  · have HX2 := Lib.hid (show x = dnL n l by rw [HX.out, show t = n by omega]; rfl)
    have lx : x.length = (n + 1) * (n + 1) := by rw [hx, HLn.out, HL.out]
    by_cases hE : cloE n x = 0
    · have CL : Hid (∀ W, Own W g c x → Calls Tryz.prog 94 #[.agg #[.int .i64 n, .slice (some ⟨g, 0, none⟩) len c]] W (fun e w' => e = .returned (.tuple #[.agg #[.int .i64 n, .slice (some ⟨g, 0, none⟩) len c], .int .i64 0]) ∧ Own w' g c (Zo.clo n x) ∧ W.grownBy w' (some g))) := Lib.hid fun W h => by have := closed_ok W hn lx h hE; rw [hx] at this; exact this
      have HEE := Lib.hid hE
      clear hE
      go_wp2_with fail
      refine (CL.out _ HT.out.1).mono ?_
      rintro e w5 ⟨rfl, ho5, hg5⟩
      have rs5 := (rs3.grown HT.out.2 (by omega)).grown hg5 (by omega)
      obtain ⟨q0, q1, q2, q3⟩ := rs5.facts
      have E5 := Lib.hid (grown_over (grown_over HE3.out HT.out.2 (by omega)) hg5 (by omega))
      have HO5 := Lib.hid ho5
      clear ho5 hg5
      go_wp2_with fail
      refine bodyPost_ret (v := .tuple #[.agg #[.int .i64 n, .slice (some ⟨g, 0, none⟩) len c], .int .i64 0]) (by simp [results, Tryz.results66, go_sem, q0, q1]) rfl ⟨(E5.out.setCell (by show w.heap.size ≤ w.heap.size + 1; omega) _).setCell (by show w.heap.size ≤ w.heap.size + 1; omega) _, Or.inl ⟨by rw [← HX2.out]; exact HEE.out, g, c, ?_, by omega, ?_⟩⟩
      · rw [Zo.clo_length, dnL_len, ← HLn.out]
      · rw [← HX2.out]; exact put_far HO5.out (by omega) _ _
    · have CL : Hid (∀ W, Own W g c x → Calls Tryz.prog 94 #[.agg #[.int .i64 n, .slice (some ⟨g, 0, none⟩) len c]] W (fun e w' => e = .returned (.tuple #[.agg #[.int .i64 0, .slice none 0 0], .int .i64 (cloE n x)]) ∧ Own w' g c (Zo.clo n x) ∧ W.grownBy w' (some g))) := Lib.hid fun W h => by have := closed_no W hn lx h hE; rw [hx] at this; exact this
      have HEE := Lib.hid hE
      clear hE
      go_wp2_with fail
      refine (CL.out _ HT.out.1).mono ?_
      rintro e w5 ⟨rfl, ho5, hg5⟩
      have rs5 := (rs3.grown HT.out.2 (by omega)).grown hg5 (by omega)
      obtain ⟨q0, q1, q2, q3⟩ := rs5.facts
      have E5 := Lib.hid (grown_over (grown_over HE3.out HT.out.2 (by omega)) hg5 (by omega))
      clear ho5 hg5
      go_wp2_with fail
      refine bodyPost_ret (v := .tuple #[.agg #[.int .i64 0, .slice none 0 0], .int .i64 (cloE n x)]) (by simp [results, Tryz.results66, go_sem, q0, q1]) rfl ⟨(E5.out.setCell (by show w.heap.size ≤ w.heap.size + 1; omega) _).setCell (by show w.heap.size ≤ w.heap.size + 1; omega) _, Or.inr ⟨by rw [← HX2.out]; exact HEE.out, ?_⟩⟩
      rw [HX2.out]
end Go.Proofs.YthjapmdfcbngmaaGreat
