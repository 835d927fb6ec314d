/- A part. -/
import Derived.Test.YthjapmdfcbngmaaGreatWr11
import Derived.Test.YthjapmdfcbngmaaGreatWr36
namespace Go.Proofs.YthjapmdfcbngmaaGreat
set_option maxHeartbeats 16000000
open Go.RowKit
theorem ex_close : closeE 1 (paL 0 5 false) = 0 ∧ closeE 1 (paL 2 3 false) = 0 ∧ closeE 1 (paL 0 3 false) = 0 ∧ closeE 1 (paL 1 2 false) = 0 ∧ closeE 1 (paL 3 5 true) = 0 ∧ closeE 1 (paL 5 6 false) = 0 ∧ closeE 1 (paL 2 9 true) = 0 ∧ closeE 1 (paL 1 5 false) = 0 ∧ closeE 1 (paL 3 6 true) = 0 := by decide +kernel
theorem ex_min : (minR [paZ 0 5 false] [paZ 2 3 false]).2 = 0 ∧ (minR [paZ 0 5 false] [paZ 2 3 false]).1.length = 2 ∧ (minR [paZ 0 5 false] [paZ 2 3 false]).1[1]? = some (paZ 3 5 true) := by decide +kernel
theorem ex_inc : incR [paZ 0 3 false, paZ 2 9 true] [paZ 1 5 false] = true ∧ incE [paZ 0 3 false, paZ 2 9 true] [paZ 1 5 false] = 0 := by decide +kernel
theorem ex_wit : wtR [paZ 5 6 false] [paZ 2 3 false] = ([paZ 3 6 true], 0) := by decide +kernel
theorem ex_sim : siR [paZ 0 3 false, paZ 1 2 false, paZ 3 5 true] = ([paZ 0 5 false], 0) := by decide +kernel
theorem ex_len (a b : Int) (o : Bool) : (paZ a b o).2.length = 4 := by
 show (Zo.clo 1 (paL a b o)).length = 4
 simp [Zo.clo_length, paL]
theorem three_lit {B : Nat} (x y z : ZV) (w : World) (hx : ZAt B w x) (hy : ZAt B w y) (hz : ZAt B w z) : OwnZ w.heap.size B (w.alloc (.cells #[.int .i64 x.N, .slice x.a x.l.length x.c, .int .i64 y.N, .slice y.a y.l.length y.c, .int .i64 z.N, .slice z.a z.l.length z.c] 36)) (.slice (some ⟨w.heap.size, 0, none⟩) 3 3) [x, y, z] := by
 have hb : Below w.heap.size w (w.alloc (.cells #[.int .i64 x.N, .slice x.a x.l.length x.c, .int .i64 y.N, .slice y.a y.l.length y.c, .int .i64 z.N, .slice z.a z.l.length z.c] 36)) := one_more _
 have hm : ∀ u ∈ [x, y, z], ZAt B w u := by intro u hu; simp at hu; rcases hu with rfl | rfl | rfl <;> assumption
 refine ⟨?_, fun z hz => (hm z hz).on hb, fun z hz p e q => ?_⟩
 · have := World.ownsRow_lit (base := w.heap.size) (e := 36) (size := 2) w #[.int .i64 x.N, .slice x.a x.l.length x.c, .int .i64 y.N, .slice y.a y.l.length y.c, .int .i64 z.N, .slice z.a z.l.length z.c] 3 (by simp) (by unfold maxLen; omega) (by simp)
   simpa [zV, ZV.cs] using this
 · have := ((hm z hz).2 p e).2
   simp [Value.ownBlock] at q
   omega
set_option maxRecDepth 100000 in
theorem shown_any (w : World) : Calls Tryz.prog 9 #[] w (Made (.bool true) w) := by
 have EC := Lib.hid ex_close
 have BB := Lib.hid (Below.refl w.heap.size w)
 have MIN := Lib.hid (show ∀ W (a b : ZV) p q, a.p = paZ 0 5 false → b.p = paZ 2 3 false → RdZ 0 W (some p) [a] → RdZ 0 W (some q) [b] → Calls Tryz.prog 18 #[.slice (some p) 1 1, .slice (some q) 1 1] W (fun e w' => Below W.heap.size W w' ∧ ∃ ao cap L, e = .returned (.tuple #[.slice ao 2 cap, .int .i64 0]) ∧ RdZ 0 w' ao L ∧ L.length = 2 ∧ ∀ h : 1 < L.length, L[1].p = paZ 3 5 true) from by
  intro W a b p q ha hb h1 h2
  refine (fminus_out [a] [b] (some p) (some q) 1 1 W h1 h2 (by simp) (by simp) (by simp) (by simp)).mono ?_
  rintro e w' ⟨k1, ao, cap, L, rfl, k2, k3, k4, k5⟩
  simp only [List.map_cons, List.map_nil, ha, hb] at k3 ⊢
  rw [if_pos ex_min.1] at k3
  have hl : L.length = 2 := by have := congrArg List.length k3; rw [ex_min.2.1] at this; simpa using this
  refine ⟨k1, ao, cap, L, by rw [hl, ex_min.1], k2.low (Nat.zero_le _), hl, fun h => ?_⟩
  have e1 : (L.map ZV.p)[1]? = some (paZ 3 5 true) := by rw [k3]; exact ex_min.2.2
  rw [List.getElem?_map, List.getElem?_eq_getElem h] at e1
  injection e1)
 have SIM := Lib.hid (show ∀ W (a b c : ZV) p, a.p = paZ 0 3 false → b.p = paZ 1 2 false → c.p = paZ 3 5 true → RdZ 0 W (some p) [a, b, c] → Calls Tryz.prog 21 #[.slice (some p) 3 3] W (fun e w' => Below W.heap.size W w' ∧ ∃ ao cap L, e = .returned (.tuple #[.slice ao 1 cap, .int .i64 0]) ∧ RdZ 0 w' ao L ∧ L.map ZV.p = [paZ 0 5 false]) from by
  intro W a b c p ha hb hc h1
  refine (fsimp_out [a, b, c] (some p) 3 W h1 (by simp) (by simp)).mono ?_
  rintro e w' ⟨k1, ao, cap, L, rfl, k2, k3, k4, k5⟩
  simp only [List.map_cons, List.map_nil, ha, hb, hc, ex_sim] at k3 ⊢
  rw [if_pos trivial] at k3
  have hl : L.length = 1 := by have := congrArg List.length k3; simpa using this
  exact ⟨k1, ao, cap, L, by rw [hl], k2.low (Nat.zero_le _), k3⟩)
 have WIT := Lib.hid (show ∀ W (a b : ZV) p q, a.p = paZ 5 6 false → b.p = paZ 2 3 false → RdZ 0 W (some p) [a] → RdZ 0 W (some q) [b] → Calls Tryz.prog 27 #[.slice (some p) 1 1, .slice (some q) 1 1] W (fun e w' => Below W.heap.size W w' ∧ ∃ ao cap L, e = .returned (.tuple #[.slice ao 1 cap, .int .i64 0]) ∧ RdZ 0 w' ao L ∧ L.map ZV.p = [paZ 3 6 true]) from by
  intro W a b p q ha hb h1 h2
  refine (fwithin_out [a] [b] (some p) (some q) 1 1 W h1 h2 (by simp) (by simp) (by simp) (by simp)).mono ?_
  rintro e w' ⟨k1, ao, cap, L, rfl, k2, k3, k4, k5⟩
  simp only [List.map_cons, List.map_nil, ha, hb, ex_wit] at k3 ⊢
  rw [if_pos trivial] at k3
  have hl : L.length = 1 := by have := congrArg List.length k3; simpa using this
  exact ⟨k1, ao, cap, L, by rw [hl], k2.low (Nat.zero_le _), k3⟩)
 have INC := Lib.hid (show ∀ W (a b c : ZV) p q, a.p = paZ 0 3 false → b.p = paZ 2 9 true → c.p = paZ 1 5 false → RdZ 0 W (some p) [a, b] → RdZ 0 W (some q) [c] → Calls Tryz.prog 16 #[.slice (some p) 2 2, .slice (some q) 1 1] W (fun e w' => Below W.heap.size W w' ∧ e = .returned (.tuple #[.bool true, .int .i64 0])) from by
  intro W a b c p q ha hb hc h1 h2
  refine (fincludes_out [a, b] [c] (some p) (some q) 2 1 W h1 h2 (by simp) (by simp) (by simp) (by simp)).mono ?_
  rintro e w' ⟨k1, rfl⟩
  simp only [List.map_cons, List.map_nil, ha, hb, hc, ex_inc.1, ex_inc.2]
  exact ⟨k1, trivial⟩)
 have SA3 := Lib.hid (show ∀ W (a : ZV) al, a.p = paZ 3 5 true → al = a.l.length → ZAt 0 W a → ∀ {b : ZV} {bl : Nat}, b.p = paZ 3 5 true → bl = b.l.length → ZAt 0 W b → Calls Tryz.prog 37 #[.agg #[.int .i64 b.N, .slice b.a bl b.c], .agg #[.int .i64 a.N, .slice a.a al a.c]] W (Made (.bool true) W) from by
  intro W a al ha hal h1 b bl hb hbl h2
  have := same_any b.N a.N b.l a.l b.a a.a b.c a.c W h2.1 h1.1 (by have := ex_len 3 5 true; rw [← hb] at this; have e : b.l.length = 4 := this; omega)
  have e1 : b.N = a.N := congrArg Prod.fst (hb.trans ha.symm)
  have e2 : b.l = a.l := congrArg Prod.snd (hb.trans ha.symm)
  rw [show smB b.N a.N b.l a.l = true by rw [e1, e2]; exact smB_refl _ _] at this
  rw [hal, hbl]; exact this)
 have SA5 := Lib.hid (show ∀ W ao cap (L : List ZV) bo cbp (M : List ZV), RdZ 0 W ao L → RdZ 0 W bo M → (∃ a b o, L.map ZV.p = [paZ a b o] ∧ M.map ZV.p = [paZ a b o]) → Calls Tryz.prog 19 #[.slice ao 1 cap, .slice bo 1 cbp] W (Made (.bool true) W) from by
  rintro W ao cap L bo cbp M h1 h2 ⟨a, b, o, e1, e2⟩
  have l1 : L.length = 1 := by have := congrArg List.length e1; simpa using this
  have l2 : M.length = 1 := by have := congrArg List.length e2; simpa using this
  have := rsameL_any L M ao bo cap cbp W h1 h2 (by omega) (e1.trans e2.symm) (fun z hz => by
   have : z.p ∈ L.map ZV.p := List.mem_map.2 ⟨z, hz, rfl⟩
   rw [e1, List.mem_singleton] at this
   have k := ex_len a b o
   rw [← this] at k
   have e : z.l.length = 4 := k
   omega)
  rw [l1, l2] at this
  exact this)
 go_enter Tryz.func9, Tryz.ntmps9
 go_wp2_with fail
 refine (part_any 0 5 false _ ⟨by omega, by omega⟩ ⟨by omega, by omega⟩ EC.out.1).mono ?_
 rintro e w10 ⟨hb, z10, rfl, hz, hp⟩
 have P10 := Lib.hid hp
 have A10 := Lib.hid (show ZAt 0 w10 z10 from hz.low (Nat.zero_le _))
 have BB := Lib.hid (below_on BB.out hb)
 unfold ZV.val
 obtain ⟨l10, hl10⟩ : ∃ l10, l10 = z10.l.length := ⟨_, rfl⟩
 rw [← hl10]
 have HL10 := Lib.hid hl10
 clear hb hz hp hl10
 obtain ⟨v11, hv11⟩ : ∃ v11, v11 = w10.alloc (.cells #[.int .i64 z10.N, .slice z10.a l10 z10.c] 36) := ⟨_, rfl⟩
 have hbv : Below w10.heap.size w10 v11 := by rw [hv11]; exact one_more _
 have R11 := Lib.hid (show RdZ 0 v11 (some ⟨w10.heap.size, 0, none⟩) [z10] from by
  have q := (show OwnZ _ 0 _ (.slice (some ⟨w10.heap.size, 0, none⟩) [z10].length 1) [z10] from one_lit z10 w10 A10.out).rd.1
  rw [← HL10.out, ← hv11] at q
  exact q)
 have BB := Lib.hid (below_on BB.out hbv)
 clear hbv
 go_wp2_with fail
 rw [← hv11]
 clear hv11
 refine (part_any 2 3 false _ ⟨by omega, by omega⟩ ⟨by omega, by omega⟩ EC.out.2.1).mono ?_
 rintro e w12 ⟨hb, z12, rfl, hz, hp⟩
 have P12 := Lib.hid hp
 have R11 := Lib.hid (R11.out.on hb)
 have A12 := Lib.hid (show ZAt 0 w12 z12 from hz.low (Nat.zero_le _))
 have BB := Lib.hid (below_on BB.out hb)
 unfold ZV.val
 obtain ⟨l12, hl12⟩ : ∃ l12, l12 = z12.l.length := ⟨_, rfl⟩
 rw [← hl12]
 have HL12 := Lib.hid hl12
 clear hb hz hp hl12
 obtain ⟨v13, hv13⟩ : ∃ v13, v13 = w12.alloc (.cells #[.int .i64 z12.N, .slice z12.a l12 z12.c] 36) := ⟨_, rfl⟩
 have hbv : Below w12.heap.size w12 v13 := by rw [hv13]; exact one_more _
 have R13 := Lib.hid (show RdZ 0 v13 (some ⟨w12.heap.size, 0, none⟩) [z12] from by
  have q := (show OwnZ _ 0 _ (.slice (some ⟨w12.heap.size, 0, none⟩) [z12].length 1) [z12] from one_lit z12 w12 A12.out).rd.1
  rw [← HL12.out, ← hv13] at q
  exact q)
 have R11 := Lib.hid (R11.out.on hbv)
 have BB := Lib.hid (below_on BB.out hbv)
 clear hbv
 go_wp2_with fail
 rw [← hv13]
 clear hv13
 refine (MIN.out _ z10 z12 _ _ P10.out P12.out R11.out R13.out).mono ?_
 rintro e w14 ⟨hb, ao, cap, L, rfl, rl, ll, lp⟩
 have hb1 := ll
 obtain ⟨pa, epa, c0, c1⟩ := rl.hd 1 (by omega)
 obtain ⟨y, hy⟩ : ∃ y, y = L[1]'(by omega) := ⟨_, rfl⟩
 rw [← hy] at c0 c1
 have YZ := Lib.hid (show ZAt 0 w14 y from rl.el y (by rw [hy]; exact List.getElem_mem _))
 have YP := Lib.hid (show y.p = paZ 3 5 true from by rw [hy]; exact lp _)
 obtain ⟨yl, hyl⟩ : ∃ yl, yl = y.l.length := ⟨_, rfl⟩
 rw [← hyl] at c1
 have HYL := Lib.hid hyl
 have C01 := Lib.hid (show w14.cell? ⟨pa.block, pa.off + 2, none⟩ = some (.int .i64 y.N) ∧ w14.cell? ⟨pa.block, pa.off + 2 + 1, none⟩ = some (.slice y.a yl y.c) from And.intro (by simpa [Addr.add] using c0) (by simpa [Addr.add] using c1))
 have BB := Lib.hid (below_on BB.out hb)
 subst epa
 clear hb rl ll lp hb1 hy c0 c1 hyl MIN R11 R13
 go_wp2_with fail
 refine (part_any 0 3 false _ ⟨by omega, by omega⟩ ⟨by omega, by omega⟩ EC.out.2.2.1).mono ?_
 rintro e w18 ⟨hb, z18, rfl, hz, hp⟩
 have P18 := Lib.hid hp
 have YZ := Lib.hid (YZ.out.on hb)
 have C01 := Lib.hid (And.intro (kept hb C01.out.1) (kept hb C01.out.2))
 have A18 := Lib.hid (show ZAt 0 w18 z18 from hz.low (Nat.zero_le _))
 have BB := Lib.hid (below_on BB.out hb)
 unfold ZV.val
 obtain ⟨l18, hl18⟩ : ∃ l18, l18 = z18.l.length := ⟨_, rfl⟩
 rw [← hl18]
 have HL18 := Lib.hid hl18
 clear hb hz hp hl18
 go_wp2_with fail
 refine (part_any 1 2 false _ ⟨by omega, by omega⟩ ⟨by omega, by omega⟩ EC.out.2.2.2.1).mono ?_
 rintro e w19 ⟨hb, z19, rfl, hz, hp⟩
 have P19 := Lib.hid hp
 have A18 := Lib.hid (A18.out.on hb)
 have YZ := Lib.hid (YZ.out.on hb)
 have C01 := Lib.hid (And.intro (kept hb C01.out.1) (kept hb C01.out.2))
 have A19 := Lib.hid (show ZAt 0 w19 z19 from hz.low (Nat.zero_le _))
 have BB := Lib.hid (below_on BB.out hb)
 unfold ZV.val
 obtain ⟨l19, hl19⟩ : ∃ l19, l19 = z19.l.length := ⟨_, rfl⟩
 rw [← hl19]
 have HL19 := Lib.hid hl19
 clear hb hz hp hl19
 go_wp2_with fail
 refine (part_any 3 5 true _ ⟨by omega, by omega⟩ ⟨by omega, by omega⟩ EC.out.2.2.2.2.1).mono ?_
 rintro e w20 ⟨hb, z20, rfl, hz, hp⟩
 have P20 := Lib.hid hp
 have A18 := Lib.hid (A18.out.on hb)
 have A19 := Lib.hid (A19.out.on hb)
 have YZ := Lib.hid (YZ.out.on hb)
 have C01 := Lib.hid (And.intro (kept hb C01.out.1) (kept hb C01.out.2))
 have A20 := Lib.hid (show ZAt 0 w20 z20 from hz.low (Nat.zero_le _))
 have BB := Lib.hid (below_on BB.out hb)
 unfold ZV.val
 obtain ⟨l20, hl20⟩ : ∃ l20, l20 = z20.l.length := ⟨_, rfl⟩
 rw [← hl20]
 have HL20 := Lib.hid hl20
 clear hb hz hp hl20
 obtain ⟨v21, hv21⟩ : ∃ v21, v21 = w20.alloc (.cells #[.int .i64 z18.N, .slice z18.a l18 z18.c, .int .i64 z19.N, .slice z19.a l19 z19.c, .int .i64 z20.N, .slice z20.a l20 z20.c] 36) := ⟨_, rfl⟩
 have hbv : Below w20.heap.size w20 v21 := by rw [hv21]; exact one_more _
 have R21 := Lib.hid (show RdZ 0 v21 (some ⟨w20.heap.size, 0, none⟩) [z18, z19, z20] from by
  have q := (show OwnZ _ 0 _ (.slice (some ⟨w20.heap.size, 0, none⟩) [z18, z19, z20].length 3) [z18, z19, z20] from three_lit z18 z19 z20 w20 A18.out A19.out A20.out).rd.1
  rw [← HL18.out, ← HL19.out, ← HL20.out, ← hv21] at q
  exact q)
 have BB := Lib.hid (below_on BB.out hbv)
 have C01 := Lib.hid (And.intro (kept hbv C01.out.1) (kept hbv C01.out.2))
 have YZ := Lib.hid (YZ.out.on hbv)
 clear hbv
 go_wp2_with fail
 rw [← hv21]
 clear hv21
 refine (SIM.out _ z18 z19 z20 _ P18.out P19.out P20.out R21.out).mono ?_
 rintro e w22 ⟨hb, ao22, cap22, L22, rfl, rl, lp⟩
 have YZ := Lib.hid (YZ.out.on hb)
 have C01 := Lib.hid (And.intro (kept hb C01.out.1) (kept hb C01.out.2))
 have RS := Lib.hid rl
 have LP22 := Lib.hid lp
 have BB := Lib.hid (below_on BB.out hb)
 clear hb rl lp SIM R21
 go_wp2_with fail
 refine (part_any 5 6 false _ ⟨by omega, by omega⟩ ⟨by omega, by omega⟩ EC.out.2.2.2.2.2.1).mono ?_
 rintro e w26 ⟨hb, z26, rfl, hz, hp⟩
 have P26 := Lib.hid hp
 have RS := Lib.hid (RS.out.on hb)
 have YZ := Lib.hid (YZ.out.on hb)
 have C01 := Lib.hid (And.intro (kept hb C01.out.1) (kept hb C01.out.2))
 have A26 := Lib.hid (show ZAt 0 w26 z26 from hz.low (Nat.zero_le _))
 have BB := Lib.hid (below_on BB.out hb)
 unfold ZV.val
 obtain ⟨l26, hl26⟩ : ∃ l26, l26 = z26.l.length := ⟨_, rfl⟩
 rw [← hl26]
 have HL26 := Lib.hid hl26
 clear hb hz hp hl26
 obtain ⟨v27, hv27⟩ : ∃ v27, v27 = w26.alloc (.cells #[.int .i64 z26.N, .slice z26.a l26 z26.c] 36) := ⟨_, rfl⟩
 have hbv : Below w26.heap.size w26 v27 := by rw [hv27]; exact one_more _
 have R27 := Lib.hid (show RdZ 0 v27 (some ⟨w26.heap.size, 0, none⟩) [z26] from by
  have q := (show OwnZ _ 0 _ (.slice (some ⟨w26.heap.size, 0, none⟩) [z26].length 1) [z26] from one_lit z26 w26 A26.out).rd.1
  rw [← HL26.out, ← hv27] at q
  exact q)
 have RS := Lib.hid (RS.out.on hbv)
 have BB := Lib.hid (below_on BB.out hbv)
 have C01 := Lib.hid (And.intro (kept hbv C01.out.1) (kept hbv C01.out.2))
 have YZ := Lib.hid (YZ.out.on hbv)
 clear hbv
 go_wp2_with fail
 rw [← hv27]
 clear hv27
 refine (part_any 2 3 false _ ⟨by omega, by omega⟩ ⟨by omega, by omega⟩ EC.out.2.1).mono ?_
 rintro e w28 ⟨hb, z28, rfl, hz, hp⟩
 have P28 := Lib.hid hp
 have RS := Lib.hid (RS.out.on hb)
 have R27 := Lib.hid (R27.out.on hb)
 have YZ := Lib.hid (YZ.out.on hb)
 have C01 := Lib.hid (And.intro (kept hb C01.out.1) (kept hb C01.out.2))
 have A28 := Lib.hid (show ZAt 0 w28 z28 from hz.low (Nat.zero_le _))
 have BB := Lib.hid (below_on BB.out hb)
 unfold ZV.val
 obtain ⟨l28, hl28⟩ : ∃ l28, l28 = z28.l.length := ⟨_, rfl⟩
 rw [← hl28]
 have HL28 := Lib.hid hl28
 clear hb hz hp hl28
 obtain ⟨v29, hv29⟩ : ∃ v29, v29 = w28.alloc (.cells #[.int .i64 z28.N, .slice z28.a l28 z28.c] 36) := ⟨_, rfl⟩
 have hbv : Below w28.heap.size w28 v29 := by rw [hv29]; exact one_more _
 have R29 := Lib.hid (show RdZ 0 v29 (some ⟨w28.heap.size, 0, none⟩) [z28] from by
  have q := (show OwnZ _ 0 _ (.slice (some ⟨w28.heap.size, 0, none⟩) [z28].length 1) [z28] from one_lit z28 w28 A28.out).rd.1
  rw [← HL28.out, ← hv29] at q
  exact q)
 have RS := Lib.hid (RS.out.on hbv)
 have R27 := Lib.hid (R27.out.on hbv)
 have BB := Lib.hid (below_on BB.out hbv)
 have C01 := Lib.hid (And.intro (kept hbv C01.out.1) (kept hbv C01.out.2))
 have YZ := Lib.hid (YZ.out.on hbv)
 clear hbv
 go_wp2_with fail
 rw [← hv29]
 clear hv29
 refine (WIT.out _ z26 z28 _ _ P26.out P28.out R27.out R29.out).mono ?_
 rintro e w30 ⟨hb, ao30, cap30, L30, rfl, rl, lp⟩
 have RS := Lib.hid (RS.out.on hb)
 have YZ := Lib.hid (YZ.out.on hb)
 have C01 := Lib.hid (And.intro (kept hb C01.out.1) (kept hb C01.out.2))
 have RW := Lib.hid rl
 have LP30 := Lib.hid lp
 have BB := Lib.hid (below_on BB.out hb)
 clear hb rl lp WIT R27 R29
 go_wp2_with fail
 refine (part_any 0 3 false _ ⟨by omega, by omega⟩ ⟨by omega, by omega⟩ EC.out.2.2.1).mono ?_
 rintro e w34 ⟨hb, z34, rfl, hz, hp⟩
 have P34 := Lib.hid hp
 have RS := Lib.hid (RS.out.on hb)
 have RW := Lib.hid (RW.out.on hb)
 have YZ := Lib.hid (YZ.out.on hb)
 have C01 := Lib.hid (And.intro (kept hb C01.out.1) (kept hb C01.out.2))
 have A34 := Lib.hid (show ZAt 0 w34 z34 from hz.low (Nat.zero_le _))
 have BB := Lib.hid (below_on BB.out hb)
 unfold ZV.val
 obtain ⟨l34, hl34⟩ : ∃ l34, l34 = z34.l.length := ⟨_, rfl⟩
 rw [← hl34]
 have HL34 := Lib.hid hl34
 clear hb hz hp hl34
 go_wp2_with fail
 refine (part_any 2 9 true _ ⟨by omega, by omega⟩ ⟨by omega, by omega⟩ EC.out.2.2.2.2.2.2.1).mono ?_
 rintro e w35 ⟨hb, z35, rfl, hz, hp⟩
 have P35 := Lib.hid hp
 have A34 := Lib.hid (A34.out.on hb)
 have RS := Lib.hid (RS.out.on hb)
 have RW := Lib.hid (RW.out.on hb)
 have YZ := Lib.hid (YZ.out.on hb)
 have C01 := Lib.hid (And.intro (kept hb C01.out.1) (kept hb C01.out.2))
 have A35 := Lib.hid (show ZAt 0 w35 z35 from hz.low (Nat.zero_le _))
 have BB := Lib.hid (below_on BB.out hb)
 unfold ZV.val
 obtain ⟨l35, hl35⟩ : ∃ l35, l35 = z35.l.length := ⟨_, rfl⟩
 rw [← hl35]
 have HL35 := Lib.hid hl35
 clear hb hz hp hl35
 obtain ⟨v36, hv36⟩ : ∃ v36, v36 = w35.alloc (.cells #[.int .i64 z34.N, .slice z34.a l34 z34.c, .int .i64 z35.N, .slice z35.a l35 z35.c] 36) := ⟨_, rfl⟩
 have hbv : Below w35.heap.size w35 v36 := by rw [hv36]; exact one_more _
 have R36 := Lib.hid (show RdZ 0 v36 (some ⟨w35.heap.size, 0, none⟩) [z34, z35] from by
  have q := (show OwnZ _ 0 _ (.slice (some ⟨w35.heap.size, 0, none⟩) [z34, z35].length 2) [z34, z35] from two_lit z34 z35 w35 A34.out A35.out).rd.1
  rw [← HL34.out, ← HL35.out, ← hv36] at q
  exact q)
 have RS := Lib.hid (RS.out.on hbv)
 have RW := Lib.hid (RW.out.on hbv)
 have BB := Lib.hid (below_on BB.out hbv)
 have C01 := Lib.hid (And.intro (kept hbv C01.out.1) (kept hbv C01.out.2))
 have YZ := Lib.hid (YZ.out.on hbv)
 clear hbv
 go_wp2_with fail
 rw [← hv36]
 clear hv36
 refine (part_any 1 5 false _ ⟨by omega, by omega⟩ ⟨by omega, by omega⟩ EC.out.2.2.2.2.2.2.2.1).mono ?_
 rintro e w37 ⟨hb, z37, rfl, hz, hp⟩
 have P37 := Lib.hid hp
 have RS := Lib.hid (RS.out.on hb)
 have RW := Lib.hid (RW.out.on hb)
 have R36 := Lib.hid (R36.out.on hb)
 have YZ := Lib.hid (YZ.out.on hb)
 have C01 := Lib.hid (And.intro (kept hb C01.out.1) (kept hb C01.out.2))
 have A37 := Lib.hid (show ZAt 0 w37 z37 from hz.low (Nat.zero_le _))
 have BB := Lib.hid (below_on BB.out hb)
 unfold ZV.val
 obtain ⟨l37, hl37⟩ : ∃ l37, l37 = z37.l.length := ⟨_, rfl⟩
 rw [← hl37]
 have HL37 := Lib.hid hl37
 clear hb hz hp hl37
 obtain ⟨v38, hv38⟩ : ∃ v38, v38 = w37.alloc (.cells #[.int .i64 z37.N, .slice z37.a l37 z37.c] 36) := ⟨_, rfl⟩
 have hbv : Below w37.heap.size w37 v38 := by rw [hv38]; exact one_more _
 have R38 := Lib.hid (show RdZ 0 v38 (some ⟨w37.heap.size, 0, none⟩) [z37] from by
  have q := (show OwnZ _ 0 _ (.slice (some ⟨w37.heap.size, 0, none⟩) [z37].length 1) [z37] from one_lit z37 w37 A37.out).rd.1
  rw [← HL37.out, ← hv38] at q
  exact q)
 have RS := Lib.hid (RS.out.on hbv)
 have RW := Lib.hid (RW.out.on hbv)
 have R36 := Lib.hid (R36.out.on hbv)
 have BB := Lib.hid (below_on BB.out hbv)
 have C01 := Lib.hid (And.intro (kept hbv C01.out.1) (kept hbv C01.out.2))
 have YZ := Lib.hid (YZ.out.on hbv)
 clear hbv
 go_wp2_with fail
 rw [← hv38]
 clear hv38
 refine (INC.out _ z34 z35 z37 _ _ P34.out P35.out P37.out R36.out R38.out).mono ?_
 rintro e w39 ⟨hb, rfl⟩
 have RS := Lib.hid (RS.out.on hb)
 have RW := Lib.hid (RW.out.on hb)
 have YZ := Lib.hid (YZ.out.on hb)
 have C01 := Lib.hid (And.intro (kept hb C01.out.1) (kept hb C01.out.2))
 have BB := Lib.hid (below_on BB.out hb)
 clear hb INC R36 R38
 go_upto_region 7 with (fail)
 have KS := Lib.hid (show ∀ W, Below w39.heap.size w39 W → (W.cell? ⟨pa.block, pa.off + 2, none⟩ = some (.int .i64 y.N) ∧ W.cell? ⟨pa.block, pa.off + 2 + 1, none⟩ = some (.slice y.a yl y.c)) from fun W h => ⟨kept h C01.out.1, kept h C01.out.2⟩)
 obtain ⟨wc, hwc⟩ : ∃ wc, wc = w39.drew := ⟨_, rfl⟩
 have Bc := Lib.hid (show Below w39.heap.size w39 wc by rw [hwc]; exact (Below.refl _ _).drew)
 refine wp_region_held_drew (S := (fun W => (W.cell? ⟨pa.block, pa.off + 2, none⟩ = some (.int .i64 y.N) ∧ W.cell? ⟨pa.block, pa.off + 2 + 1, none⟩ = some (.slice y.a yl y.c)))) (by kernel_rfl) (by rw [← hwc]; exact KS.out _ Bc.out) (fun h0 => ?_)
 rw [← hwc] at h0 ⊢
 clear hwc
 refine tkI (i := 0) rfl h0 ?_
 simp only [Act.put, sA, sB, sD, sE, sF]
 refine tkI (i := 1) rfl h0 ?_
 simp only [Act.put, sZ]
 refine tkI (i := 2) rfl h0 ?_
 simp only [Act.put, sZ]
 refine tkI (i := 3) rfl h0 ?_
 simp only [Act.put, sZ]
 refine tkI (i := 4) rfl h0 ?_
 simp only [Act.put, sZ]
 refine tkI (i := 5) rfl h0 ?_
 simp only [Act.put, sZ]
 refine tkI (i := 6) rfl h0 ?_
 simp only [Act.put, sZ]
 refine wpAnyH_ready (rs := [7]) (by kernel_rfl) (by simp) (AllReadyH.cons rfl (fun K hK => ?_) AllReadyH.nil)
 rw [if_pos (by rfl)]
 go_simp
 refine (part_any 3 5 true wc ⟨by omega, by omega⟩ ⟨by omega, by omega⟩ EC.out.2.2.2.2.1).mono ?_
 rintro e wd ⟨hb, z67, rfl, hz, hp⟩
 have P67 := Lib.hid hp
 have A67 := Lib.hid (show ZAt 0 wd z67 from hz.low (Nat.zero_le _))
 have Bc := Lib.hid (below_on Bc.out hb)
 unfold ZV.val
 obtain ⟨l67, hl⟩ : ∃ l67, l67 = z67.l.length := ⟨_, rfl⟩
 rw [← hl]
 have HL67 := Lib.hid hl
 clear hb hz hp hl
 obtain ⟨wc, hwc⟩ : ∃ wc, wc = wd := ⟨_, rfl⟩
 rw [← hwc] at Bc A67 ⊢
 clear hwc
 go_simp
 refine hK.out _ _ (KS.out _ Bc.out) (fun h0_1 => ?_)
 clear hK K h0
 refine wpAnyH_ready (rs := [8]) (by kernel_rfl) (by simp) (AllReadyH.cons rfl (fun K hK => ?_) AllReadyH.nil)
 rw [if_pos (by rfl)]
 go_simp
 refine (SA3.out wc z67 l67 P67.out HL67.out A67.out YP.out HYL.out (YZ.out.on Bc.out)).mono ?_
 rintro e wd ⟨rfl, hb⟩
 have Bc := Lib.hid (below_on Bc.out hb)
 clear hb
 obtain ⟨wc, hwc⟩ : ∃ wc, wc = wd := ⟨_, rfl⟩
 rw [← hwc] at Bc ⊢
 clear hwc
 go_simp
 refine hK.out _ _ (KS.out _ Bc.out) (fun h0_2 => ?_)
 clear hK K h0_1
 refine tkI (i := 9) rfl h0_2 ?_
 simp only [Act.put, sZ]
 refine tkI (i := 10) rfl h0_2 ?_
 simp only [Act.put, sZ]
 refine tkI (i := 11) rfl h0_2 ?_
 simp only [Act.put, sZ]
 refine wpAnyH_ready (rs := [12]) (by kernel_rfl) (by simp) (AllReadyH.cons rfl (fun K hK => ?_) AllReadyH.nil)
 rw [if_pos (by rfl)]
 go_simp
 refine (part_any 0 5 false wc ⟨by omega, by omega⟩ ⟨by omega, by omega⟩ EC.out.1).mono ?_
 rintro e wd ⟨hb, z72, rfl, hz, hp⟩
 have P72 := Lib.hid hp
 have A72 := Lib.hid (show ZAt 0 wd z72 from hz.low (Nat.zero_le _))
 have Bc := Lib.hid (below_on Bc.out hb)
 unfold ZV.val
 obtain ⟨l72, hl⟩ : ∃ l72, l72 = z72.l.length := ⟨_, rfl⟩
 rw [← hl]
 have HL72 := Lib.hid hl
 clear hb hz hp hl
 obtain ⟨wc, hwc⟩ : ∃ wc, wc = wd := ⟨_, rfl⟩
 rw [← hwc] at Bc A72 ⊢
 clear hwc
 go_simp
 refine hK.out _ _ (KS.out _ Bc.out) (fun h0_3 => ?_)
 clear hK K h0_2
 refine wpAnyH_ready (rs := [13]) (by kernel_rfl) (by simp) (AllReadyH.cons rfl (fun K hK => ?_) AllReadyH.nil)
 rw [if_pos (by rfl)]
 go_simp
 have hb := one_more (w1 := wc) (.cells #[.int .i64 z72.N, .slice z72.a l72 z72.c] 36)
 have hP := (show RdZ 0 (wc.alloc (.cells #[.int .i64 z72.N, .slice z72.a l72 z72.c] 36)) (some ⟨wc.heap.size, 0, none⟩) [z72] from by have q := (show OwnZ _ 0 _ (.slice (some ⟨wc.heap.size, 0, none⟩) [z72].length 1) [z72] from one_lit z72 wc A72.out).rd.1; rw [← HL72.out] at q; exact q)
 have hz := Bc.out.size
 obtain ⟨b73, hbb⟩ : ∃ b, b = wc.heap.size := ⟨_, rfl⟩
 rw [← hbb] at hP hz
 obtain ⟨wn, hwn⟩ : ∃ wn, wn = wc.alloc (.cells #[.int .i64 z72.N, .slice z72.a l72 z72.c] 36) := ⟨_, rfl⟩
 rw [← hwn] at hb hP ⊢
 try rw [← hbb]
 have Bc := Lib.hid (below_on Bc.out hb)
 have R73 := Lib.hid hP
 have Zb73 := Lib.hid hz
 clear hb hP hz hbb hwn
 obtain ⟨wc, hwc⟩ : ∃ wc, wc = wn := ⟨_, rfl⟩
 rw [← hwc] at Bc R73 ⊢
 clear hwc
 go_simp
 refine hK.out _ _ (KS.out _ Bc.out) (fun h0_4 => ?_)
 clear hK K h0_3
 refine wpAnyH_ready (rs := [14]) (by kernel_rfl) (by simp) (AllReadyH.cons rfl (fun K hK => ?_) AllReadyH.nil)
 rw [if_pos (by rfl)]
 go_simp
 refine (SA5.out wc ao22 cap22 L22 (some ⟨b73, 0, none⟩) 1 [z72] (RS.out.on Bc.out) R73.out ⟨0, 5, false, LP22.out, by rw [List.map_cons, List.map_nil, P72.out]⟩).mono ?_
 rintro e wd ⟨rfl, hb⟩
 have Bc := Lib.hid (below_on Bc.out hb)
 clear hb
 obtain ⟨wc, hwc⟩ : ∃ wc, wc = wd := ⟨_, rfl⟩
 rw [← hwc] at Bc ⊢
 clear hwc
 go_simp
 refine hK.out _ _ (KS.out _ Bc.out) (fun h0_5 => ?_)
 clear hK K h0_4
 refine tkI (i := 15) rfl h0_5 ?_
 simp only [Act.put, sZ]
 refine tkI (i := 16) rfl h0_5 ?_
 simp only [Act.put, sZ]
 refine tkI (i := 17) rfl h0_5 ?_
 simp only [Act.put, sZ]
 refine wpAnyH_ready (rs := [18]) (by kernel_rfl) (by simp) (AllReadyH.cons rfl (fun K hK => ?_) AllReadyH.nil)
 rw [if_pos (by rfl)]
 go_simp
 refine (part_any 3 6 true wc ⟨by omega, by omega⟩ ⟨by omega, by omega⟩ EC.out.2.2.2.2.2.2.2.2).mono ?_
 rintro e wd ⟨hb, z78, rfl, hz, hp⟩
 have P78 := Lib.hid hp
 have A78 := Lib.hid (show ZAt 0 wd z78 from hz.low (Nat.zero_le _))
 have Bc := Lib.hid (below_on Bc.out hb)
 unfold ZV.val
 obtain ⟨l78, hl⟩ : ∃ l78, l78 = z78.l.length := ⟨_, rfl⟩
 rw [← hl]
 have HL78 := Lib.hid hl
 clear hb hz hp hl
 obtain ⟨wc, hwc⟩ : ∃ wc, wc = wd := ⟨_, rfl⟩
 rw [← hwc] at Bc A78 ⊢
 clear hwc
 go_simp
 refine hK.out _ _ (KS.out _ Bc.out) (fun h0_6 => ?_)
 clear hK K h0_5
 refine wpAnyH_ready (rs := [19]) (by kernel_rfl) (by simp) (AllReadyH.cons rfl (fun K hK => ?_) AllReadyH.nil)
 rw [if_pos (by rfl)]
 go_simp
 have hb := one_more (w1 := wc) (.cells #[.int .i64 z78.N, .slice z78.a l78 z78.c] 36)
 have hP := (show RdZ 0 (wc.alloc (.cells #[.int .i64 z78.N, .slice z78.a l78 z78.c] 36)) (some ⟨wc.heap.size, 0, none⟩) [z78] from by have q := (show OwnZ _ 0 _ (.slice (some ⟨wc.heap.size, 0, none⟩) [z78].length 1) [z78] from one_lit z78 wc A78.out).rd.1; rw [← HL78.out] at q; exact q)
 have hz := Bc.out.size
 obtain ⟨b79, hbb⟩ : ∃ b, b = wc.heap.size := ⟨_, rfl⟩
 rw [← hbb] at hP hz
 obtain ⟨wn, hwn⟩ : ∃ wn, wn = wc.alloc (.cells #[.int .i64 z78.N, .slice z78.a l78 z78.c] 36) := ⟨_, rfl⟩
 rw [← hwn] at hb hP ⊢
 try rw [← hbb]
 have Bc := Lib.hid (below_on Bc.out hb)
 have R79 := Lib.hid hP
 have Zb79 := Lib.hid hz
 clear hb hP hz hbb hwn
 obtain ⟨wc, hwc⟩ : ∃ wc, wc = wn := ⟨_, rfl⟩
 rw [← hwc] at Bc R79 ⊢
 clear hwc
 go_simp
 refine hK.out _ _ (KS.out _ Bc.out) (fun h0_7 => ?_)
 clear hK K h0_6
 refine wpAnyH_ready (rs := [20]) (by kernel_rfl) (by simp) (AllReadyH.cons rfl (fun K hK => ?_) AllReadyH.nil)
 rw [if_pos (by rfl)]
 go_simp
 refine (SA5.out wc ao30 cap30 L30 (some ⟨b79, 0, none⟩) 1 [z78] (RW.out.on Bc.out) R79.out ⟨3, 6, true, LP30.out, by rw [List.map_cons, List.map_nil, P78.out]⟩).mono ?_
 rintro e wd ⟨rfl, hb⟩
 have Bc := Lib.hid (below_on Bc.out hb)
 clear hb
 obtain ⟨wc, hwc⟩ : ∃ wc, wc = wd := ⟨_, rfl⟩
 rw [← hwc] at Bc ⊢
 clear hwc
 go_simp
 refine hK.out _ _ (KS.out _ Bc.out) (fun h0_8 => ?_)
 clear hK K h0_7
 refine tkI (i := 21) rfl h0_8 ?_
 simp only [Act.put, sZ]
 refine tkI (i := 22) rfl h0_8 ?_
 simp only [Act.put, sA, sB, sC, sD]
 try simp only [sF]
 try simp only [sE]
 refine wpAnyH_done (by kernel_rfl) ?_ _
 try simp only [Exit.then]
 go_wp2_with fail
 go_ret
 exact ⟨rfl, below_on BB.out Bc.out⟩
end Go.Proofs.YthjapmdfcbngmaaGreat
