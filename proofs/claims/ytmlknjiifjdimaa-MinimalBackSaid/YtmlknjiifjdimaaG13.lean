/- MinimalBuilds, for whatever arguments. -/
import Derived.Test.YtmlknjiifjdimaaG12

namespace Go.Proofs.Ytmlknjiifjdimaa
open Go.RowKit

theorem conV_one (cs : List Con) : ∀ u ∈ conV cs, u.oneCell' = true := by
  intro u hu
  unfold conV at hu
  rw [List.mem_flatMap] at hu
  obtain ⟨c, _, hc⟩ := hu
  simp at hc
  rcases hc with rfl | rfl | rfl <;> rfl

theorem same_refl {N M : Int} {l m : List Int} (h1 : N = M) (h2 : l = m) : smB N M l m = true := by subst h1; subst h2; simp [smB]

theorem max_le {n : Nat} (h : n ≤ maxLen) : n ≤ 9223372036854775807 := by unfold maxLen at h; omega

set_option maxRecDepth 100000 in
set_option maxHeartbeats 4000000 in
theorem builds_some (N : Int) (cs : List Con) (a : Addr) (dc : Nat) (w : World) (hD : Arg3 w (some a) cs) (hR : Rd3 w a cs) (hdl : cs.length ≤ 200) :
    Calls Try.prog 10 #[.int .i64 N, .slice (some a) cs.length dc] w (Made (.bool true) w) := by
  obtain ⟨i0, hi, hz0, hz1, hz2⟩ := info_parts con_info
  have BU := Lib.hid (show ∀ W ao c, Arg3 W ao cs → Calls Try.prog 57 #[.int .i64 N, .slice ao cs.length c] W (ZVal W (zrN (buE N cs) N) (zrL (buE N cs) (buL N cs)) (buE N cs)) from fun W ao c h => (zbuild_gen N cs ao c W h (by omega)).mono fun e w' h => h.zval)
  have BR := Lib.hid (show ∀ W, Below w.heap.size w W → Calls Try.prog 58 #[.int .i64 N, .slice (some a) cs.length dc] W (ZVal W (zrN (buE N cs) N) (zrL (buE N cs) (buL N cs)) (buE N cs)) from fun W h => (rbuild_gen N cs (some a) dc W (hD.on h) (by omega)).mono fun e w' h => h.zval)
  have SC := Lib.hid (show ∀ W ao ca, Arg3 W ao cs → Below w.heap.size w W → Calls Try.prog 56 #[.slice ao cs.length ca, .slice (some a) cs.length dc] W (Made (.bool true) W) from fun W ao ca hA h => by
    have := lcs_any cs cs ao (some a) ca dc W hA (hD.on h) (by omega)
    rw [decide_eq_true rfl] at this
    exact this)
  have SM := Lib.hid (show ∀ W M m ao bo ca cb, Arg W ao m → Arg W bo m → m.length ≤ maxLen → Calls Try.prog 41 #[.agg #[.int .i64 M, .slice ao m.length ca], .agg #[.int .i64 M, .slice bo m.length cb]] W (Made (.bool true) W) from fun W M m ao bo ca cb hA hB hm => by
    have := same_any M M m m ao bo ca cb W hA hB (max_le hm)
    rw [same_refl rfl rfl] at this
    exact this)
  have SH := Lib.hid (fun W => shown4_any W)
  have l1 : (conV cs).length = cs.length * 3 := conV_len cs
  have o1 := conV_one cs
  have A := Lib.hid (show ∀ (w' : World), Below w.heap.size w w' → ∀ j u, (conV cs)[j]? = some u → w'.cell? (a.add j) = some u from fun w' h => conV_cells (hR.on h))
  have HOW := Lib.hid (show ∀ w' v, w'.ownsRow w.heap.size 56 3 v cs.length (conV cs) → ∃ ao cap, v = .slice ao cs.length cap ∧ Arg3 w' ao cs from fun w' v h => OwnC.arg h)
  generalize conV cs = xs at *
  generalize zrL (buE N cs) (buL N cs) = m at *
  generalize zrN (buE N cs) N = M at *
  generalize buE N cs = er at *
  generalize hlen : cs.length = len at *
  clear hlen hR hD
  have E0 := Lib.hid (one_more (w1 := w) (.cells #[] 56))
  go_enter Try.func10, Try.ntmps10
  go_wp2_with (at_builtin; refine wpList_append_own _ rfl _ _ 35 rfl w.heap.size 56 i0 (.agg #[.int .i64 0, .int .i64 0, .int .i64 0]) 3 24 Try.underlying35 hi hz0 hz1 hz2 rfl (by decide) _ _ _ rfl (World.ownsRow_made w #[] 0 (Nat.le_refl _) (Nat.zero_le _) (by simp)) a len dc xs rfl l1 (A.out _ E0.out) o1 (by unfold maxLen; omega) (by omega) (by simp) ?_)
  intro v' w1 hown hgrow _
  obtain ⟨ao, cap, rfl, hA1⟩ := HOW.out _ _ hown
  have B1 := Lib.hid (show Below w.heap.size w w1 from Below.grown E0.out hgrow (by simp) (by intro k hk; simp [Value.ownBlock] at hk; omega))
  have HA1 := Lib.hid hA1
  clear hown hgrow hA1 hi hz0 hz1 hz2 i0 l1 o1
  go_wp2_with fail
  refine (BU.out _ _ _ HA1.out).mono ?_
  rintro e w2 ⟨mo, mc, rfl, hA2, hm, hb2⟩
  have HLM := Lib.hid hm
  clear hm
  have SM2 := Lib.hid (fun W ao bo ca cb hA hB => SM.out W M m ao bo ca cb hA hB HLM.out)
  unfold ZVal at BR
  generalize m.length = mlen at *
  obtain ⟨w3, hw3⟩ : ∃ w3, w3 = w2.alloc (.cells #[.int .i64 M, .slice mo mlen mc] 25) := ⟨_, rfl⟩
  have x3 : Two w3 w2.heap.size (.int .i64 M) (.slice mo mlen mc) := by rw [hw3]; exact Two.made _ _ _ _
  have B3 := Lib.hid (show Below w1.heap.size w1 w3 by rw [hw3]; exact hb2.alloc hb2.size _)
  have A3 := Lib.hid (show Arg w3 mo m by rw [hw3]; exact hA2.on (one_more _))
  have X3 := Lib.hid x3
  clear x3 hA2 hb2
  go_upto_region 5 with (fail)
  rw [← hw3]
  clear hw3
  go_wp2_with fail
  refine (BR.out _ (below_on B1.out B3.out)).mono ?_
  rintro e w4 ⟨po, pc, rfl, hA4, _, hb4⟩
  obtain ⟨w5, hw5⟩ : ∃ w5, w5 = w4.alloc (.cells #[.int .i64 M, .slice po mlen pc] 25) := ⟨_, rfl⟩
  have x5 : Two w5 w4.heap.size (.int .i64 M) (.slice po mlen pc) := by rw [hw5]; exact Two.made _ _ _ _
  have B5 := Lib.hid (show Below w3.heap.size w3 w5 by rw [hw5]; exact hb4.alloc hb4.size _)
  have A5 := Lib.hid (show Arg w5 po m by rw [hw5]; exact hA4.on (one_more _))
  obtain ⟨d0, d1, d2, d3⟩ := x5.facts
  obtain ⟨b0, b1, b2, b3⟩ := (X3.out.kept B5.out).facts
  clear x5 hA4 hb4
  go_upto_region 6 with (fail)
  rw [← hw5]
  clear hw5
  go_wp2_with fail
  refine (SM2.out _ _ _ _ _ (A3.out.on B5.out) A5.out).mono ?_
  rintro e w6 ⟨rfl, hb6⟩
  have B6 := Lib.hid (below_on (below_on B3.out B5.out) hb6)
  clear hb6 b0 b1 b2 b3 d0 d1 d2 d3
  have DE : (er == er) = true := by simp
  go_wp2_with fail
  refine (SC.out _ _ _ (HA1.out.on B6.out) (below_on B1.out B6.out)).mono ?_
  rintro e w7 ⟨rfl, hb7⟩
  have B7 := Lib.hid (below_on (below_on B1.out B6.out) hb7)
  clear hb7
  go_wp2_with fail
  refine (SH.out _).mono ?_
  rintro e w8 ⟨rfl, hb8⟩
  have B8 := Lib.hid (below_on B7.out hb8)
  clear hb8
  go_wp2_with fail
  go_ret
  exact ⟨rfl, B8.out⟩

set_option maxRecDepth 100000 in
set_option maxHeartbeats 4000000 in
theorem builds_none (N : Int) (w : World) :
    Calls Try.prog 10 #[.int .i64 N, .slice none 0 0] w (Made (.bool true) w) := by
  obtain ⟨i0, hi, hz0, hz1, hz2⟩ := info_parts con_info
  have BU := Lib.hid (show ∀ W ao c, Arg3 W ao [] → Calls Try.prog 57 #[.int .i64 N, .slice ao 0 c] W (ZVal W (zrN (buE N []) N) (zrL (buE N []) (buL N [])) (buE N [])) from fun W ao c h => (zbuild_gen N [] ao c W h (by simp)).mono fun e w' h => h.zval)
  have BR := Lib.hid (show ∀ W, Below w.heap.size w W → Calls Try.prog 58 #[.int .i64 N, .slice none 0 0] W (ZVal W (zrN (buE N []) N) (zrL (buE N []) (buL N [])) (buE N [])) from fun W h => (rbuild_gen N [] none 0 W (fun q => absurd rfl q) (by simp)).mono fun e w' h => h.zval)
  have SC := Lib.hid (show ∀ W ao ca, Arg3 W ao [] → Calls Try.prog 56 #[.slice ao 0 ca, .slice none 0 0] W (Made (.bool true) W) from fun W ao ca hA => by
    have := lcs_any [] [] ao none ca 0 W hA (fun q => absurd rfl q) (by simp)
    rw [decide_eq_true rfl] at this
    exact this)
  have SM := Lib.hid (show ∀ W M m ao bo ca cb, Arg W ao m → Arg W bo m → m.length ≤ maxLen → Calls Try.prog 41 #[.agg #[.int .i64 M, .slice ao m.length ca], .agg #[.int .i64 M, .slice bo m.length cb]] W (Made (.bool true) W) from fun W M m ao bo ca cb hA hB hm => by
    have := same_any M M m m ao bo ca cb W hA hB (max_le hm)
    rw [same_refl rfl rfl] at this
    exact this)
  have SH := Lib.hid (fun W => shown4_any W)
  have HAR := Lib.hid (show ∀ W, Arg3 W (some ⟨w.heap.size, 0, none⟩) [] from fun W q => absurd rfl q)
  generalize zrL (buE N []) (buL N []) = m at *
  generalize zrN (buE N []) N = M at *
  generalize buE N [] = er at *
  have E0 := Lib.hid (one_more (w1 := w) (.cells #[] 56))
  go_enter Try.func10, Try.ntmps10
  have B1 := E0
  obtain ⟨w1, hw1⟩ : ∃ w1, w1 = w.alloc (.cells #[] 56) := ⟨_, rfl⟩
  rw [← hw1] at B1
  go_wp2_with (at_builtin; refine wpList_append_own_none rfl _ _ 35 rfl w.heap.size 56 i0 3 Try.underlying35 hi _ _ _ rfl (World.ownsRow_made w #[] 0 (Nat.le_refl _) (Nat.zero_le _) (by simp)) rfl ?_)
  rw [← hw1]
  clear hw1 hi hz0 hz1 hz2 i0
  go_wp2_with fail
  refine (BU.out _ _ _ (HAR.out _)).mono ?_
  rintro e w2 ⟨mo, mc, rfl, hA2, hm, hb2⟩
  have HLM := Lib.hid hm
  clear hm
  have SM2 := Lib.hid (fun W ao bo ca cb hA hB => SM.out W M m ao bo ca cb hA hB HLM.out)
  unfold ZVal at BR
  generalize m.length = mlen at *
  obtain ⟨w3, hw3⟩ : ∃ w3, w3 = w2.alloc (.cells #[.int .i64 M, .slice mo mlen mc] 25) := ⟨_, rfl⟩
  have x3 : Two w3 w2.heap.size (.int .i64 M) (.slice mo mlen mc) := by rw [hw3]; exact Two.made _ _ _ _
  have B3 := Lib.hid (show Below w1.heap.size w1 w3 by rw [hw3]; exact hb2.alloc hb2.size _)
  have A3 := Lib.hid (show Arg w3 mo m by rw [hw3]; exact hA2.on (one_more _))
  have X3 := Lib.hid x3
  clear x3 hA2 hb2
  go_upto_region 5 with (fail)
  rw [← hw3]
  clear hw3
  go_wp2_with fail
  refine (BR.out _ (below_on B1.out B3.out)).mono ?_
  rintro e w4 ⟨po, pc, rfl, hA4, _, hb4⟩
  obtain ⟨w5, hw5⟩ : ∃ w5, w5 = w4.alloc (.cells #[.int .i64 M, .slice po mlen pc] 25) := ⟨_, rfl⟩
  have x5 : Two w5 w4.heap.size (.int .i64 M) (.slice po mlen pc) := by rw [hw5]; exact Two.made _ _ _ _
  have B5 := Lib.hid (show Below w3.heap.size w3 w5 by rw [hw5]; exact hb4.alloc hb4.size _)
  have A5 := Lib.hid (show Arg w5 po m by rw [hw5]; exact hA4.on (one_more _))
  obtain ⟨d0, d1, d2, d3⟩ := x5.facts
  obtain ⟨b0, b1, b2, b3⟩ := (X3.out.kept B5.out).facts
  clear x5 hA4 hb4
  go_upto_region 6 with (fail)
  rw [← hw5]
  clear hw5
  go_wp2_with fail
  refine (SM2.out _ _ _ _ _ (A3.out.on B5.out) A5.out).mono ?_
  rintro e w6 ⟨rfl, hb6⟩
  have B6 := Lib.hid (below_on (below_on B3.out B5.out) hb6)
  clear hb6 b0 b1 b2 b3 d0 d1 d2 d3
  have DE : (er == er) = true := by simp
  go_wp2_with fail
  refine (SC.out _ _ _ (HAR.out _)).mono ?_
  rintro e w7 ⟨rfl, hb7⟩
  have B7 := Lib.hid (below_on (below_on B1.out B6.out) hb7)
  clear hb7
  go_wp2_with fail
  refine (SH.out _).mono ?_
  rintro e w8 ⟨rfl, hb8⟩
  have B8 := Lib.hid (below_on B7.out hb8)
  clear hb8
  go_wp2_with fail
  go_ret
  exact ⟨rfl, B8.out⟩

set_option maxRecDepth 100000 in
set_option maxHeartbeats 4000000 in
theorem builds_long (N : Int) (dao : Option Addr) (len dc : Nat) (w : World) (h : 200 < len) :
    Calls Try.prog 10 #[.int .i64 N, .slice dao len dc] w (Made (.bool true) w) := by
  have SH := Lib.hid (fun W => shown4_any W)
  have D : decide ((200 : Int) < (len : Int)) = true := by simp; omega
  go_enter Try.func10, Try.ntmps10
  go_wp2_with fail
  refine (SH.out _).mono ?_
  rintro e w8 ⟨rfl, hb8⟩
  have B8 := Lib.hid hb8
  clear hb8
  go_wp2_with fail
  go_ret
  exact ⟨rfl, B8.out⟩

theorem builds_any (N : Int) (cs : List Con) (dao : Option Addr) (dc : Nat) (w : World) (hD : Arg3 w dao cs) (h0 : dao = none → cs = [] ∧ dc = 0) :
    Calls Try.prog 10 #[.int .i64 N, .slice dao cs.length dc] w (Made (.bool true) w) := by
  by_cases hl : 200 < cs.length
  · exact builds_long N dao cs.length dc w hl
  · cases dao with
    | none =>
      obtain ⟨rfl, rfl⟩ := h0 rfl
      exact builds_none N w
    | some a =>
      refine builds_some N cs a dc w hD ?_ (by omega)
      by_cases he : cs = []
      · subst he; intro j hj; simp at hj
      · obtain ⟨b, h1, h2⟩ := hD he
        obtain rfl := Option.some.inj h1
        exact h2
end Go.Proofs.Ytmlknjiifjdimaa
