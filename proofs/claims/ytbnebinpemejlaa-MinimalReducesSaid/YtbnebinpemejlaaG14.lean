/- The contracts of layer 4's Reduce and Build, of the program and of the reference.; What the examples of layer 4 are.; The contract of the statements' same of layer 4.; The contract of the examples of layer 4.; What the rows of layers 3 and 4 have in common: arguments opened to what the walks ask; arguments that nothing has turned; the row's last step.; Arguments opened: a zone, constraints.; MinimalBuilds, for whatever arguments. -/
import Derived.Test.YtbnebinpemejlaaG12
import Derived.Test.YtbnebinpemejlaaG13
import Derived.Test.YtbnebinpemejlaaG9
import Derived.Test.YtbnebinpemejlaaG10
import Derived.ProofKit
import Derived.Lib.SmallJoins
import Derived.Deep.Slices
import Derived.Test.YtbnebinpemejlaaG11

namespace Go.Proofs.Ytbnebinpemejlaa
open Go.RowKit

set_option maxRecDepth 100000 in
set_option maxHeartbeats 3200000 in
theorem zreduce_gen (N : Int) (l : List Int) (ao : Option Addr) (cap : Nat) (w : World) (hA : Arg w ao l) :
    Calls Try.prog 54 #[.agg #[.int .i64 N, .slice ao l.length cap]] w (CRes w (rdcL N l) (rdcE N l)) := by
  by_cases hc : chkE N l = 0
  · obtain ⟨n, rfl, hn, hl, hne⟩ := chk_ok hc
    obtain ⟨a, rfl, hR⟩ := hA hne
    have := reduce_any n l a cap w ⟨hn, hl, hc⟩ hR
    rw [show rdcL (n : Int) l = redL n l by unfold rdcL; rw [if_pos hc]; rfl, show rdcE (n : Int) l = 0 by unfold rdcE; rw [if_pos hc]]
    exact this
  · have HE := Lib.hid (show rdcE N l = 2 ∧ rdcL N l = [] by unfold rdcE rdcL; rw [if_neg hc, if_neg hc]; exact ⟨rfl, rfl⟩)
    have CK := Lib.hid (show ∀ W, Below w.heap.size w W → Calls Try.prog 17 #[.agg #[.int .i64 N, .slice ao l.length cap]] W (Made (.int .i64 2) W) from fun W h' => by
      have := zcheck_gen N l ao cap W (hA.on h'); rw [chk_two hc] at this; exact this)
    generalize l.length = len at *
    have E0 := Lib.hid (one_more (w1 := w) (.cells #[.int .i64 N, .slice ao len cap] 25))
    clear hA hc
    go_enter Try.func54, Try.ntmps54
    go_wp2_with fail
    refine (CK.out _ E0.out).mono ?_
    rintro e w1 ⟨rfl, hb1⟩
    have B1 := Lib.hid (below_on E0.out hb1)
    clear hb1
    go_wp2_with fail
    go_ret2
    rw [HE.out.1, HE.out.2]
    exact CRes.made B1.out (OwnC.nil _ _)

set_option maxRecDepth 100000 in
set_option maxHeartbeats 3200000 in
theorem rreduce_gen (N : Int) (l : List Int) (ao : Option Addr) (cap : Nat) (w : World) (hA : Arg w ao l) :
    Calls Try.prog 55 #[.agg #[.int .i64 N, .slice ao l.length cap]] w (CRes w (rdcL N l) (rdcE N l)) := by
  by_cases hc : chkE N l = 0
  · obtain ⟨n, rfl, hn, hl, hne⟩ := chk_ok hc
    obtain ⟨a, rfl, hR⟩ := hA hne
    have := rreduce_any n l a cap w hn hl hc hR
    rw [show rdcL (n : Int) l = redL n l by unfold rdcL; rw [if_pos hc]; rfl, show rdcE (n : Int) l = 0 by unfold rdcE; rw [if_pos hc]]
    exact this
  · have HE := Lib.hid (show rdcE N l = 2 ∧ rdcL N l = [] by unfold rdcE rdcL; rw [if_neg hc, if_neg hc]; exact ⟨rfl, rfl⟩)
    have CK := Lib.hid (show ∀ W, Below w.heap.size w W → Calls Try.prog 18 #[.agg #[.int .i64 N, .slice ao l.length cap]] W (Made (.int .i64 2) W) from fun W h' => by
      have := check_gen N l ao cap W (hA.on h'); rw [chk_two hc] at this; exact this)
    generalize l.length = len at *
    have E0 := Lib.hid (one_more (w1 := w) (.cells #[.int .i64 N, .slice ao len cap] 25))
    clear hA hc
    go_enter Try.func55, Try.ntmps55
    go_wp2_with fail
    refine (CK.out _ E0.out).mono ?_
    rintro e w1 ⟨rfl, hb1⟩
    have B1 := Lib.hid (below_on E0.out hb1)
    clear hb1
    go_wp2_with fail
    go_ret2
    rw [HE.out.1, HE.out.2]
    exact CRes.made B1.out (OwnC.nil _ _)

/-- Build: what All makes, and what the constraints make of it. -/
def buM (N : Int) : List Int := Zo.clo N.toNat (List.replicate ((N.toNat + 1) * (N.toNat + 1)) 1099511627776)

def buL (N : Int) (cs : List Con) : List Int := Zo.clo N.toNat (anL N.toNat cs (buM N))

def buE (N : Int) (cs : List Con) : Int := if flE N 1099511627776 = 0 then anG N cs (buM N) else flE N 1099511627776

set_option maxRecDepth 100000 in
set_option maxHeartbeats 4000000 in
theorem zbuild_gen (N : Int) (cs : List Con) (dao : Option Addr) (dc : Nat) (w : World) (hD : Arg3 w dao cs) (hdl : cs.length ≤ 1000) :
    Calls Try.prog 57 #[.int .i64 N, .slice dao cs.length dc] w (ZRes w N (buL N cs) (buE N cs)) := by
  have AL := Lib.hid (fun W => zall_gen N W)
  have AN := Lib.hid (show ∀ W g c, Below w.heap.size w W → Own W g c (buM N) → Calls Try.prog 24 #[.agg #[.int .i64 N, .slice (some ⟨g, 0, none⟩) (buM N).length c], .slice dao cs.length dc] W (ZRes W N (buL N cs) (anG N cs (buM N))) from fun W g c h hO => zan_gen N (buM N) (some ⟨g, 0, none⟩) c cs dao dc W hO.arg (hD.on h) hdl)
  have HB := Lib.hid (show buE N cs = if flE N 1099511627776 = 0 then anG N cs (buM N) else flE N 1099511627776 from rfl)
  change ∀ W, Calls Try.prog 22 #[.int .i64 N] W (ZRes W N (buM N) (flE N 1099511627776)) at AL
  generalize buL N cs = R at *
  generalize buE N cs = be at *
  generalize flE N 1099511627776 = fe at *
  generalize anG N cs (buM N) = ae at *
  generalize buM N = M at *
  generalize cs.length = clen at *
  obtain ⟨w0, hw0⟩ : ∃ w0, w0 = w.alloc (.cells #[.int .i64 0, .slice none 0 0] 25) := ⟨_, rfl⟩
  have rs : Two w0 w.heap.size (.int .i64 0) (.slice none 0 0) := by rw [hw0]; exact Two.made _ _ _ _
  have E0 := Lib.hid (show Below w.heap.size w w0 by rw [hw0]; exact one_more _)
  have z0 : w0.heap.size = w.heap.size + 1 := by rw [hw0]; simp
  have RS := Lib.hid rs
  clear hD hdl rs
  go_enter Try.func57, Try.ntmps57
  go_wp2_with fail
  rw [← hw0]
  clear hw0
  refine (AL _).mono ?_
  intro e w1 hz
  obtain ⟨hb1, hres⟩ := hz
  have B1 := Lib.hid hb1
  have hs1 := hb1.size
  clear hb1
  rcases hres with ⟨he, g, c, rfl, hg, hO⟩ | ⟨he, rfl⟩
  · subst he
    have HBE := Lib.hid (show be = ae by rw [HB.out]; rfl)
    obtain ⟨w2, hw2⟩ : ∃ w2, w2 = w1.alloc (.cells #[.int .i64 N, .slice (some ⟨g, 0, none⟩) M.length c] 25) := ⟨_, rfl⟩
    have bx : Two w2 w1.heap.size (.int .i64 N) (.slice (some ⟨g, 0, none⟩) M.length c) := by rw [hw2]; exact Two.made w1 _ _ _
    have hlt := hO.lt
    have O2 := Lib.hid (show Own w2 g c M by rw [hw2]; exact hO.alloc _)
    have B2 := Lib.hid (show Below w1.heap.size w1 w2 by rw [hw2]; exact one_more _)
    have HG := Lib.hid (show w.heap.size ≤ g by omega)
    have BX := Lib.hid bx
    obtain ⟨b0, b1, b2, b3⟩ := bx.facts
    clear hO hg bx
    go_upto_region 2 with (fail)
    rw [← hw2]
    clear hw2
    go_wp2_with fail
    refine (AN.out _ _ _ (below_on (below_on E0.out B1.out) B2.out) O2.out).mono ?_
    intro e w3 hz
    obtain ⟨hb3, hres⟩ := hz
    have Q := Lib.hid (below_on (below_on B1.out B2.out) hb3)
    obtain ⟨r0, r1, r2, r3⟩ := (RS.out.kept Q.out).facts
    have hs2 := B2.out.size
    rcases hres with ⟨he, g2, c2, rfl, hg2, hO2⟩ | ⟨he, rfl⟩
    · subst he
      have HO2 := Lib.hid hO2
      clear hO2 hb3 b0 b1 b2 b3
      go_wp2_with fail
      rw [HBE.out]
      refine bodyPost_ret (v := .tuple #[.agg #[.int .i64 N, .slice (some ⟨g2, 0, none⟩) R.length c2], .int .i64 0]) (by simp [results, Try.results57, go_sem, r0, r1]) rfl (zres_over E0.out Q.out HO2.out (by omega) (Nat.le_refl _) (by omega) _ _)
    · have HE := Lib.hid he
      clear he hb3 b0 b1 b2 b3
      go_wp2_with fail
      rw [HBE.out]
      refine bodyPost_ret (v := .tuple #[.agg #[.int .i64 0, .slice none 0 0], .int .i64 ae]) (by simp [results, Try.results57, go_sem, r0, r1]) rfl (zres_over0 E0.out Q.out HE.out (Nat.le_refl _) _ _)
  · have HBE := Lib.hid (show be = fe by rw [HB.out, if_neg he])
    have HE := Lib.hid he
    have D : (fe != 0) = true := by simpa using he
    clear he
    obtain ⟨w2, hw2⟩ : ∃ w2, w2 = w1.alloc (.cells #[.int .i64 0, .slice none 0 0] 25) := ⟨_, rfl⟩
    have Q := Lib.hid (show Below w0.heap.size w0 w2 by rw [hw2]; exact below_on B1.out (one_more _))
    go_upto_region 2 with (fail)
    rw [← hw2]
    clear hw2
    obtain ⟨r0, r1, r2, r3⟩ := (RS.out.kept Q.out).facts
    go_wp2_with fail
    rw [HBE.out]
    refine bodyPost_ret (v := .tuple #[.agg #[.int .i64 0, .slice none 0 0], .int .i64 fe]) (by simp [results, Try.results57, go_sem, r0, r1]) rfl (zres_over0 E0.out Q.out HE.out (Nat.le_refl _) _ _)

set_option maxRecDepth 100000 in
set_option maxHeartbeats 4000000 in
theorem rbuild_gen (N : Int) (cs : List Con) (dao : Option Addr) (dc : Nat) (w : World) (hD : Arg3 w dao cs) (hdl : cs.length ≤ 1000) :
    Calls Try.prog 58 #[.int .i64 N, .slice dao cs.length dc] w (ZRes w N (buL N cs) (buE N cs)) := by
  have AL := Lib.hid (fun W => all_gen N W)
  have AN := Lib.hid (show ∀ W g c, Below w.heap.size w W → Own W g c (buM N) → Calls Try.prog 25 #[.agg #[.int .i64 N, .slice (some ⟨g, 0, none⟩) (buM N).length c], .slice dao cs.length dc] W (ZRes W N (buL N cs) (anG N cs (buM N))) from fun W g c h hO => an_gen N (buM N) (some ⟨g, 0, none⟩) c cs dao dc W hO.arg (hD.on h) hdl)
  have HB := Lib.hid (show buE N cs = if flE N 1099511627776 = 0 then anG N cs (buM N) else flE N 1099511627776 from rfl)
  change ∀ W, Calls Try.prog 23 #[.int .i64 N] W (ZRes W N (buM N) (flE N 1099511627776)) at AL
  generalize buL N cs = R at *
  generalize buE N cs = be at *
  generalize flE N 1099511627776 = fe at *
  generalize anG N cs (buM N) = ae at *
  generalize buM N = M at *
  generalize cs.length = clen at *
  obtain ⟨w0, hw0⟩ : ∃ w0, w0 = w.alloc (.cells #[.int .i64 0, .slice none 0 0] 25) := ⟨_, rfl⟩
  have rs : Two w0 w.heap.size (.int .i64 0) (.slice none 0 0) := by rw [hw0]; exact Two.made _ _ _ _
  have E0 := Lib.hid (show Below w.heap.size w w0 by rw [hw0]; exact one_more _)
  have z0 : w0.heap.size = w.heap.size + 1 := by rw [hw0]; simp
  have RS := Lib.hid rs
  clear hD hdl rs
  go_enter Try.func58, Try.ntmps58
  go_wp2_with fail
  rw [← hw0]
  clear hw0
  refine (AL _).mono ?_
  intro e w1 hz
  obtain ⟨hb1, hres⟩ := hz
  have B1 := Lib.hid hb1
  have hs1 := hb1.size
  clear hb1
  rcases hres with ⟨he, g, c, rfl, hg, hO⟩ | ⟨he, rfl⟩
  · subst he
    have HBE := Lib.hid (show be = ae by rw [HB.out]; rfl)
    obtain ⟨w2, hw2⟩ : ∃ w2, w2 = w1.alloc (.cells #[.int .i64 N, .slice (some ⟨g, 0, none⟩) M.length c] 25) := ⟨_, rfl⟩
    have bx : Two w2 w1.heap.size (.int .i64 N) (.slice (some ⟨g, 0, none⟩) M.length c) := by rw [hw2]; exact Two.made w1 _ _ _
    have hlt := hO.lt
    have O2 := Lib.hid (show Own w2 g c M by rw [hw2]; exact hO.alloc _)
    have B2 := Lib.hid (show Below w1.heap.size w1 w2 by rw [hw2]; exact one_more _)
    have HG := Lib.hid (show w.heap.size ≤ g by omega)
    have BX := Lib.hid bx
    obtain ⟨b0, b1, b2, b3⟩ := bx.facts
    clear hO hg bx
    go_upto_region 2 with (fail)
    rw [← hw2]
    clear hw2
    go_wp2_with fail
    refine (AN.out _ _ _ (below_on (below_on E0.out B1.out) B2.out) O2.out).mono ?_
    intro e w3 hz
    obtain ⟨hb3, hres⟩ := hz
    have Q := Lib.hid (below_on (below_on B1.out B2.out) hb3)
    obtain ⟨r0, r1, r2, r3⟩ := (RS.out.kept Q.out).facts
    have hs2 := B2.out.size
    rcases hres with ⟨he, g2, c2, rfl, hg2, hO2⟩ | ⟨he, rfl⟩
    · subst he
      have HO2 := Lib.hid hO2
      clear hO2 hb3 b0 b1 b2 b3
      go_wp2_with fail
      rw [HBE.out]
      refine bodyPost_ret (v := .tuple #[.agg #[.int .i64 N, .slice (some ⟨g2, 0, none⟩) R.length c2], .int .i64 0]) (by simp [results, Try.results58, go_sem, r0, r1]) rfl (zres_over E0.out Q.out HO2.out (by omega) (Nat.le_refl _) (by omega) _ _)
    · have HE := Lib.hid he
      clear he hb3 b0 b1 b2 b3
      go_wp2_with fail
      rw [HBE.out]
      refine bodyPost_ret (v := .tuple #[.agg #[.int .i64 0, .slice none 0 0], .int .i64 ae]) (by simp [results, Try.results58, go_sem, r0, r1]) rfl (zres_over0 E0.out Q.out HE.out (Nat.le_refl _) _ _)
  · have HBE := Lib.hid (show be = fe by rw [HB.out, if_neg he])
    have HE := Lib.hid he
    have D : (fe != 0) = true := by simpa using he
    clear he
    obtain ⟨w2, hw2⟩ : ∃ w2, w2 = w1.alloc (.cells #[.int .i64 0, .slice none 0 0] 25) := ⟨_, rfl⟩
    have Q := Lib.hid (show Below w0.heap.size w0 w2 by rw [hw2]; exact below_on B1.out (one_more _))
    go_upto_region 2 with (fail)
    rw [← hw2]
    clear hw2
    obtain ⟨r0, r1, r2, r3⟩ := (RS.out.kept Q.out).facts
    go_wp2_with fail
    rw [HBE.out]
    refine bodyPost_ret (v := .tuple #[.agg #[.int .i64 0, .slice none 0 0], .int .i64 fe]) (by simp [results, Try.results58, go_sem, r0, r1]) rfl (zres_over0 E0.out Q.out HE.out (Nat.le_refl _) _ _)
end Go.Proofs.Ytbnebinpemejlaa

namespace Go.Proofs.Ytbnebinpemejlaa
open Go.RowKit

def z2L : List Int := [1, 1, 1, 1, 1, 1, 1, 1, 1]

theorem z2_clo : Zo.clo 2 (List.replicate 9 1) = z2L := by decide +kernel

theorem z2_e : flE 2 1 = 0 := by decide +kernel

theorem z2_rd : rdcL 2 z2L = [(1, 2, 1), (2, 0, 1)] ∧ rdcE 2 z2L = 0 := by decide +kernel

theorem z2_bu : buL 2 [(1, 2, 1), (2, 0, 1)] = z2L ∧ buE 2 [(1, 2, 1), (2, 0, 1)] = 0 := by decide +kernel

theorem z2_no : buE 1 [(1, 0, 0)] = 4 := by decide +kernel
end Go.Proofs.Ytbnebinpemejlaa

namespace Go.Proofs.Ytbnebinpemejlaa
open Go.RowKit

theorem con_ext {cs ds : List Con} (hl : cs.length = ds.length) (h : ∀ k, k < cs.length → gc cs k = gc ds k) : cs = ds := by
  apply List.ext_getElem hl
  intro i h1 h2
  have := h i h1
  simpa [gc, h1, h2] using this

set_option maxRecDepth 100000 in
set_option maxHeartbeats 1600000 in
theorem lcs_any (cs ds : List Con) (ao bo : Option Addr) (ca cb : Nat) (w : World) (hA : Arg3 w ao cs) (hB : Arg3 w bo ds) (hl : cs.length ≤ 1000) :
    Calls Try.prog 56 #[.slice ao cs.length ca, .slice bo ds.length cb] w (Made (.bool (decide (cs = ds))) w) := by
  by_cases hlen : cs.length = ds.length
  case neg =>
    have HF := Lib.hid (show decide (cs = ds) = false from decide_eq_false (fun e => hlen (by rw [e])))
    have D : ((cs.length : Int) != (ds.length : Int)) = true := by simp; omega
    clear hA hB
    generalize cs.length = c at *
    generalize ds.length = d at *
    go_enter Try.func56, Try.ntmps56
    go_wp2_with fail
    go_ret
    exact ⟨ret_bool HF.out.symm, Below.refl _ _⟩
  case pos =>
    have D : ((cs.length : Int) != (ds.length : Int)) = false := by simp; omega
    obtain ⟨len, hc⟩ : ∃ len, len = cs.length := ⟨_, rfl⟩
    have hd : ds.length = len := by omega
    have HC := Lib.hid hc
    have HDD := Lib.hid hd
    have HA := Lib.hid hA
    have HB := Lib.hid hB
    rw [hd, ← hc] at D
    rw [hd, ← hc]
    have hl2 : len ≤ 1000 := by omega
    clear hlen hc hd hA hB hl
    go_enter Try.func56, Try.ntmps56
    go_wp2_with fail
    go_loopw [5] (fun s wr => ∃ t : Nat, t ≤ len ∧ s = .int .i64 t ∧ Hid (∀ k, k < t → gc cs k = gc ds k) ∧ Hid (Below w.heap.size w wr)) (fun s _ => len - (intOf s).toNat)
    case atStart => exact ⟨0, by omega, rfl, Lib.hid (fun k hk => by omega), Lib.hid (Below.refl _ _)⟩
    case round =>
      obtain ⟨t, ht, rfl, HT, HW⟩ := hrel
      by_cases htn : t < len
      case pos =>
        obtain ⟨a, rfl, hR⟩ := HA.out (fun e => by have := HC.out; rw [e] at this; simp at this; omega)
        obtain ⟨b, rfl, hS⟩ := HB.out (fun e => by have := HDD.out; rw [e] at this; simp at this; omega)
        obtain ⟨a0, a1, a2⟩ := (hR.on HW.out) t (by rw [← HC.out]; exact htn)
        obtain ⟨b0, b1, b2⟩ := (hS.on HW.out) t (by rw [HDD.out]; exact htn)
        clear hR hS
        obtain ⟨p, hp⟩ : ∃ p, p = gc cs t := ⟨_, rfl⟩
        obtain ⟨q, hq⟩ : ∃ q, q = gc ds t := ⟨_, rfl⟩
        rw [← hp] at a0 a1 a2
        rw [← hq] at b0 b1 b2
        have HP := Lib.hid hp
        have HQ := Lib.hid hq
        clear hp hq
        obtain ⟨i, j, x⟩ := p
        obtain ⟨i', j', x'⟩ := q
        simp only at a0 a1 a2 b0 b1 b2
        by_cases he : ((i, j, x) : Con) = (i', j', x')
        case pos =>
          have HT2 := Lib.hid (show ∀ k, k < t + 1 → gc cs k = gc ds k from fun k hk => by
            by_cases e : k = t
            · rw [e, ← HP.out, ← HQ.out]; exact he
            · exact HT.out k (by omega))
          simp only [Prod.mk.injEq] at he
          obtain ⟨rfl, rfl, rfl⟩ := he
          go_wp2_with fail
          go_quiet (fail)
          go_wp2_with fail
          go_roundw
          case rel => exact ⟨t + 1, by omega, by go_num, HT2, Lib.hid (below_drewN HW.out _)⟩
          case measure => simp [intOf]; omega
        case neg =>
          have HF := Lib.hid (show decide (cs = ds) = false from decide_eq_false (fun e => he (by rw [HP.out, HQ.out, e])))
          by_cases c1 : i = i'
          case neg =>
            have D1 : (i == i') = false := by simpa using c1
            clear he c1
            go_wp2_with fail
            go_quiet (fail)
            go_wp2_with fail
            go_ret
            exact ⟨ret_bool HF.out.symm, below_drewN HW.out _⟩
          case pos =>
            by_cases c2 : j = j'
            case neg =>
              have D1 : (j == j') = false := by simpa using c2
              subst c1
              clear he c2
              go_wp2_with fail
              go_quiet (fail)
              go_wp2_with fail
              go_ret
              exact ⟨ret_bool HF.out.symm, below_drewN HW.out _⟩
            case pos =>
              have c3 : x ≠ x' := fun e => he (by rw [c1, c2, e])
              have D1 : (x == x') = false := by simpa using c3
              subst c1
              subst c2
              clear he c3
              go_wp2_with fail
              go_quiet (fail)
              go_wp2_with fail
              go_ret
              exact ⟨ret_bool HF.out.symm, below_drewN HW.out _⟩
      case neg =>
        have HF := Lib.hid (show decide (cs = ds) = true from decide_eq_true (con_ext (by rw [← HC.out, HDD.out]) (fun k hk => HT.out k (by rw [← HC.out] at hk; omega))))
        go_wp2_with fail
        go_ret
        exact ⟨ret_bool HF.out.symm, HW.out⟩
end Go.Proofs.Ytbnebinpemejlaa

namespace Go.Proofs.Ytbnebinpemejlaa
open Go.RowKit

theorem rd3_one (w : World) (i j x : Int) (t : TypeId) : Rd3 (w.alloc (.cells #[.int .i64 i, .int .i64 j, .int .i64 x] t)) ⟨w.heap.size, 0, none⟩ [(i, j, x)] := by
  intro k hk
  obtain rfl : k = 0 := by simp at hk; omega
  rw [addr_add]
  refine ⟨?_, ?_, ?_⟩ <;> (simp only [gc]; go_simp)

theorem rd3_two (w : World) (i j x i' j' x' : Int) (t : TypeId) : Rd3 (w.alloc (.cells #[.int .i64 i, .int .i64 j, .int .i64 x, .int .i64 i', .int .i64 j', .int .i64 x'] t)) ⟨w.heap.size, 0, none⟩ [(i, j, x), (i', j', x')] := by
  intro k hk
  rw [addr_add]
  match k, hk with
  | 0, _ => refine ⟨?_, ?_, ?_⟩ <;> (simp only [gc]; go_simp)
  | 1, _ => refine ⟨?_, ?_, ?_⟩ <;> (simp only [gc]; go_simp)

set_option maxRecDepth 100000 in
set_option maxHeartbeats 4000000 in
theorem shown4_any (w : World) : Calls Try.prog 53 #[] w (Made (.bool true) w) := by
  have ZE := Lib.hid (show ∀ W, Calls Try.prog 21 #[.int .i64 2] W (ZRes W 2 z2L 0) from fun W => by
    have := zero_gen 2 W
    rw [z2_e] at this
    exact this)
  have RD := Lib.hid (show ∀ W ao cap, Arg W ao z2L → Calls Try.prog 54 #[.agg #[.int .i64 2, .slice ao 9 cap]] W (CRes W [(1, 2, 1), (2, 0, 1)] 0) from fun W ao cap hA => by
    have := zreduce_gen 2 z2L ao cap W hA
    rw [z2_rd.1, z2_rd.2] at this
    exact this)
  have BU := Lib.hid (show ∀ W dao dc, Arg3 W dao [(1, 2, 1), (2, 0, 1)] → Calls Try.prog 57 #[.int .i64 2, .slice dao 2 dc] W (ZRes W 2 z2L 0) from fun W dao dc hD => by
    have := zbuild_gen 2 [(1, 2, 1), (2, 0, 1)] dao dc W hD (by simp)
    rw [z2_bu.1, z2_bu.2] at this
    exact this)
  have BV := Lib.hid (show ∀ W dao dc, Arg3 W dao [(1, 0, 0)] → Calls Try.prog 57 #[.int .i64 1, .slice dao 1 dc] W (ZRes W 1 (buL 1 [(1, 0, 0)]) 4) from fun W dao dc hD => by
    have := zbuild_gen 1 [(1, 0, 0)] dao dc W hD (by simp)
    rw [z2_no] at this
    exact this)
  have SC := Lib.hid (show ∀ W ao ca bo cb, Arg3 W ao [(1, 2, 1), (2, 0, 1)] → Arg3 W bo [(1, 2, 1), (2, 0, 1)] → Calls Try.prog 56 #[.slice ao 2 ca, .slice bo 2 cb] W (Made (.bool true) W) from fun W ao ca bo cb hA hB => by
    have := lcs_any [(1, 2, 1), (2, 0, 1)] [(1, 2, 1), (2, 0, 1)] ao bo ca cb W hA hB (by simp)
    rw [decide_eq_true rfl] at this
    exact this)
  have SM := Lib.hid (show ∀ W ao ca bo cb, Arg W ao z2L → Arg W bo z2L → Calls Try.prog 41 #[.agg #[.int .i64 2, .slice ao 9 ca], .agg #[.int .i64 2, .slice bo 9 cb]] W (Made (.bool true) W) from fun W ao ca bo cb hA hB => by
    have := same_any 2 2 z2L z2L ao bo ca cb W hA hB (by decide)
    rw [show smB 2 2 z2L z2L = true by decide] at this
    exact this)
  have HLn := Lib.hid (show z2L.length = 9 from rfl)
  have HN := Lib.hid (show z2L ≠ [] by decide)
  generalize z2L = Z at *
  generalize buL 1 [(1, 0, 0)] = Z1 at *
  go_enter Try.func53, Try.ntmps53
  go_wp2_with fail
  refine (ZE.out _).mono ?_
  intro e w1 hz
  obtain ⟨g1, c1, rfl, hg1, hO1, hb1⟩ := hz.ok rfl
  rw [HLn.out]
  obtain ⟨w2, hw2⟩ : ∃ w2, w2 = w1.alloc (.cells #[.int .i64 2, .slice (some ⟨g1, 0, none⟩) 9 c1] 25) := ⟨_, rfl⟩
  have x2 : Two w2 w1.heap.size (.int .i64 2) (.slice (some ⟨g1, 0, none⟩) 9 c1) := by rw [hw2]; exact Two.made _ _ _ _
  have A2 := Lib.hid (show Own w2 g1 c1 Z by rw [hw2]; exact hO1.alloc _)
  have B2 := Lib.hid (show Below w.heap.size w w2 by rw [hw2]; exact hb1.alloc hb1.size _)
  have X2 := Lib.hid x2
  clear hO1 hb1 x2
  obtain ⟨b0, b1, b2, b3⟩ := X2.out.facts
  go_upto_region 2 with (fail)
  rw [← hw2]
  clear hw2
  go_wp2_with fail
  refine (RD.out _ _ _ A2.out.arg).mono ?_
  rintro e w3 ⟨hb3, v, rfl, hv⟩
  obtain ⟨lo, lc, rfl, hL⟩ := OwnC.arg hv
  have HL := Lib.hid hL
  have B3 := Lib.hid hb3
  clear hL hv hb3 b0 b1 b2 b3
  go_wp2_with fail
  refine (BU.out _ _ _ HL.out).mono ?_
  intro e w4 hz
  obtain ⟨g4, c4, rfl, hg4, hO4, hb4⟩ := hz.ok rfl
  rw [HLn.out]
  obtain ⟨w5, hw5⟩ : ∃ w5, w5 = w4.alloc (.cells #[.int .i64 2, .slice (some ⟨g4, 0, none⟩) 9 c4] 25) := ⟨_, rfl⟩
  have x5 : Two w5 w4.heap.size (.int .i64 2) (.slice (some ⟨g4, 0, none⟩) 9 c4) := by rw [hw5]; exact Two.made _ _ _ _
  have A5 := Lib.hid (show Own w5 g4 c4 Z by rw [hw5]; exact hO4.alloc _)
  have B5 := Lib.hid (show Below w3.heap.size w3 w5 by rw [hw5]; exact hb4.alloc hb4.size _)
  have X5 := Lib.hid x5
  clear hO4 hb4 x5
  go_upto_region 4 with (fail)
  rw [← hw5]
  clear hw5
  have R6 := Lib.hid (rd3_one w5 1 0 0 56)
  have B6 := Lib.hid (one_more (w1 := w5) (.cells #[.int .i64 1, .int .i64 0, .int .i64 0] 56))
  go_wp2_with fail
  refine (BV.out _ _ _ (fun _ => ⟨_, rfl, R6.out⟩)).mono ?_
  intro e w7 hz
  obtain ⟨rfl, hb7⟩ := hz.no (by decide)
  have B7 := Lib.hid (below_on B6.out hb7)
  clear hb7
  obtain ⟨w8, hw8⟩ : ∃ w8, w8 = w7.alloc (.cells #[.int .i64 0, .slice none 0 0] 25) := ⟨_, rfl⟩
  have B8 := Lib.hid (show Below w5.heap.size w5 w8 by rw [hw8]; exact B7.out.alloc B7.out.size _)
  go_upto_region 5 with (fail)
  rw [← hw8]
  clear hw8
  have R9 := Lib.hid (rd3_two w8 1 2 1 2 0 1 56)
  have B9 := Lib.hid (one_more (w1 := w8) (.cells #[.int .i64 1, .int .i64 2, .int .i64 1, .int .i64 2, .int .i64 0, .int .i64 1] 56))
  have B38 := Lib.hid (below_on (below_on B5.out B8.out) B9.out)
  go_wp2_with fail
  refine (SC.out _ _ _ _ _ (HL.out.on B38.out) (fun _ => ⟨_, rfl, R9.out⟩)).mono ?_
  rintro e w10 ⟨rfl, hb10⟩
  have B10 := Lib.hid hb10
  clear hb10
  have Q5 := Lib.hid (show Below w5.heap.size w5 w10 from below_on (below_on B8.out B9.out) B10.out)
  have Q2 := Lib.hid (show Below w2.heap.size w2 w10 from below_on (below_on B3.out B5.out) Q5.out)
  obtain ⟨b0, b1, b2, b3⟩ := (X2.out.kept Q2.out).facts
  obtain ⟨d0, d1, d2, d3⟩ := (X5.out.kept Q5.out).facts
  go_wp2_with fail
  refine (SM.out _ _ _ _ _ (own_below A5.out Q5.out).arg (own_below A2.out Q2.out).arg).mono ?_
  rintro e w11 ⟨rfl, hb11⟩
  have Q := Lib.hid (show Below w.heap.size w w11 from below_on (below_on B2.out Q2.out) hb11)
  clear hb11 b0 b1 b2 b3 d0 d1 d2 d3
  go_wp2_with fail
  go_ret
  exact ⟨rfl, Q.out⟩
end Go.Proofs.Ytbnebinpemejlaa

namespace Go.Proofs.Ytbnebinpemejlaa
open Go.ChangeShapes Go.WideShapes Go.ChangeAt Go.RowKit Go.Joins Go.Deep

theorem Try.own : ownKnob Try.prog.godebug = none := by kernel_rfl

theorem Try.laidOut : laidOutB Try.prog = true := by kernel_rfl

theorem trodAll_stays {H : Type} {enc : TypeId × Value → H} {W W' : World} {sp : Nat → Bool} : ∀ {ts : List TypeId} {vs : List Value} {ds : List (DataW H)} {ps : List MemPlace}, (∀ t ∈ ts, Try.prog.readableRec t = true ∧ t < Try.prog.types.size) →
    DataW.TrodAll enc Try.prog W 0 (fun _ => true) true ts vs ds ps → (∀ p ∈ ps, W.sameAt W' p) → (∀ p ∈ ps, sp p.block = true) → DataW.TrodAll enc Try.prog W' 0 sp true ts vs ds ps
  | [], [], [], _, _, h, _, _ => h
  | [], [], _ :: _, _, _, h, _, _ => h.elim
  | [], _ :: _, _, _, _, h, _, _ => h.elim
  | _ :: _, [], _, _, _, h, _, _ => h.elim
  | _ :: _, _ :: _, [], _, _, h, _, _ => h.elim
  | t :: ts, v :: vs, d :: ds, ps, ht, h, h1, h2 => by
    obtain ⟨p, q, ha, hb, rfl⟩ := h
    obtain ⟨r1, r2⟩ := ht t (List.mem_cons_self ..)
    exact ⟨p, q, WideElems.Trod_stays Try.laidOut r1 r2 ha (fun x hx => h1 x (List.mem_append_left _ hx)) (fun x hx => h2 x (List.mem_append_left _ hx)),
      trodAll_stays (fun t ht' => ht t (List.mem_cons_of_mem _ ht')) hb (fun x hx => h1 x (List.mem_append_right _ hx)) (fun x hx => h2 x (List.mem_append_right _ hx)), rfl⟩

set_option maxRecDepth 100000 in
/-- The last step of a law: it has returned true; its arguments read as they did, for the call has only made memory. -/
theorem post_law {H : Type} {enc : TypeId × Value → H} {f : Func} {s : ChangeSpec} {apart fresh handsOn again : Bool} {W W' : World} {args : Array Value} {ds gs : List (DataW H)} {before : List MemPlace}
    (hW : DataW.Whole enc Try.prog f.params.toList s.vars apart W args.toList ds gs before) (hv : s.vars = []) (hb : Below W.heap.size W W')
    (ht : ∀ t ∈ f.params.toList, Try.prog.readableRec t = true ∧ t < Try.prog.types.size)
    (hr : f.resultTypes.toList = [4]) (hs : f.resultTypes.size = 1) (hs1 : f.resultTypes[0]? = some 4)
    (hres : (s.fn H ds).results = [.lit (.bool true)]) (hargs : (s.fn H ds).args = ds) (hvars : (s.fn H ds).vars = []) :
    s.post enc Try.prog f apart fresh handsOn again W args (.bool true) W' := by
  have hlt : ∀ p ∈ before, p.block < W.heap.size := fun p hp => hW.lt p hp
  have hW0 := hW
  obtain ⟨p, q, hA, hV, rfl, hz, hn⟩ := hW
  rw [hv] at hV
  obtain ⟨rfl, rfl⟩ := trodVars_none hV
  simp only [List.append_nil] at hlt hz hn hW0
  have key : ∀ sp : Nat → Bool, (∀ x ∈ p, sp x.block = true) → DataW.TrodAll enc Try.prog W' 0 sp true f.params.toList args.toList ds p := fun sp hsp =>
    trodAll_stays ht hA (fun x hx => hb.same (hlt x hx)) hsp
  have res : ∀ (b : Nat) (sp : Nat → Bool) (hd : Bool), DataW.TrodAll enc Try.prog W' b sp hd f.resultTypes.toList ((Value.bool true).resultList f.resultTypes.size) [.lit (.bool true)] [] := fun b sp hd => by
    rw [hr, hs]
    exact trodAll_mk1 (shut_bool Try.underlying4 _)
  have none : ∀ sp : Nat → Bool, DataW.TrodVars enc Try.prog W' sp s.vars (s.fn H (ds ++ [])).vars [] := fun sp => by
    rw [hv, List.append_nil, hvars]; rfl
  have kA : ∀ sp : Nat → Bool, (∀ x ∈ p, sp x.block = true) → DataW.TrodAll enc Try.prog W' 0 sp true f.params.toList args.toList (s.fn H (ds ++ [])).args p := fun sp hsp => by
    rw [List.append_nil, hargs]; exact key sp hsp
  have kR : ∀ (b : Nat) (sp : Nat → Bool) (hd : Bool), DataW.TrodAll enc Try.prog W' b sp hd f.resultTypes.toList ((Value.bool true).resultList f.resultTypes.size) (s.fn H (ds ++ [])).results [] := fun b sp hd => by
    rw [List.append_nil, hres]; exact res b sp hd
  refine ⟨ds, [], p, [], p, [], by simpa using hW0, kR _ _ _, ?_, none _, ?_, fun _ => ?_⟩
  · exact kA _ (fun x hx => by simpa using hlt x hx)
  · exact World.keptBut_mono (fun x hx => ⟨hx, by simpa using hx⟩) (hb.frame (· ∈ p))
  · refine ⟨?_, _, _, ([] ++ p) ++ [], ⟨[] ++ p, [], trodAll_append (kA _ (fun _ _ => rfl)) (kR _ _ _), none _, rfl, ?_, ?_⟩, ?_⟩
    · intro j t r h1 h2
      rw [hs] at h2
      cases j with
      | zero =>
        rw [hs1] at h1
        simp [Value.resultList] at h2
        subst h2
        have e := Option.some.inj h1
        rw [← e]
        exact okWide_bool_mk Try.underlying4 _
      | succ j => rw [Array.getElem?_eq_none (by omega)] at h1; cases h1
    · intro b off hp
      have hin : MemPlace.cell b off ∈ p := by simpa using hp
      rw [hb.frozen (hlt _ hin)]
      exact hz b off hin
    · intro ha
      simpa using hn ha
    · intro x hx _
      simpa using hx
end Go.Proofs.Ytbnebinpemejlaa

namespace Go.Proofs.Ytbnebinpemejlaa
open Go.ChangeShapes Go.WideShapes Go.ChangeAt Go.RowKit Go.Joins Go.Deep

theorem Try.cells43 : Try.prog.cellsOf 43 = 1 := by kernel_rfl

theorem Try.cells22 : Try.prog.cellsOf 22 = 1 := by kernel_rfl

theorem Try.cells3 : Try.prog.cellsOf 3 = 1 := by kernel_rfl

theorem Try.cells25 : Try.prog.cellsOf 25 = 2 := by kernel_rfl

theorem Try.cells56 : Try.prog.cellsOf 56 = 3 := by kernel_rfl

theorem wf_i64 {n : Int} (h : (Lit.int .i64 n).wf = true) : I64 n := by
  simp [Lit.wf, IntKind.min, IntKind.max, IntKind.signed, IntKind.bits] at h
  exact ⟨by omega, by omega⟩

/-- A slice of limits. -/
theorem open_limits {H : Type} {enc : TypeId × Value → H} {W : World} {base fuel : Nat} {sp : Nat → Bool} {held : Bool} {c : Value} {y : DataW H × List MemPlace}
    (h : DataW.trod enc Try.prog W base sp held fuel 22 [c] = some y) : ∃ (ao : Option Addr) (l : List Int) (cap : Nat), c = .slice ao l.length cap ∧ Arg W ao l ∧ l.length ≤ maxLen := by
  rcases open_ints Try.underlying22 Try.underlying43 Try.cells43 h with ⟨e, _⟩ | ⟨a, len, cap, zs, e, _, hl, hm, hz, _, hc, _⟩
  · simp at e
    exact ⟨none, [], 0, by simpa using e, fun q => absurd rfl q, by simp⟩
  · simp at e
    have hlen : len ≤ zs.length := by rw [hz]; split <;> omega
    refine ⟨some a, zs.take len, cap, by rw [e]; simp [hlen], fun _ => ⟨a, rfl, fun j hj => ?_⟩, by simp; omega⟩
    simp at hj
    rw [hc j (by omega)]
    simp [Zo.gt, show j < len by omega]

set_option maxRecDepth 100000 in
/-- A zone by value. -/
theorem open_zone {H : Type} {enc : TypeId × Value → H} {W : World} {base : Nat} {sp : Nat → Bool} {held : Bool} {r : Reach} {b0 : Nat} {v : Value} {d : DataW H} {p : List MemPlace}
    (hv : Value.okWide Try.prog W r b0 25 v) (h : DataW.Trod enc Try.prog W base sp held 25 v d p) :
    ∃ (N : Int) (ao : Option Addr) (l : List Int) (cap : Nat), v = .agg #[.int .i64 N, .slice ao l.length cap] ∧ I64 N ∧ Arg W ao l ∧ l.length ≤ maxLen := by
  obtain ⟨v0, v1, y0, y1, n, rfl, _, _, h0, h1⟩ := open_agg2 Try.underlying25 (by kernel_rfl) Try.cells25 hv h
  obtain ⟨N, e0, _, w0⟩ := DataW.trod_int Try.underlying3 h0
  simp at e0
  obtain ⟨ao, l, cap, e1, hA, hl⟩ := open_limits h1
  exact ⟨N, ao, l, cap, by rw [e0, e1], wf_i64 w0, hA, hl⟩

set_option maxRecDepth 100000 in
/-- A struct of three integers. -/
theorem trod_con {H : Type} {enc : TypeId × Value → H} {W : World} {base fuel : Nat} {sp : Nat → Bool} {held : Bool} {cs : List Value} {y : DataW H × List MemPlace}
    (h : DataW.trod enc Try.prog W base sp held fuel 56 cs = some y) : ∃ i j x : Int, cs = [.int .i64 i, .int .i64 j, .int .i64 x] ∧ I64 i ∧ I64 j ∧ I64 x := by
  obtain ⟨xs, n, _, _, hl, hx, hf⟩ := DataW.trod_struct Try.underlying56 h
  rw [Try.cells56] at hl
  match cs, hl with
  | [a, b, c], _ =>
    have g0 := hf 0 _ rfl
    have g1 := hf 1 _ rfl
    have g2 := hf 2 _ rfl
    match xs, hx with
    | [y0, y1, y2], _ =>
      simp [Try.cells3, Try.cells43] at g0 g1 g2
      obtain ⟨i, e0, _, w0⟩ := DataW.trod_int Try.underlying3 g0
      obtain ⟨j, e1, _, w1⟩ := DataW.trod_int Try.underlying3 g1
      obtain ⟨x, e2, _, w2⟩ := DataW.trod_int Try.underlying43 g2
      simp at e0 e1 e2
      exact ⟨i, j, x, by rw [e0, e1, e2], wf_i64 w0, wf_i64 w1, wf_i64 w2⟩

theorem add_two (a : Addr) (k j : Nat) (hj : 0 < j) : (a.add k).add j = ⟨(a.add k).block, (a.add k).off + j, none⟩ := by
  generalize a.add k = b
  unfold Addr.add
  rw [if_neg (by omega)]

/-- A slice of constraints. -/
theorem open_cons {H : Type} {enc : TypeId × Value → H} {W : World} {base fuel : Nat} {sp : Nat → Bool} {held : Bool} {c : Value} {y : DataW H × List MemPlace}
    (h : DataW.trod enc Try.prog W base sp held fuel 35 [c] = some y) :
    ∃ (ao : Option Addr) (cs : List Con) (cap : Nat), c = .slice ao cs.length cap ∧ Arg3 W ao cs ∧ cs.length ≤ maxLen ∧ (∀ k, k < cs.length → (I64 (gc cs k).1 ∧ I64 (gc cs k).2.1 ∧ I64 (gc cs k).2.2)) ∧ (ao = none → cs = [] ∧ cap = 0) := by
  rcases open_slice Try.underlying35 h with ⟨e, _⟩ | ⟨a, len, cap, m, n, D, Pl, e, _, hl, hm, hmm, _, hi⟩
  · simp at e
    exact ⟨none, [], 0, by simpa using e, fun q => absurd rfl q, by simp, fun k hk => by simp at hk, fun _ => ⟨rfl, rfl⟩⟩
  · simp at e
    have hlen : len ≤ m := by rw [hmm]; split <;> omega
    have key : ∀ i, i < len → ∃ q : Con, (W.cell? (a.add (i * 3)) = some (.int .i64 q.1) ∧ W.cell? ⟨(a.add (i * 3)).block, (a.add (i * 3)).off + 1, none⟩ = some (.int .i64 q.2.1) ∧ W.cell? ⟨(a.add (i * 3)).block, (a.add (i * 3)).off + 2, none⟩ = some (.int .i64 q.2.2)) ∧ I64 q.1 ∧ I64 q.2.1 ∧ I64 q.2.2 := fun i hil => by
      obtain ⟨cs', hc, ht⟩ := hi i (by omega)
      rw [Try.cells56] at hc
      obtain ⟨x, y, z, rfl, w0, w1, w2⟩ := trod_con ht
      obtain ⟨_, hcl, hat⟩ := World.cells?_some hc
      have c0 := hat 0 (by simp)
      have c1 := hat 1 (by simp)
      have c2 := hat 2 (by simp)
      rw [add_two _ _ _ (by omega)] at c1 c2
      rw [show (a.add (i * 3)).add 0 = a.add (i * 3) by simp [Addr.add]] at c0
      exact ⟨(x, y, z), ⟨by simpa using c0, by simpa using c1, by simpa using c2⟩, w0, w1, w2⟩
    obtain ⟨F, hF⟩ : ∃ F : Nat → Con, ∀ i, i < len → (W.cell? (a.add (i * 3)) = some (.int .i64 (F i).1) ∧ W.cell? ⟨(a.add (i * 3)).block, (a.add (i * 3)).off + 1, none⟩ = some (.int .i64 (F i).2.1) ∧ W.cell? ⟨(a.add (i * 3)).block, (a.add (i * 3)).off + 2, none⟩ = some (.int .i64 (F i).2.2)) ∧ I64 (F i).1 ∧ I64 (F i).2.1 ∧ I64 (F i).2.2 := by
      refine ⟨fun i => if h : i < len then (key i h).choose else (0, 0, 0), fun i hil => ?_⟩
      simp only [dif_pos hil]
      exact (key i hil).choose_spec
    have hg : ∀ i, i < len → gc ((List.range len).map F) i = F i := fun i hil => by simp [gc, hil]
    refine ⟨some a, (List.range len).map F, cap, by rw [e]; simp, fun _ => ⟨a, rfl, fun j hj => ?_⟩, by simp; omega, fun k hk => ?_, fun q => by cases q⟩
    · simp at hj
      rw [hg j hj]
      exact (hF j hj).1
    · simp at hk
      rw [hg k hk]
      exact (hF k hk).2

set_option maxRecDepth 100000 in
/-- A slice of one cell, by value, and its reading. -/
theorem trod_slice1 {H : Type} {enc : TypeId × Value → H} {W : World} {base : Nat} {sp : Nat → Bool} {held : Bool} {r : Reach} {b0 : Nat} {t e : TypeId} {v : Value} {d : DataW H} {p : List MemPlace} (ht : Try.prog.underlying t = some (.slice e))
    (hv : Value.okWide Try.prog W r b0 t v) (h : DataW.Trod enc Try.prog W base sp held t v d p) : ∃ n, DataW.trod enc Try.prog W base sp held n t [v] = some (d, p) := by
  obtain ⟨n, hn⟩ := h
  obtain ⟨a, l, c, rfl⟩ := okWide_slice ht hv
  exact ⟨n, hn⟩

set_option maxRecDepth 100000 in
theorem open_cons_arg {H : Type} {enc : TypeId × Value → H} {W : World} {base : Nat} {sp : Nat → Bool} {held : Bool} {r : Reach} {b0 : Nat} {v : Value} {d : DataW H} {p : List MemPlace}
    (hv : Value.okWide Try.prog W r b0 35 v) (h : DataW.Trod enc Try.prog W base sp held 35 v d p) :
    ∃ (ao : Option Addr) (cs : List Con) (cap : Nat), v = .slice ao cs.length cap ∧ Arg3 W ao cs ∧ cs.length ≤ maxLen ∧ (∀ k, k < cs.length → (I64 (gc cs k).1 ∧ I64 (gc cs k).2.1 ∧ I64 (gc cs k).2.2)) ∧ (ao = none → cs = [] ∧ cap = 0) := by
  obtain ⟨n, hn⟩ := trod_slice1 Try.underlying35 hv h
  exact open_cons hn

theorem conV_cells {w : World} {a : Addr} {cs : List Con} (h : Rd3 w a cs) : ∀ j u, (conV cs)[j]? = some u → w.cell? (a.add j) = some u := by
  intro j u hu
  have hj : j < cs.length * 3 := by
    rw [← conV_len]
    by_cases c : j < (conV cs).length
    · exact c
    · rw [List.getElem?_eq_none (by omega)] at hu; cases hu
  obtain ⟨c0, c1, c2⟩ := conV_at cs (j / 3) (by omega)
  obtain ⟨d0, d1, d2⟩ := h (j / 3) (by omega)
  have e : j = j / 3 * 3 ∨ j = j / 3 * 3 + 1 ∨ j = j / 3 * 3 + 2 := by omega
  generalize j / 3 = k at *
  rcases e with rfl | rfl | rfl
  · rw [c0] at hu; rw [d0]; exact hu
  · rw [c1] at hu; rw [← add_add, add_two _ _ _ (by omega), d1]; exact hu
  · rw [c2] at hu; rw [← add_add, add_two _ _ _ (by omega), d2]; exact hu

/-- What a function that returns a zone leaves, in one form for both outcomes. -/
def zrN (er N : Int) : Int := if er = 0 then N else 0

def zrL (er : Int) (l : List Int) : List Int := if er = 0 then l else []

theorem ZRes.val {w : World} {N : Int} {l : List Int} {er : Int} {e : Ending} {w' : World} (h : ZRes w N l er e w') :
    ∃ ao cap, e = .returned (.tuple #[.agg #[.int .i64 (zrN er N), .slice ao (zrL er l).length cap], .int .i64 er]) ∧ Arg w' ao (zrL er l) ∧ (zrL er l).length ≤ maxLen ∧ Below w.heap.size w w' := by
  rcases h.2 with ⟨rfl, g, c, rfl, _, hO⟩ | ⟨h1, rfl⟩
  · refine ⟨some ⟨g, 0, none⟩, c, rfl, hO.arg, ?_, h.1⟩
    rcases hO.2 with ⟨q, _⟩ | ⟨g', cap, cur, _, _, _, h4, h5, _⟩
    · cases q
    · show l.length ≤ maxLen; omega
  · exact ⟨none, 0, by simp [zrN, zrL, h1], fun q => absurd (by simp [zrL, h1]) q, by simp [zrL, h1], h.1⟩

def ZVal (w : World) (M : Int) (m : List Int) (er : Int) (e : Ending) (w' : World) : Prop :=
  ∃ ao cap, e = .returned (.tuple #[.agg #[.int .i64 M, .slice ao m.length cap], .int .i64 er]) ∧ Arg w' ao m ∧ m.length ≤ maxLen ∧ Below w.heap.size w w'

theorem ZRes.zval {w : World} {N : Int} {l : List Int} {er : Int} {e : Ending} {w' : World} (h : ZRes w N l er e w') : ZVal w (zrN er N) (zrL er l) er e w' := h.val
end Go.Proofs.Ytbnebinpemejlaa

namespace Go.Proofs.Ytbnebinpemejlaa
open Go.RowKit

theorem conV_one (cs : List Con) : ∀ u ∈ conV cs, u.oneCell' = true := by
  intro u hu
  unfold conV at hu
  rw [List.mem_flatMap] at hu
  obtain ⟨c, _, hc⟩ := hu
  simp at hc
  rcases hc with rfl | rfl | rfl <;> rfl

theorem same_refl {N M : Int} {l m : List Int} (h1 : N = M) (h2 : l = m) : smB N M l m = true := by subst h1; subst h2; simp [smB]

theorem max_le {n : Nat} (h : n ≤ maxLen) : n ≤ 9223372036854775807 := by unfold maxLen at h; omega

set_option maxRecDepth 100000 in
set_option maxHeartbeats 4000000 in
theorem builds_some (N : Int) (cs : List Con) (a : Addr) (dc : Nat) (w : World) (hD : Arg3 w (some a) cs) (hR : Rd3 w a cs) (hdl : cs.length ≤ 200) :
    Calls Try.prog 10 #[.int .i64 N, .slice (some a) cs.length dc] w (Made (.bool true) w) := by
  obtain ⟨i0, hi, hz0, hz1, hz2⟩ := info_parts con_info
  have BU := Lib.hid (show ∀ W ao c, Arg3 W ao cs → Calls Try.prog 57 #[.int .i64 N, .slice ao cs.length c] W (ZVal W (zrN (buE N cs) N) (zrL (buE N cs) (buL N cs)) (buE N cs)) from fun W ao c h => (zbuild_gen N cs ao c W h (by omega)).mono fun e w' h => h.zval)
  have BR := Lib.hid (show ∀ W, Below w.heap.size w W → Calls Try.prog 58 #[.int .i64 N, .slice (some a) cs.length dc] W (ZVal W (zrN (buE N cs) N) (zrL (buE N cs) (buL N cs)) (buE N cs)) from fun W h => (rbuild_gen N cs (some a) dc W (hD.on h) (by omega)).mono fun e w' h => h.zval)
  have SC := Lib.hid (show ∀ W ao ca, Arg3 W ao cs → Below w.heap.size w W → Calls Try.prog 56 #[.slice ao cs.length ca, .slice (some a) cs.length dc] W (Made (.bool true) W) from fun W ao ca hA h => by
    have := lcs_any cs cs ao (some a) ca dc W hA (hD.on h) (by omega)
    rw [decide_eq_true rfl] at this
    exact this)
  have SM := Lib.hid (show ∀ W M m ao bo ca cb, Arg W ao m → Arg W bo m → m.length ≤ maxLen → Calls Try.prog 41 #[.agg #[.int .i64 M, .slice ao m.length ca], .agg #[.int .i64 M, .slice bo m.length cb]] W (Made (.bool true) W) from fun W M m ao bo ca cb hA hB hm => by
    have := same_any M M m m ao bo ca cb W hA hB (max_le hm)
    rw [same_refl rfl rfl] at this
    exact this)
  have SH := Lib.hid (fun W => shown4_any W)
  have l1 : (conV cs).length = cs.length * 3 := conV_len cs
  have o1 := conV_one cs
  have A := Lib.hid (show ∀ (w' : World), Below w.heap.size w w' → ∀ j u, (conV cs)[j]? = some u → w'.cell? (a.add j) = some u from fun w' h => conV_cells (hR.on h))
  have HOW := Lib.hid (show ∀ w' v, w'.ownsRow w.heap.size 56 3 v cs.length (conV cs) → ∃ ao cap, v = .slice ao cs.length cap ∧ Arg3 w' ao cs from fun w' v h => OwnC.arg h)
  generalize conV cs = xs at *
  generalize zrL (buE N cs) (buL N cs) = m at *
  generalize zrN (buE N cs) N = M at *
  generalize buE N cs = er at *
  generalize hlen : cs.length = len at *
  clear hlen hR hD
  have E0 := Lib.hid (one_more (w1 := w) (.cells #[] 56))
  go_enter Try.func10, Try.ntmps10
  go_wp2_with (at_builtin; refine wpList_append_own _ rfl _ _ 35 rfl w.heap.size 56 i0 (.agg #[.int .i64 0, .int .i64 0, .int .i64 0]) 3 24 Try.underlying35 hi hz0 hz1 hz2 rfl (by decide) _ _ _ rfl (World.ownsRow_made w #[] 0 (Nat.le_refl _) (Nat.zero_le _) (by simp)) a len dc xs rfl l1 (A.out _ E0.out) o1 (by unfold maxLen; omega) (by omega) (by simp) ?_)
  intro v' w1 hown hgrow _
  obtain ⟨ao, cap, rfl, hA1⟩ := HOW.out _ _ hown
  have B1 := Lib.hid (show Below w.heap.size w w1 from Below.grown E0.out hgrow (by simp) (by intro k hk; simp [Value.ownBlock] at hk; omega))
  have HA1 := Lib.hid hA1
  clear hown hgrow hA1 hi hz0 hz1 hz2 i0 l1 o1
  go_wp2_with fail
  refine (BU.out _ _ _ HA1.out).mono ?_
  rintro e w2 ⟨mo, mc, rfl, hA2, hm, hb2⟩
  have HLM := Lib.hid hm
  clear hm
  have SM2 := Lib.hid (fun W ao bo ca cb hA hB => SM.out W M m ao bo ca cb hA hB HLM.out)
  unfold ZVal at BR
  generalize m.length = mlen at *
  obtain ⟨w3, hw3⟩ : ∃ w3, w3 = w2.alloc (.cells #[.int .i64 M, .slice mo mlen mc] 25) := ⟨_, rfl⟩
  have x3 : Two w3 w2.heap.size (.int .i64 M) (.slice mo mlen mc) := by rw [hw3]; exact Two.made _ _ _ _
  have B3 := Lib.hid (show Below w1.heap.size w1 w3 by rw [hw3]; exact hb2.alloc hb2.size _)
  have A3 := Lib.hid (show Arg w3 mo m by rw [hw3]; exact hA2.on (one_more _))
  have X3 := Lib.hid x3
  clear x3 hA2 hb2
  go_upto_region 5 with (fail)
  rw [← hw3]
  clear hw3
  go_wp2_with fail
  refine (BR.out _ (below_on B1.out B3.out)).mono ?_
  rintro e w4 ⟨po, pc, rfl, hA4, _, hb4⟩
  obtain ⟨w5, hw5⟩ : ∃ w5, w5 = w4.alloc (.cells #[.int .i64 M, .slice po mlen pc] 25) := ⟨_, rfl⟩
  have x5 : Two w5 w4.heap.size (.int .i64 M) (.slice po mlen pc) := by rw [hw5]; exact Two.made _ _ _ _
  have B5 := Lib.hid (show Below w3.heap.size w3 w5 by rw [hw5]; exact hb4.alloc hb4.size _)
  have A5 := Lib.hid (show Arg w5 po m by rw [hw5]; exact hA4.on (one_more _))
  obtain ⟨d0, d1, d2, d3⟩ := x5.facts
  obtain ⟨b0, b1, b2, b3⟩ := (X3.out.kept B5.out).facts
  clear x5 hA4 hb4
  go_upto_region 6 with (fail)
  rw [← hw5]
  clear hw5
  go_wp2_with fail
  refine (SM2.out _ _ _ _ _ (A3.out.on B5.out) A5.out).mono ?_
  rintro e w6 ⟨rfl, hb6⟩
  have B6 := Lib.hid (below_on (below_on B3.out B5.out) hb6)
  clear hb6 b0 b1 b2 b3 d0 d1 d2 d3
  have DE : (er == er) = true := by simp
  go_wp2_with fail
  refine (SC.out _ _ _ (HA1.out.on B6.out) (below_on B1.out B6.out)).mono ?_
  rintro e w7 ⟨rfl, hb7⟩
  have B7 := Lib.hid (below_on (below_on B1.out B6.out) hb7)
  clear hb7
  go_wp2_with fail
  refine (SH.out _).mono ?_
  rintro e w8 ⟨rfl, hb8⟩
  have B8 := Lib.hid (below_on B7.out hb8)
  clear hb8
  go_wp2_with fail
  go_ret
  exact ⟨rfl, B8.out⟩

set_option maxRecDepth 100000 in
set_option maxHeartbeats 4000000 in
theorem builds_none (N : Int) (w : World) :
    Calls Try.prog 10 #[.int .i64 N, .slice none 0 0] w (Made (.bool true) w) := by
  obtain ⟨i0, hi, hz0, hz1, hz2⟩ := info_parts con_info
  have BU := Lib.hid (show ∀ W ao c, Arg3 W ao [] → Calls Try.prog 57 #[.int .i64 N, .slice ao 0 c] W (ZVal W (zrN (buE N []) N) (zrL (buE N []) (buL N [])) (buE N [])) from fun W ao c h => (zbuild_gen N [] ao c W h (by simp)).mono fun e w' h => h.zval)
  have BR := Lib.hid (show ∀ W, Below w.heap.size w W → Calls Try.prog 58 #[.int .i64 N, .slice none 0 0] W (ZVal W (zrN (buE N []) N) (zrL (buE N []) (buL N [])) (buE N [])) from fun W h => (rbuild_gen N [] none 0 W (fun q => absurd rfl q) (by simp)).mono fun e w' h => h.zval)
  have SC := Lib.hid (show ∀ W ao ca, Arg3 W ao [] → Calls Try.prog 56 #[.slice ao 0 ca, .slice none 0 0] W (Made (.bool true) W) from fun W ao ca hA => by
    have := lcs_any [] [] ao none ca 0 W hA (fun q => absurd rfl q) (by simp)
    rw [decide_eq_true rfl] at this
    exact this)
  have SM := Lib.hid (show ∀ W M m ao bo ca cb, Arg W ao m → Arg W bo m → m.length ≤ maxLen → Calls Try.prog 41 #[.agg #[.int .i64 M, .slice ao m.length ca], .agg #[.int .i64 M, .slice bo m.length cb]] W (Made (.bool true) W) from fun W M m ao bo ca cb hA hB hm => by
    have := same_any M M m m ao bo ca cb W hA hB (max_le hm)
    rw [same_refl rfl rfl] at this
    exact this)
  have SH := Lib.hid (fun W => shown4_any W)
  have HAR := Lib.hid (show ∀ W, Arg3 W (some ⟨w.heap.size, 0, none⟩) [] from fun W q => absurd rfl q)
  generalize zrL (buE N []) (buL N []) = m at *
  generalize zrN (buE N []) N = M at *
  generalize buE N [] = er at *
  have E0 := Lib.hid (one_more (w1 := w) (.cells #[] 56))
  go_enter Try.func10, Try.ntmps10
  have B1 := E0
  obtain ⟨w1, hw1⟩ : ∃ w1, w1 = w.alloc (.cells #[] 56) := ⟨_, rfl⟩
  rw [← hw1] at B1
  go_wp2_with (at_builtin; refine wpList_append_own_none rfl _ _ 35 rfl w.heap.size 56 i0 3 Try.underlying35 hi _ _ _ rfl (World.ownsRow_made w #[] 0 (Nat.le_refl _) (Nat.zero_le _) (by simp)) rfl ?_)
  rw [← hw1]
  clear hw1 hi hz0 hz1 hz2 i0
  go_wp2_with fail
  refine (BU.out _ _ _ (HAR.out _)).mono ?_
  rintro e w2 ⟨mo, mc, rfl, hA2, hm, hb2⟩
  have HLM := Lib.hid hm
  clear hm
  have SM2 := Lib.hid (fun W ao bo ca cb hA hB => SM.out W M m ao bo ca cb hA hB HLM.out)
  unfold ZVal at BR
  generalize m.length = mlen at *
  obtain ⟨w3, hw3⟩ : ∃ w3, w3 = w2.alloc (.cells #[.int .i64 M, .slice mo mlen mc] 25) := ⟨_, rfl⟩
  have x3 : Two w3 w2.heap.size (.int .i64 M) (.slice mo mlen mc) := by rw [hw3]; exact Two.made _ _ _ _
  have B3 := Lib.hid (show Below w1.heap.size w1 w3 by rw [hw3]; exact hb2.alloc hb2.size _)
  have A3 := Lib.hid (show Arg w3 mo m by rw [hw3]; exact hA2.on (one_more _))
  have X3 := Lib.hid x3
  clear x3 hA2 hb2
  go_upto_region 5 with (fail)
  rw [← hw3]
  clear hw3
  go_wp2_with fail
  refine (BR.out _ (below_on B1.out B3.out)).mono ?_
  rintro e w4 ⟨po, pc, rfl, hA4, _, hb4⟩
  obtain ⟨w5, hw5⟩ : ∃ w5, w5 = w4.alloc (.cells #[.int .i64 M, .slice po mlen pc] 25) := ⟨_, rfl⟩
  have x5 : Two w5 w4.heap.size (.int .i64 M) (.slice po mlen pc) := by rw [hw5]; exact Two.made _ _ _ _
  have B5 := Lib.hid (show Below w3.heap.size w3 w5 by rw [hw5]; exact hb4.alloc hb4.size _)
  have A5 := Lib.hid (show Arg w5 po m by rw [hw5]; exact hA4.on (one_more _))
  obtain ⟨d0, d1, d2, d3⟩ := x5.facts
  obtain ⟨b0, b1, b2, b3⟩ := (X3.out.kept B5.out).facts
  clear x5 hA4 hb4
  go_upto_region 6 with (fail)
  rw [← hw5]
  clear hw5
  go_wp2_with fail
  refine (SM2.out _ _ _ _ _ (A3.out.on B5.out) A5.out).mono ?_
  rintro e w6 ⟨rfl, hb6⟩
  have B6 := Lib.hid (below_on (below_on B3.out B5.out) hb6)
  clear hb6 b0 b1 b2 b3 d0 d1 d2 d3
  have DE : (er == er) = true := by simp
  go_wp2_with fail
  refine (SC.out _ _ _ (HAR.out _)).mono ?_
  rintro e w7 ⟨rfl, hb7⟩
  have B7 := Lib.hid (below_on (below_on B1.out B6.out) hb7)
  clear hb7
  go_wp2_with fail
  refine (SH.out _).mono ?_
  rintro e w8 ⟨rfl, hb8⟩
  have B8 := Lib.hid (below_on B7.out hb8)
  clear hb8
  go_wp2_with fail
  go_ret
  exact ⟨rfl, B8.out⟩

set_option maxRecDepth 100000 in
set_option maxHeartbeats 4000000 in
theorem builds_long (N : Int) (dao : Option Addr) (len dc : Nat) (w : World) (h : 200 < len) :
    Calls Try.prog 10 #[.int .i64 N, .slice dao len dc] w (Made (.bool true) w) := by
  have SH := Lib.hid (fun W => shown4_any W)
  have D : decide ((200 : Int) < (len : Int)) = true := by simp; omega
  go_enter Try.func10, Try.ntmps10
  go_wp2_with fail
  refine (SH.out _).mono ?_
  rintro e w8 ⟨rfl, hb8⟩
  have B8 := Lib.hid hb8
  clear hb8
  go_wp2_with fail
  go_ret
  exact ⟨rfl, B8.out⟩

theorem builds_any (N : Int) (cs : List Con) (dao : Option Addr) (dc : Nat) (w : World) (hD : Arg3 w dao cs) (h0 : dao = none → cs = [] ∧ dc = 0) :
    Calls Try.prog 10 #[.int .i64 N, .slice dao cs.length dc] w (Made (.bool true) w) := by
  by_cases hl : 200 < cs.length
  · exact builds_long N dao cs.length dc w hl
  · cases dao with
    | none =>
      obtain ⟨rfl, rfl⟩ := h0 rfl
      exact builds_none N w
    | some a =>
      refine builds_some N cs a dc w hD ?_ (by omega)
      by_cases he : cs = []
      · subst he; intro j hj; simp at hj
      · obtain ⟨b, h1, h2⟩ := hD he
        obtain rfl := Option.some.inj h1
        exact h2
end Go.Proofs.Ytbnebinpemejlaa
