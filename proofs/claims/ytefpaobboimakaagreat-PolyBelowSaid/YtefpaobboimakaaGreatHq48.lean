/- The law PolyBelow returns true. -/
import Derived.Test.YtefpaobboimakaaGreatHq47
import Derived.Test.YtefpaobboimakaaGreatHq46

namespace Go.Proofs.YtefpaobboimakaaGreat
open Go.RowKit Go.Sort Go.Shelf

/-- The numbers of a line fit. -/
def LineI (y : AV) : Prop := (∀ v ∈ y.a, I64 v) ∧ I64 y.b

theorem fd_64 (x : Ln) (i : Nat) (ps : List Pq) : I2 (fdV x i ps) := dvR_64 _ _

theorem en_64 (l : List Ln) (i : Nat) (ps : List Pq) : ∀ t, I2 (enN l i ps t).1.1.v
  | 0 => by unfold enN en0 I2 I64; simp
  | t + 1 => by
    unfold enN
    split
    · exact en_64 l i ps t
    · split
      · show I2 (clR 1 _ _ _ _).v
        unfold clR
        split
        · split
          · exact fd_64 _ _ _
          · exact en_64 l i ps t
        · exact fd_64 _ _ _
      · split
        · exact en_64 l i ps t
        · exact en_64 l i ps t

theorem below_fin {N : Int} {L : List AV} {P : List Pq} {a : List Int} (hL : leaE N L a = 0) (hE : hasE N L P = 0) (hB : hasB N L P = true) (ha : (a.length : Int) = N) (hS : (atN a P a.length).2 = 0) :
    cmE (atN a P a.length).1 (leaX N L a).v = 0 ∧ (0 < cmR (atN a P a.length).1 (leaX N L a).v ∨ (cmR (atN a P a.length).1 (leaX N L a).v = 0 ∧ ((leaX N L a).ex && !(leaX N L a).op) = true)) := by
  subst ha
  have hp : P.length = a.length := by have := (has_zero hE).2.1; omega
  rw [← hp] at hS ⊢
  have := least_below (n := a.length) hL hE hB rfl hS
  rw [← hp] at this
  exact this

set_option maxRecDepth 100000 in
set_option maxHeartbeats 8000000 in
theorem below_any (N I xb : Int) (xs : Bool) (L M : List AV) (xa aa : List Int) (P : List Pq) (la ma xq pa aq : Option Addr) (lc mc xc pc ac : Nat) (w : World) (hR : RdV w la L) (hS : RdV w ma M) (hL : ∀ y ∈ L, LineI y) (hQ : Rd2 w pa P) (hQI : ∀ t, t < P.length → I2 (gp P t)) (hA : Rd1 w aq aa) (hAI : ∀ v ∈ aa, I64 v) :
    Calls Tryz.prog 8 #[.agg #[.int .i64 N, .slice la L.length lc, .slice ma M.length mc, .slice xq xa.length xc, .int .i64 xb, .bool xs, .int .i64 I, .slice pa P.length pc, .slice aq aa.length ac]] w (Made (.bool true) w) := by
  obtain ⟨l1, e1⟩ : ∃ n, n = L.length := ⟨_, rfl⟩
  obtain ⟨l2, e2⟩ : ∃ n, n = M.length := ⟨_, rfl⟩
  obtain ⟨l3, e3⟩ : ∃ n, n = xa.length := ⟨_, rfl⟩
  obtain ⟨l4, e4⟩ : ∃ n, n = P.length := ⟨_, rfl⟩
  obtain ⟨u, e5⟩ : ∃ n, n = aa.length := ⟨_, rfl⟩
  obtain ⟨w0, hw0⟩ : ∃ w0, w0 = w.alloc (.cells #[.int .i64 N, .slice la l1 lc, .slice ma l2 mc, .slice xq l3 xc, .int .i64 xb, .bool xs, .int .i64 I, .slice pa l4 pc, .slice aq u ac] 28) := ⟨_, rfl⟩
  have E0 := Lib.hid (show Below w.heap.size w w0 by rw [hw0]; exact one_more _)
  have hq := heap_alloc_last w (.cells #[.int .i64 N, .slice la l1 lc, .slice ma l2 mc, .slice xq l3 xc, .int .i64 xb, .bool xs, .int .i64 I, .slice pa l4 pc, .slice aq u ac] 28)
  rw [← hw0] at hq
  have D0 := Lib.hid (show w0.cell? ⟨w.heap.size, 0, none⟩ = some (.int .i64 N) by rw [cell_of_row w0 _ 0 _ _ _ hq]; rfl)
  have D1 := Lib.hid (show w0.cell? ⟨w.heap.size, 1, none⟩ = some (.slice la l1 lc) by rw [cell_of_row w0 _ 1 _ _ _ hq]; rfl)
  have D7 := Lib.hid (show w0.cell? ⟨w.heap.size, 7, none⟩ = some (.slice pa l4 pc) by rw [cell_of_row w0 _ 7 _ _ _ hq]; rfl)
  have D8 := Lib.hid (show w0.cell? ⟨w.heap.size, 8, none⟩ = some (.slice aq u ac) by rw [cell_of_row w0 _ 8 _ _ _ hq]; rfl)
  have C0 := Lib.hid (show CsAt w0 ⟨w.heap.size, 0, none⟩ [.int .i64 N, .slice la l1 lc, .slice ma l2 mc, .slice xq l3 xc, .int .i64 xb, .bool xs, .int .i64 I, .slice pa l4 pc, .slice aq u ac] from fun j v hv => by
    rw [addr_add, Nat.zero_add, cell_of_row w0 _ j _ _ _ hq]; simpa using hv)
  have BY := Lib.hid (beyond_any N I 6 xb xs L M xa aa P la ma xq pa aq lc mc xc pc ac w0 (hR.on E0.out) (hS.on E0.out))
  rw [← e1, ← e2, ← e3, ← e4, ← e5] at BY
  obtain ⟨le, hle⟩ : ∃ le, le = leaE N L aa := ⟨_, rfl⟩
  obtain ⟨lx, hlx⟩ : ∃ lx, lx = leaX N L aa := ⟨_, rfl⟩
  obtain ⟨he, hhe⟩ : ∃ he, he = hasE N L P := ⟨_, rfl⟩
  obtain ⟨hb, hhb⟩ : ∃ hb, hb = hasB N L P := ⟨_, rfl⟩
  have LE := Lib.hid (fun W (h : Below w0.heap.size w0 W) (h2 : aa.length ≤ 20) => least_any N L aa la aq lc ac W ((hR.on E0.out).on h) ((hA.on E0.out).on h) (by omega))
  rw [← hle, ← hlx, ← e1, ← e5] at LE
  have LX := Lib.hid (show le ≠ 0 → lx = en0 from fun h => by rw [hlx]; unfold leaX; rw [← hle, if_neg h])
  have ME := Lib.hid (fun W (h : Below w0.heap.size w0 W) (h2 : ∀ y ∈ L, y.a.length ≤ 20) (h3 : P.length ≤ 20) => meets_any N L P la pa lc pc W ((hR.on E0.out).on h) ((hQ.on E0.out).on h) (fun y hy => ⟨by have := h2 y hy; omega, (hL y hy).1⟩) (fun y hy => (hL y hy).2) hQI (by omega))
  rw [← hhe, ← hhb, ← e1, ← e4] at ME
  have FIN := Lib.hid (show le = 0 → he = 0 → hb = true → (u : Int) = N → (atN aa P u).2 = 0 → cmE (atN aa P u).1 lx.v = 0 ∧ (0 < cmR (atN aa P u).1 lx.v ∨ (cmR (atN aa P u).1 lx.v = 0 ∧ (lx.ex && !lx.op) = true)) from fun a b c d e => by
    rw [hle] at a; rw [hhe] at b; rw [hhb] at c; rw [e5] at d e ⊢; rw [hlx]
    exact below_fin a b c d e)
  have PU := Lib.hid (show he = 0 → (l4 : Int) = N from fun h => by rw [hhe] at h; rw [e4]; exact (has_zero h).2.1)
  have QQ := Lib.hid (show ∀ W, Below w.heap.size w W → ∀ t, t < l4 → ∃ a, pa = some a ∧ QAt W (a.add (t * 2)) (gp P t) from fun W h t ht => (hQ.on h) t (by omega))
  have QI := Lib.hid (show ∀ t, t < l4 → I2 (gp P t) from fun t ht => hQI t (by omega))
  have AA := Lib.hid (show ∀ W, Below w.heap.size w W → ∀ t, t < u → ∃ a, aq = some a ∧ W.cell? (a.add t) = some (.int .i64 (gA aa t)) from fun W h t ht => (hA.on h) t (by omega))
  have AI := Lib.hid (show ∀ t, t < u → I2 (gA aa t, 1) from fun t ht => wh_64 (hAI _ (gA_mem (by omega))))
  have LX2 := Lib.hid (show I2 lx.v from by
    rw [hlx]; unfold leaX
    split
    · unfold infN; exact en_64 _ _ _ _
    · unfold en0 I2 I64; simp)
  have EU := Lib.hid e5
  have E4 := Lib.hid e4
  rw [← e1, ← e2, ← e3, ← e4, ← e5]
  clear hR hS hL hQ hQI hA hAI hq e1 e2 e3 e4 e5 hle hlx hhe hhb
  go_enter Tryz.func8, Tryz.ntmps8
  go_upto_region 1 with (fail)
  rw [← hw0]
  clear hw0
  go_wp2_with (refine wpl_loadC case_agg (by exact case_size) rfl _ rfl _ rfl C0.out ?_)
  refine BY.out.mono ?_
  rintro e w1 ⟨b, rfl, hbl, hF⟩
  have B1 := Lib.hid hbl
  have FK := Lib.hid hF
  clear hbl hF BY C0
  cases b
  case true =>
    go_wp2_with fail
    refine (shown_any w1).mono ?_
    rintro e w2 ⟨rfl, hbl⟩
    have B2 := Lib.hid (below_on E0.out (below_on B1.out hbl))
    clear hbl
    go_wp2_with fail
    go_ret
    exact ⟨rfl, B2.out⟩
  obtain ⟨⟨q1, q2, _⟩, _, _, q4, q5⟩ := FK.out (by first | rfl | trivial)
  have LE1 := Lib.hid (fun W h => LE.out W h (by rw [EU.out]; exact q5))
  have ME1 := Lib.hid (fun W h => ME.out W h q2 (by rw [E4.out]; exact q4))
  have u20 : u ≤ 20 := by rw [EU.out]; exact q5
  have l420 : l4 ≤ 20 := by rw [E4.out]; exact q4
  have c0 := kept B1.out D0.out
  have c1 := kept B1.out D1.out
  have c8 := kept B1.out D8.out
  clear FK q1 q2 q4 q5 LE ME
  go_wp2_with fail
  refine (LE1.out w1 B1.out).mono ?_
  rintro e w2 ⟨hbl, rfl⟩
  have B2 := Lib.hid (below_on B1.out hbl)
  obtain ⟨w3, hw3⟩ : ∃ w3, w3 = w2.alloc (.cells #[.int .i64 lx.v.1, .int .i64 lx.v.2] 50) := ⟨_, rfl⟩
  obtain ⟨b3, hb3⟩ : ∃ b3, b3 = w2.heap.size := ⟨_, rfl⟩
  have P3 := Lib.hid (show Pair w3 b3 lx.v.1 lx.v.2 by rw [hw3, hb3]; exact Pair.made _ _ _ _)
  have B3 := Lib.hid (show Below w0.heap.size w0 w3 by rw [hw3]; exact B2.out.alloc B2.out.size _)
  clear hbl LE1 c0 c1 c8
  go_upto_region 4 with (fail)
  rw [← hw3, ← hb3]
  clear hw3 hb3
  by_cases le0 : le = 0
  case neg =>
    have le0' : (le != 0) = true := by simpa using le0
    have LXE := Lib.hid (LX.out le0)
    have LXV := Lib.hid (show lx.v.1 = 0 ∧ lx.v.2 = 0 ∧ (lx.ex && !lx.op) = false by rw [LXE.out]; exact ⟨rfl, rfl, rfl⟩)
    rw [LXV.out.2.2]
    obtain ⟨f0, f1, _, _⟩ := P3.out.facts
    rw [LXV.out.1] at f0
    rw [LXV.out.2.1] at f1
    clear le0
    go_wp2_with fail
    refine (shown_any w3).mono ?_
    rintro e w4 ⟨rfl, hbl⟩
    have B4 := Lib.hid (below_on E0.out (below_on B3.out hbl))
    clear hbl
    go_wp2_with fail
    go_ret
    exact ⟨rfl, B4.out⟩
  have FIN1 := Lib.hid (FIN.out le0)
  obtain ⟨av, hav⟩ : ∃ av, av = (lx.ex && !lx.op) := ⟨_, rfl⟩
  rw [← hav] at FIN1 ⊢
  subst le0
  have c0 := kept B3.out D0.out
  have c1 := kept B3.out D1.out
  have c7 := kept B3.out D7.out
  clear FIN hav LX
  go_wp2_with fail
  refine (ME1.out w3 B3.out).mono ?_
  rintro e w4 ⟨rfl, hbl⟩
  have W4 := Lib.hid hbl
  have B4 := Lib.hid (below_on B3.out hbl)
  have P4 := Lib.hid (P3.out.kept hbl)
  have c0 := kept B4.out D0.out
  have c8 := kept B4.out D8.out
  clear hbl ME1 c1 c7
  by_cases he0 : he = 0
  case neg =>
    have hd : decide (he = 0) = false := decide_eq_false he0
    rw [hd]
    clear he0 hd
    go_wp2_with fail
    refine (shown_any w4).mono ?_
    rintro e w5 ⟨rfl, hbl⟩
    have B5 := Lib.hid (below_on E0.out (below_on B4.out hbl))
    clear hbl
    go_wp2_with fail
    go_ret
    exact ⟨rfl, B5.out⟩
  have hd : decide (he = 0) = true := decide_eq_true he0
  rw [hd]
  have FIN2 := Lib.hid (FIN1.out he0)
  have UN := Lib.hid (PU.out he0)
  clear hd he0 FIN1 PU
  cases hb
  case false =>
    go_wp2_with fail
    refine (shown_any w4).mono ?_
    rintro e w5 ⟨rfl, hbl⟩
    have B5 := Lib.hid (below_on E0.out (below_on B4.out hbl))
    clear hbl
    go_wp2_with fail
    go_ret
    exact ⟨rfl, B5.out⟩
  have FIN3 := Lib.hid (FIN2.out (by first | rfl | trivial))
  clear FIN2
  by_cases un : (u : Int) = N
  case neg =>
    have un' : ((u : Int) != N) = true := by simpa using un
    clear un
    go_wp2_with fail
    refine (shown_any w4).mono ?_
    rintro e w5 ⟨rfl, hbl⟩
    have B5 := Lib.hid (below_on E0.out (below_on B4.out hbl))
    clear hbl
    go_wp2_with fail
    go_ret
    exact ⟨rfl, B5.out⟩
  have un' : ((u : Int) != N) = false := by simpa using un
  have FIN4 := Lib.hid (FIN3.out un)
  have U4 := Lib.hid (show u = l4 by have := UN.out; omega)
  obtain ⟨w5, hw5⟩ : ∃ w5, w5 = w4.alloc (.cells #[.int .i64 0, .int .i64 1] 50) := ⟨_, rfl⟩
  obtain ⟨b8, hb8⟩ : ∃ b8, b8 = w4.heap.size := ⟨_, rfl⟩
  have P8 := Lib.hid (show Pair w5 b8 0 1 by rw [hw5, hb8]; exact Pair.made _ _ _ _)
  have B5 := Lib.hid (show Below w0.heap.size w0 w5 by rw [hw5]; exact B4.out.alloc B4.out.size _)
  have P5 := Lib.hid (show Pair w5 b3 lx.v.1 lx.v.2 by rw [hw5]; exact P4.out.alloc _)
  have Z8 := Lib.hid (show w0.heap.size ≤ b8 ∧ b3 ≠ b8 by rw [hb8]; exact ⟨B4.out.size, by have := P4.out.lt; omega⟩)
  clear FIN3 un P4 P3
  go_upto_region 10 with (fail)
  rw [← hw5, ← hb8]
  clear hw5 hb8 c0 c8
  go_wp2_with fail
  go_loopw [9] (fun s wr => ∃ t : Nat, s = .int .i64 t ∧ t ≤ u ∧ Hid ((atN aa P t).2 = 0) ∧ Hid (Pair wr b8 (atN aa P t).1.1 (atN aa P t).1.2) ∧ Hid (Pair wr b3 lx.v.1 lx.v.2) ∧ Hid (Below w0.heap.size w0 wr)) (fun s _ => u - (intOf s).toNat)
  case atStart => exact ⟨0, rfl, by omega, Lib.hid rfl, P8, P5, B5⟩
  case round =>
    clear P8 P5 B5
    obtain ⟨t, rfl, ht, HZ, HS, HL, HB⟩ := hrel
    have c8 := kept HB.out D8.out
    by_cases htu : t < u
    · obtain ⟨p, hp, cz⟩ := QQ.out wr (below_on E0.out HB.out) t (by have := U4.out; omega)
      obtain ⟨qa, hqa, ca⟩ := AA.out wr (below_on E0.out HB.out) t htu
      obtain ⟨z, hz⟩ : ∃ z, z = gp P t := ⟨_, rfl⟩
      have Z2 := Lib.hid (show I2 z by rw [hz]; exact QI.out t (by have := U4.out; omega))
      obtain ⟨s, hs⟩ : ∃ s, s = (atN aa P t).1 := ⟨_, rfl⟩
      have S2 := Lib.hid (show I2 s by rw [hs]; exact atN_64 _ _ _)
      obtain ⟨k, hk⟩ : ∃ k, k = gA aa t := ⟨_, rfl⟩
      have K2 := Lib.hid (show I2 (k, 1) by rw [hk]; exact AI.out t htu)
      rw [← hz] at cz
      rw [← hk] at ca
      rw [← hs] at HS
      have CZ := Lib.hid cz
      have CA := Lib.hid ca
      have NX := Lib.hid (show muE (k, 1) z = 0 → atN aa P (t + 1) = (adR s (muR (k, 1) z), adE s (muR (k, 1) z)) from fun h => by
        rw [hk, hz] at h ⊢
        rw [hs]
        exact atN_add HZ.out h)
      obtain ⟨mu, hmu⟩ : ∃ mu, mu = muR (k, 1) z := ⟨_, rfl⟩
      have M2 := Lib.hid (show I2 mu by rw [hmu]; exact muR_64 _ _)
      obtain ⟨me, hme⟩ : ∃ me, me = muE (k, 1) z := ⟨_, rfl⟩
      have MU := Lib.hid (fun W => rmulP_any (k, 1) z W K2.out Z2.out)
      rw [← hmu, ← hme] at MU
      rw [← hmu, ← hme] at NX
      obtain ⟨ad, had⟩ : ∃ ad, ad = adR s mu := ⟨_, rfl⟩
      obtain ⟨ae, hae⟩ : ∃ ae, ae = adE s mu := ⟨_, rfl⟩
      have AD := Lib.hid (fun W => raddP_any s mu W S2.out M2.out)
      rw [← had, ← hae] at AD NX
      have tu : (t : Int) < u := by omega
      have tl : (t : Int) < l4 := by have := U4.out; omega
      have D7r := Lib.hid (kept HB.out D7.out)
      have D8r := Lib.hid c8
      subst hp hqa
      clear cz ca hz hs hk hmu hme had hae
      go_upto_region 13 with (fail)
      clear c8
      go_cut [10, 11] (fun s8 s9 wx => ∃ q8 : Nat, s8 = .pointer (some ⟨q8, 0, none⟩) ∧ s9 = .int .i64 me ∧ Hid (Pair wx q8 mu.1 mu.2) ∧ Hid (Below wr.heap.size wr wx) ∧ Hid (wr.heap.size ≤ q8))
      case first =>
        have KS := Lib.hid (show ∀ W, Below wr.heap.size wr W → (W.cell? ⟨w.heap.size, 8, none⟩ = some (.slice (some qa) u ac) ∧ W.cell? (qa.add t) = some (.int .i64 k) ∧ W.cell? ⟨w.heap.size, 7, none⟩ = some (.slice (some p) l4 pc) ∧ QAt W (p.add (t * 2)) z) from fun W h => ⟨kept h D8r.out, kept h CA.out, kept h D7r.out, CZ.out.on h⟩)
        obtain ⟨wc, hwc⟩ : ∃ wc, wc = wr.drew := ⟨_, rfl⟩
        have Bc := Lib.hid (show Below wr.heap.size wr wc by rw [hwc]; exact (Below.refl _ _).drew)
        refine wp_region_held_drew (S := (fun W => (W.cell? ⟨w.heap.size, 8, none⟩ = some (.slice (some qa) u ac) ∧ W.cell? (qa.add t) = some (.int .i64 k) ∧ W.cell? ⟨w.heap.size, 7, none⟩ = some (.slice (some p) l4 pc) ∧ QAt W (p.add (t * 2)) z))) (by kernel_rfl) (by rw [← hwc]; exact KS.out _ Bc.out) (fun h0 => ?_)
        rw [← hwc] at h0 ⊢
        clear hwc
        refine wpAnyH_take (i := 0) (v := ?v1) rfl (by kernel_rfl) (by kernel_rfl) (by kernel_rfl) (fun _ _ _ h => h) (Or.inl ⟨by rfl, ?hy1⟩) h0 ?rest1
        case hy1 => (intro w' hS; (try dsimp only at hS); go_simp; try (with_reducible rfl))
        simp only [Act.put, List.getElem_toArray, List.getElem_cons_zero, List.setIfInBounds_toArray, List.set_cons_zero, List.set_cons_succ]
        refine wpAnyH_take (i := 1) (v := ?v2) rfl (by kernel_rfl) (by kernel_rfl) (by kernel_rfl) (fun _ _ _ h => h) (Or.inl ⟨by rfl, ?hy2⟩) h0 ?rest2
        case hy2 => (intro w' hS; (try dsimp only at hS); go_simp; try (with_reducible rfl))
        simp only [Act.put, List.getElem_toArray, List.getElem_cons_zero, List.getElem_cons_succ, List.setIfInBounds_toArray, List.set_cons_zero, List.set_cons_succ]
        refine wpAnyH_take (i := 2) (v := ?v3) rfl (by kernel_rfl) (by kernel_rfl) (by kernel_rfl) (fun _ _ _ h => h) (Or.inl ⟨by rfl, ?hy3⟩) h0 ?rest3
        case hy3 => (intro w' hS; (try dsimp only at hS); go_simp; try (with_reducible rfl))
        simp only [Act.put, List.getElem_toArray, List.getElem_cons_zero, List.getElem_cons_succ, List.setIfInBounds_toArray, List.set_cons_zero, List.set_cons_succ]
        refine wpAnyH_take (i := 3) (v := ?v4) rfl (by kernel_rfl) (by kernel_rfl) (by kernel_rfl) (fun _ _ _ h => h) (Or.inl ⟨by rfl, ?hy4⟩) h0 ?rest4
        case hy4 => (intro w' hS; (try dsimp only at hS); go_simp; try (with_reducible rfl))
        simp only [Act.put, List.getElem_toArray, List.getElem_cons_zero, List.getElem_cons_succ, List.setIfInBounds_toArray, List.set_cons_zero, List.set_cons_succ]
        refine wpAnyH_take (i := 4) (v := ?v5) rfl (by kernel_rfl) (by kernel_rfl) (by kernel_rfl) (fun _ _ _ h => h) (Or.inl ⟨by rfl, ?hy5⟩) h0 ?rest5
        case hy5 => (intro w' hS; (try dsimp only at hS); go_simp; try (with_reducible rfl))
        simp only [Act.put, List.getElem_toArray, List.getElem_cons_zero, List.getElem_cons_succ, List.setIfInBounds_toArray, List.set_cons_zero, List.set_cons_succ]
        refine wpAnyH_take (i := 5) (v := ?v6) rfl (by kernel_rfl) (by kernel_rfl) (by kernel_rfl) (fun _ _ _ h => h) (Or.inl ⟨by rfl, ?hy6⟩) h0 ?rest6
        case hy6 => (intro w' hS; (try dsimp only at hS); go_simp; try (with_reducible rfl))
        simp only [Act.put, List.getElem_toArray, List.getElem_cons_zero, List.getElem_cons_succ, List.setIfInBounds_toArray, List.set_cons_zero, List.set_cons_succ]
        refine wpAnyH_take (i := 6) (v := ?v7) rfl (by kernel_rfl) (by kernel_rfl) (by kernel_rfl) (fun _ _ _ h => h) (Or.inl ⟨by rfl, ?hy7⟩) h0 ?rest7
        case hy7 => (intro w' hS; (try dsimp only at hS); go_simp; try (with_reducible rfl))
        simp only [Act.put, List.getElem_toArray, List.getElem_cons_zero, List.getElem_cons_succ, List.setIfInBounds_toArray, List.set_cons_zero, List.set_cons_succ]
        refine wpAnyH_take (i := 7) (v := ?v8) rfl (by kernel_rfl) (by kernel_rfl) (by kernel_rfl) (fun _ _ _ h => h) (Or.inl ⟨by rfl, ?hy8⟩) h0 ?rest8
        case hy8 => (intro w' hS; (try dsimp only at hS); go_simp; try (with_reducible rfl))
        simp only [Act.put, List.getElem_toArray, List.getElem_cons_zero, List.getElem_cons_succ, List.setIfInBounds_toArray, List.set_cons_zero, List.set_cons_succ]
        refine wpAnyH_take (i := 8) (v := ?v9) rfl (by kernel_rfl) (by kernel_rfl) (by kernel_rfl) (fun _ _ _ h => h) (Or.inl ⟨by rfl, ?hy9⟩) h0 ?rest9
        case hy9 => (intro w' hS; (try dsimp only at hS); go_simp; try (with_reducible rfl))
        simp only [Act.put, List.getElem_toArray, List.getElem_cons_zero, List.getElem_cons_succ, List.setIfInBounds_toArray, List.set_cons_zero, List.set_cons_succ]
        refine wpAnyH_take (i := 9) (v := ?v10) rfl (by kernel_rfl) (by kernel_rfl) (by kernel_rfl) (fun _ _ _ h => h) (Or.inl ⟨by rfl, ?hy10⟩) h0 ?rest10
        case hy10 => (intro w' hS; (try dsimp only at hS); go_simp; try (with_reducible rfl))
        simp only [Act.put, List.getElem_toArray, List.getElem_cons_zero, List.getElem_cons_succ, List.setIfInBounds_toArray, List.set_cons_zero, List.set_cons_succ]
        refine wpAnyH_take (i := 10) (v := (.agg #[.int .i64 z.1, .int .i64 z.2])) rfl (by kernel_rfl) (by kernel_rfl) (by kernel_rfl) (fun _ _ _ h => h) (Or.inl ⟨by rfl, fun w' hS => yld_loadQ _ rfl _ rfl hS.2.2.2⟩) h0 ?_
        simp only [Act.put, List.getElem_toArray, List.getElem_cons_zero, List.getElem_cons_succ, List.setIfInBounds_toArray, List.set_cons_zero, List.set_cons_succ]
        refine wpAnyH_ready (rs := [11, 15]) (by kernel_rfl) (by simp) (AllReadyH.cons rfl (fun K hK => ?_) (AllReadyH.cons rfl (fun K hK => ?_) AllReadyH.nil))
        · rw [if_pos (by rfl)]
          go_simp
          refine (MU.out wc).mono ?_
          rintro e wc ⟨rfl, hb⟩
          try (have P9 := Lib.hid (P9.out.kept hb))
          have Bc := Lib.hid (below_on Bc.out hb)
          clear hb
          go_simp
          refine hK.out _ _ (KS.out _ Bc.out) (fun h0_1 => ?_)
          clear hK K h0
          refine wpAnyH_take (i := 12) (v := ?v12) rfl (by kernel_rfl) (by kernel_rfl) (by kernel_rfl) (fun _ _ _ h => h) (Or.inl ⟨by rfl, ?hy12⟩) h0_1 ?rest12
          case hy12 => (intro w' hS; (try dsimp only at hS); go_simp; try (with_reducible rfl))
          simp only [Act.put, List.getElem_toArray, List.getElem_cons_zero, List.getElem_cons_succ, List.setIfInBounds_toArray, List.set_cons_zero, List.set_cons_succ]
          refine wpAnyH_take (i := 13) (v := ?v13) rfl (by kernel_rfl) (by kernel_rfl) (by kernel_rfl) (fun _ _ _ h => h) (Or.inl ⟨by rfl, ?hy13⟩) h0_1 ?rest13
          case hy13 => (intro w' hS; (try dsimp only at hS); go_simp; try (with_reducible rfl))
          simp only [Act.put, List.getElem_toArray, List.getElem_cons_zero, List.getElem_cons_succ, List.setIfInBounds_toArray, List.set_cons_zero, List.set_cons_succ]
          refine wpAnyH_take (i := 14) (v := ?v14) rfl (by kernel_rfl) (by kernel_rfl) (by kernel_rfl) (fun _ _ _ h => h) (Or.inl ⟨by rfl, ?hy14⟩) h0_1 ?rest14
          case hy14 => (intro w' hS; (try dsimp only at hS); go_simp; try (with_reducible rfl))
          simp only [Act.put, List.getElem_toArray, List.getElem_cons_zero, List.getElem_cons_succ, List.setIfInBounds_toArray, List.set_cons_zero, List.set_cons_succ]
          refine wpAnyH_ready (rs := [15]) (by kernel_rfl) (by simp) (AllReadyH.cons rfl (fun K hK => ?_) AllReadyH.nil)
          rw [if_pos (by rfl)]
          go_simp
          have hb := one_more (w1 := wc) (.cells #[.int .i64 0, .int .i64 0] 50)
          have hP := Pair.made wc 0 0 50
          have hz := Bc.out.size
          obtain ⟨q8, hbb⟩ : ∃ b, b = wc.heap.size := ⟨_, rfl⟩
          rw [← hbb] at hP hz
          obtain ⟨wn, hwn⟩ : ∃ wn, wn = wc.alloc (.cells #[.int .i64 0, .int .i64 0] 50) := ⟨_, rfl⟩
          rw [← hwn] at hb hP ⊢
          try rw [← hbb]
          have Bc := Lib.hid (below_on Bc.out hb)
          have P9 := Lib.hid hP
          have Zq8 := Lib.hid hz
          clear hb hP hz hbb hwn
          obtain ⟨wc, hwc⟩ : ∃ wc, wc = wn := ⟨_, rfl⟩
          rw [← hwc] at Bc P9 ⊢
          clear hwc
          go_simp
          refine hK.out _ _ (KS.out _ Bc.out) (fun h0_2 => ?_)
          clear hK K h0_1
          refine wpAnyH_ready (rs := [16]) (by kernel_rfl) (by simp) (AllReadyH.cons rfl (fun K hK => ?_) AllReadyH.nil)
          rw [if_pos (by rfl)]
          go_simp
          obtain ⟨f0, f1, f2, f3⟩ := P9.out.facts
          go_simp
          refine hK.out _ _ (KS.out _ (below_put Bc.out Zq8.out _ _)) (fun h0_3 => ?_)
          clear hK K h0_2
          clear f0 f1 f2 f3
          refine wpAnyH_take (i := 17) (v := ?v15) rfl (by kernel_rfl) (by kernel_rfl) (by kernel_rfl) (fun _ _ _ h => h) (Or.inl ⟨by rfl, ?hy15⟩) h0_3 ?rest15
          case hy15 => (intro w' hS; (try dsimp only at hS); go_simp; try (with_reducible rfl))
          simp only [Act.put, List.getElem_toArray, List.getElem_cons_zero, List.getElem_cons_succ, List.setIfInBounds_toArray]
          try simp only [List.set_cons_succ]
          try simp only [List.set_cons_zero]
          refine wpAnyH_done (by kernel_rfl) ?_ _
          have PE := P9.out.put mu.1 mu.2
          have BE := below_put Bc.out Zq8.out (.int .i64 mu.1) (.int .i64 mu.2)
          obtain ⟨we, hwe⟩ : ∃ we, we = (wc.setCell ⟨q8, 0, none⟩ (.int .i64 mu.1)).setCell ⟨q8, 1, none⟩ (.int .i64 mu.2) := ⟨_, rfl⟩
          rw [← hwe] at PE BE ⊢
          have PX := Lib.hid PE
          have BX := Lib.hid BE
          clear hwe PE BE
          go_wp2_with fail
          go_meet
          case rel => exact ⟨q8, rfl, rfl, PX, BX, Zq8⟩
        · rw [if_pos (by rfl)]
          go_simp
          have hb := one_more (w1 := wc) (.cells #[.int .i64 0, .int .i64 0] 50)
          have hP := Pair.made wc 0 0 50
          have hz := Bc.out.size
          obtain ⟨q8, hbb⟩ : ∃ b, b = wc.heap.size := ⟨_, rfl⟩
          rw [← hbb] at hP hz
          obtain ⟨wn, hwn⟩ : ∃ wn, wn = wc.alloc (.cells #[.int .i64 0, .int .i64 0] 50) := ⟨_, rfl⟩
          rw [← hwn] at hb hP ⊢
          try rw [← hbb]
          have Bc := Lib.hid (below_on Bc.out hb)
          have P9 := Lib.hid hP
          have Zq8 := Lib.hid hz
          clear hb hP hz hbb hwn
          obtain ⟨wc, hwc⟩ : ∃ wc, wc = wn := ⟨_, rfl⟩
          rw [← hwc] at Bc P9 ⊢
          clear hwc
          go_simp
          refine hK.out _ _ (KS.out _ Bc.out) (fun h0_1 => ?_)
          clear hK K h0
          refine wpAnyH_ready (rs := [11]) (by kernel_rfl) (by simp) (AllReadyH.cons rfl (fun K hK => ?_) AllReadyH.nil)
          rw [if_pos (by rfl)]
          go_simp
          refine (MU.out wc).mono ?_
          rintro e wc ⟨rfl, hb⟩
          try (have P9 := Lib.hid (P9.out.kept hb))
          have Bc := Lib.hid (below_on Bc.out hb)
          clear hb
          go_simp
          refine hK.out _ _ (KS.out _ Bc.out) (fun h0_4 => ?_)
          clear hK K h0_1
          refine wpAnyH_take (i := 12) (v := ?v16) rfl (by kernel_rfl) (by kernel_rfl) (by kernel_rfl) (fun _ _ _ h => h) (Or.inl ⟨by rfl, ?hy16⟩) h0_4 ?rest16
          case hy16 => (intro w' hS; (try dsimp only at hS); go_simp; try (with_reducible rfl))
          simp only [Act.put, List.getElem_toArray, List.getElem_cons_zero, List.getElem_cons_succ, List.setIfInBounds_toArray, List.set_cons_zero, List.set_cons_succ]
          refine wpAnyH_take (i := 13) (v := ?v17) rfl (by kernel_rfl) (by kernel_rfl) (by kernel_rfl) (fun _ _ _ h => h) (Or.inl ⟨by rfl, ?hy17⟩) h0_4 ?rest17
          case hy17 => (intro w' hS; (try dsimp only at hS); go_simp; try (with_reducible rfl))
          simp only [Act.put, List.getElem_toArray, List.getElem_cons_zero, List.getElem_cons_succ, List.setIfInBounds_toArray, List.set_cons_zero, List.set_cons_succ]
          refine wpAnyH_take (i := 14) (v := ?v18) rfl (by kernel_rfl) (by kernel_rfl) (by kernel_rfl) (fun _ _ _ h => h) (Or.inl ⟨by rfl, ?hy18⟩) h0_4 ?rest18
          case hy18 => (intro w' hS; (try dsimp only at hS); go_simp; try (with_reducible rfl))
          simp only [Act.put, List.getElem_toArray, List.getElem_cons_zero, List.getElem_cons_succ, List.setIfInBounds_toArray, List.set_cons_zero, List.set_cons_succ]
          refine wpAnyH_ready (rs := [16]) (by kernel_rfl) (by simp) (AllReadyH.cons rfl (fun K hK => ?_) AllReadyH.nil)
          rw [if_pos (by rfl)]
          go_simp
          obtain ⟨f0, f1, f2, f3⟩ := P9.out.facts
          go_simp
          refine hK.out _ _ (KS.out _ (below_put Bc.out Zq8.out _ _)) (fun h0_5 => ?_)
          clear hK K h0_4
          clear f0 f1 f2 f3
          refine wpAnyH_take (i := 17) (v := ?v19) rfl (by kernel_rfl) (by kernel_rfl) (by kernel_rfl) (fun _ _ _ h => h) (Or.inl ⟨by rfl, ?hy19⟩) h0_5 ?rest19
          case hy19 => (intro w' hS; (try dsimp only at hS); go_simp; try (with_reducible rfl))
          simp only [Act.put, List.getElem_toArray, List.getElem_cons_zero, List.getElem_cons_succ, List.setIfInBounds_toArray]
          try simp only [List.set_cons_succ]
          try simp only [List.set_cons_zero]
          refine wpAnyH_done (by kernel_rfl) ?_ _
          have PE := P9.out.put mu.1 mu.2
          have BE := below_put Bc.out Zq8.out (.int .i64 mu.1) (.int .i64 mu.2)
          obtain ⟨we, hwe⟩ : ∃ we, we = (wc.setCell ⟨q8, 0, none⟩ (.int .i64 mu.1)).setCell ⟨q8, 1, none⟩ (.int .i64 mu.2) := ⟨_, rfl⟩
          rw [← hwe] at PE BE ⊢
          have PX := Lib.hid PE
          have BX := Lib.hid BE
          clear hwe PE BE
          go_wp2_with fail
          go_meet
          case rel => exact ⟨q8, rfl, rfl, PX, BX, Zq8⟩
      case rest =>
      obtain ⟨q8, rfl, rfl, HP, HW, HQ⟩ := hcut
      obtain ⟨w6, hw6⟩ : ∃ w6, w6 = wc := ⟨_, rfl⟩
      rw [← hw6] at HP HW ⊢
      clear hw6 MU
      have S6 := Lib.hid (HS.out.kept HW.out)
      obtain ⟨s0, s1, _, _⟩ := S6.out.facts
      obtain ⟨p0, p1, _, _⟩ := HP.out.facts
      go_upto_region 14 with (fail)
      go_wp2_with fail
      refine (AD.out w6).mono ?_
      rintro e w7 ⟨rfl, hbl⟩
      have W7 := Lib.hid (below_on HW.out hbl)
      obtain ⟨w8, hw8⟩ : ∃ w8, w8 = w7.alloc (.cells #[.int .i64 ad.1, .int .i64 ad.2] 50) := ⟨_, rfl⟩
      obtain ⟨b12, hb12⟩ : ∃ b12, b12 = w7.heap.size := ⟨_, rfl⟩
      have P12 := Lib.hid (show Pair w8 b12 ad.1 ad.2 by rw [hw8, hb12]; exact Pair.made _ _ _ _)
      have W8 := Lib.hid (show Below wr.heap.size wr w8 by rw [hw8]; exact W7.out.alloc W7.out.size _)
      have S8 := Lib.hid (HS.out.kept W8.out)
      have L8 := Lib.hid (HL.out.kept W8.out)
      have B8 := Lib.hid (below_on HB.out W8.out)
      clear hbl AD s0 s1 p0 p1 HP HQ
      go_upto_region 15 with (fail)
      rw [← hw8, ← hb12]
      clear hw8 hb12
      by_cases m0 : me = 0
      case neg =>
        have m0' : (me != 0) = true := by simpa using m0
        clear m0
        go_wp2_with fail
        refine (shown_any w8).mono ?_
        rintro e w9 ⟨rfl, hbl⟩
        have B9 := Lib.hid (below_on E0.out (below_on B8.out hbl))
        clear hbl
        go_wp2_with fail
        go_ret
        exact ⟨rfl, B9.out⟩
      have NX1 := Lib.hid (NX.out m0)
      clear NX
      subst m0
      by_cases a0 : ae = 0
      case neg =>
        have a0' : (ae != 0) = true := by simpa using a0
        clear a0
        go_wp2_with fail
        refine (shown_any w8).mono ?_
        rintro e w9 ⟨rfl, hbl⟩
        have B9 := Lib.hid (below_on E0.out (below_on B8.out hbl))
        clear hbl
        go_wp2_with fail
        go_ret
        exact ⟨rfl, B9.out⟩
      have SE := Lib.hid (show (atN aa P (t + 1)).2 = 0 from (congrArg Prod.snd NX1.out).trans a0)
      have SV := Lib.hid (show (atN aa P (t + 1)).1 = ad from congrArg Prod.fst NX1.out)
      clear NX1
      subst a0
      obtain ⟨s0, s1, s2, s3⟩ := S8.out.facts
      obtain ⟨p0, p1, _, _⟩ := P12.out.facts
      have PE := S8.out.put ad.1 ad.2
      have PX := Lib.hid (show Pair ((w8.setCell ⟨b8, 0, none⟩ (.int .i64 ad.1)).setCell ⟨b8, 1, none⟩ (.int .i64 ad.2)) b8 (atN aa P (t + 1)).1.1 (atN aa P (t + 1)).1.2 from SV.out.symm ▸ PE)
      have LX9 := Lib.hid (L8.out.aside (Ne.symm Z8.out.2) (.int .i64 ad.1) (.int .i64 ad.2))
      have BX := Lib.hid (below_put B8.out Z8.out.1 (.int .i64 ad.1) (.int .i64 ad.2))
      clear PE SV
      go_wp2_with fail
      go_roundw
      case rel => exact ⟨t + 1, by go_num, by omega, SE, PX, LX9, BX⟩
      case measure => simp [intOf]; omega
    · have e : t = u := by omega
      rw [e] at HZ HS
      obtain ⟨k1, k2⟩ := FIN4.out HZ.out
      obtain ⟨s, hs⟩ : ∃ s, s = (atN aa P u).1 := ⟨_, rfl⟩
      have S2 := Lib.hid (show I2 s by rw [hs]; exact atN_64 _ _ _)
      rw [← hs] at k1 k2 HS
      have CM := Lib.hid (fun W => rcmpP_any s lx.v W S2.out LX2.out)
      obtain ⟨k, hk⟩ : ∃ k, k = cmR s lx.v := ⟨_, rfl⟩
      rw [k1, ← hk] at CM
      rw [← hk] at k2
      have K2 := Lib.hid k2
      obtain ⟨s0, s1, _, _⟩ := HS.out.facts
      obtain ⟨p0, p1, _, _⟩ := HL.out.facts
      clear e hs k1 k2 hk FIN4
      go_wp2_with fail
      refine (CM.out wr).mono ?_
      rintro e w9 ⟨rfl, hbl⟩
      have B9 := Lib.hid (below_on HB.out hbl)
      clear hbl CM s0 s1 p0 p1 c8
      rcases K2.out with k0 | ⟨k0, ka⟩
      · go_wp2_with fail
        refine (shown_any w9).mono ?_
        rintro e w10 ⟨rfl, hbl⟩
        have B10 := Lib.hid (below_on E0.out (below_on B9.out hbl))
        clear hbl
        go_wp2_with fail
        go_ret
        exact ⟨rfl, B10.out⟩
      · subst k0 ka
        go_wp2_with fail
        refine (shown_any w9).mono ?_
        rintro e w10 ⟨rfl, hbl⟩
        have B10 := Lib.hid (below_on E0.out (below_on B9.out hbl))
        clear hbl
        go_wp2_with fail
        go_ret
        exact ⟨rfl, B10.out⟩
end Go.Proofs.YtefpaobboimakaaGreat
