/- The contract of package poly's ends.; The contract of package poly's point. -/
import Derived.Test.YtbhaoaobhgilkaaGreatWm22
import Derived.Test.YtbhaoaobhgilkaaGreatWm23
import Derived.Test.YtbhaoaobhgilkaaGreatWm13

namespace Go.Proofs.YtbhaoaobhgilkaaGreat
open Go.RowKit Go.Sort Go.Shelf

def enN (l : List Ln) (i : Nat) (ps : List Pq) : Nat → (En × En) × Int
  | 0 => ((en0, en0), 0)
  | t + 1 => if (enN l i ps t).2 ≠ 0 then enN l i ps t else
    if gA (l.getD t ln0).a i < 0 then ((clR 1 (enN l i ps t).1.1 (l.getD t ln0) i ps, (enN l i ps t).1.2), clE (enN l i ps t).1.1 (l.getD t ln0) i ps) else
    if 0 < gA (l.getD t ln0).a i then (((enN l i ps t).1.1, clR (-1) (enN l i ps t).1.2 (l.getD t ln0) i ps), clE (enN l i ps t).1.2 (l.getD t ln0) i ps) else enN l i ps t

theorem enN_stop {l : List Ln} {i : Nat} {ps : List Pq} {t : Nat} (h : (enN l i ps t).2 ≠ 0) : ∀ j, enN l i ps (t + j) = enN l i ps t
  | 0 => rfl
  | j + 1 => by
    have e : ∀ k, (enN l i ps k).2 ≠ 0 → enN l i ps (k + 1) = enN l i ps k := fun k hk => by
      unfold enN
      rw [if_pos hk]
      cases k <;> rfl
    have ih := enN_stop h j
    exact (e (t + j) (by rw [ih]; exact h)).trans ih

theorem enN_end {l : List Ln} {i : Nat} {ps : List Pq} {t n : Nat} (ht : t ≤ n) (h : (enN l i ps t).2 ≠ 0) : enN l i ps n = enN l i ps t := by
  have := enN_stop h (n - t)
  rwa [show t + (n - t) = n by omega] at this

theorem enN_low {l : List Ln} {i : Nat} {ps : List Pq} {t : Nat} {x : Ln} (h : (enN l i ps t).2 = 0) (hx : l.getD t ln0 = x) (k : gA x.a i < 0) : enN l i ps (t + 1) = ((clR 1 (enN l i ps t).1.1 x i ps, (enN l i ps t).1.2), clE (enN l i ps t).1.1 x i ps) := by
  subst hx
  conv => lhs; unfold enN
  rw [if_neg (fun q => q h), if_pos k]

theorem enN_high {l : List Ln} {i : Nat} {ps : List Pq} {t : Nat} {x : Ln} (h : (enN l i ps t).2 = 0) (hx : l.getD t ln0 = x) (k : 0 < gA x.a i) : enN l i ps (t + 1) = (((enN l i ps t).1.1, clR (-1) (enN l i ps t).1.2 x i ps), clE (enN l i ps t).1.2 x i ps) := by
  subst hx
  conv => lhs; unfold enN
  rw [if_neg (fun q => q h), if_neg (by omega), if_pos k]

theorem enN_none {l : List Ln} {i : Nat} {ps : List Pq} {t : Nat} {x : Ln} (h : (enN l i ps t).2 = 0) (hx : l.getD t ln0 = x) (k : gA x.a i = 0) : enN l i ps (t + 1) = enN l i ps t := by
  subst hx
  conv => lhs; unfold enN
  rw [if_neg (fun q => q h), if_neg (by omega), if_neg (by omega)]

theorem fdV_64 (x : Ln) (i : Nat) (ps : List Pq) : I2 (fdV x i ps) := dvR_64 _ _

theorem clR_64 {s : Int} {c : En} (h : I2 c.v) (x : Ln) (i : Nat) (ps : List Pq) : I2 (clR s c x i ps).v := by
  unfold clR
  split
  · split
    · exact fdV_64 _ _ _
    · exact h
  · exact fdV_64 _ _ _

theorem enN_64 (l : List Ln) (i : Nat) (ps : List Pq) (t : Nat) : I2 (enN l i ps t).1.1.v ∧ I2 (enN l i ps t).1.2.v := by
  induction t with
  | zero => unfold enN en0 I2 I64; simp
  | succ t ih =>
    unfold enN
    split
    · cases t <;> exact ih
    · split
      · exact ⟨clR_64 ih.1 _ _ _, ih.2⟩
      · split
        · exact ⟨ih.1, clR_64 ih.2 _ _ _⟩
        · cases t <;> exact ih

structure EnS (w W : World) (B : Nat) (ao : Option Addr) (n cap i : Nat) (lo up : En) : Prop where
  be : Below w.heap.size w W
  bi : W.cell? ⟨B, 0, none⟩ = some (.int .i64 i)
  bb : W.cell? ⟨B + 1, 0, none⟩ = some (.slice ao n cap)
  l : EnB W (B + 2) lo
  u : EnB W (B + 3) up
  c1 : W.cell? ⟨B + 4, 0, none⟩ = some (.pointer (some ⟨B + 2, 0, none⟩))
  s1 : W.cell? ⟨B + 5, 0, none⟩ = some (.int .i64 1)
  c2 : W.cell? ⟨B + 6, 0, none⟩ = some (.pointer (some ⟨B + 3, 0, none⟩))
  s2 : W.cell? ⟨B + 7, 0, none⟩ = some (.int .i64 (-1))

theorem EnS.on {w W V : World} {B : Nat} {ao : Option Addr} {n cap i : Nat} {lo up : En} (h : EnS w W B ao n cap i lo up) (k : Below W.heap.size W V) : EnS w V B ao n cap i lo up :=
  ⟨below_on h.be k, kept k h.bi, kept k h.bb, h.l.kept k, h.u.kept k, kept k h.c1, kept k h.s1, kept k h.c2, kept k h.s2⟩

theorem EnS.low {w W V : World} {B : Nat} {ao : Option Addr} {n cap i : Nat} {lo up lo' : En} (h : EnS w W B ao n cap i lo up) (hB : w.heap.size ≤ B) (k : GB (B + 2) W V) (hl : EnB V (B + 2) lo') : EnS w V B ao n cap i lo' up :=
  ⟨(h.be).trans (k.to_below (by omega) h.be.size), k.cell (by show B ≠ _; omega) h.bi, k.cell (by show B + 1 ≠ _; omega) h.bb, hl, (k.block _ h.u.lt (by simp)).trans h.u, k.cell (by show B + 4 ≠ _; omega) h.c1, k.cell (by show B + 5 ≠ _; omega) h.s1, k.cell (by show B + 6 ≠ _; omega) h.c2, k.cell (by show B + 7 ≠ _; omega) h.s2⟩

theorem EnS.high {w W V : World} {B : Nat} {ao : Option Addr} {n cap i : Nat} {lo up up' : En} (h : EnS w W B ao n cap i lo up) (hB : w.heap.size ≤ B) (k : GB (B + 3) W V) (hl : EnB V (B + 3) up') : EnS w V B ao n cap i lo up' :=
  ⟨(h.be).trans (k.to_below (by omega) h.be.size), k.cell (by show B ≠ _; omega) h.bi, k.cell (by show B + 1 ≠ _; omega) h.bb, (k.block _ h.l.lt (by simp)).trans h.l, hl, k.cell (by show B + 4 ≠ _; omega) h.c1, k.cell (by show B + 5 ≠ _; omega) h.s1, k.cell (by show B + 6 ≠ _; omega) h.c2, k.cell (by show B + 7 ≠ _; omega) h.s2⟩

theorem en_load {w : World} {b : Nat} {x : En} (h : EnB w b x) : (loadVar 105 ⟨b, 0, none⟩).run Tryz.prog w = .ok (.agg x.cs) w :=
  run_loadVar_row w b _ _ x.cs (0, 0) _ h Tryz.underlying105 rfl zero_en

theorem results_en2 {fn : Func} {p q : Tmp} (h : fn.results = #[.cell p 105, .cell q 105]) (tmps : Array Value) {w : World} {b c : Nat} {x y : En}
    (hp : tmps.getD p undef = .pointer (some ⟨b, 0, none⟩)) (hq : tmps.getD q undef = .pointer (some ⟨c, 0, none⟩)) (hx : EnB w b x) (hy : EnB w c y) : (results fn tmps).run Tryz.prog w = .ok (.tuple #[.agg x.cs, .agg y.cs]) w := by
  have hp' : tmps[p]?.getD undef = .pointer (some ⟨b, 0, none⟩) := by simpa using hp
  have hq' : tmps[q]?.getD undef = .pointer (some ⟨c, 0, none⟩) := by simpa using hq
  have h1 := en_load hx
  have h2 := en_load hy
  generalize x.cs = X at *
  generalize y.cs = Y at *
  simp [results, h, hp', hq', asAddr, h1, h2]

def ensW (w : World) (ao : Option Addr) (n cap i : Nat) : World :=
  (((((((w.alloc (.cells #[.int .i64 i] 3)).alloc (.cells #[.slice ao n cap] 26)).alloc (.cells #[.int .i64 0, .int .i64 0, .bool false, .bool false] 105)).alloc (.cells #[.int .i64 0, .int .i64 0, .bool false, .bool false] 105)).alloc (.cells #[.pointer (some ⟨w.heap.size + 2, 0, none⟩)] 149)).alloc (.cells #[.int .i64 1] 3)).alloc (.cells #[.pointer (some ⟨w.heap.size + 3, 0, none⟩)] 149)).alloc (.cells #[.int .i64 (-1)] 3)

theorem ens_start (w : World) (ao : Option Addr) (n cap i : Nat) : EnS w (ensW w ao n cap i) w.heap.size ao n cap i en0 en0 := by
  unfold ensW
  refine ⟨?_, by go_simp, by go_simp, ?_, ?_, by go_simp, by go_simp, by go_simp, by go_simp⟩
  · exact past_three (past_three (past_two (Below.refl _ _)))
  · have := ((((((EnB.made ((w.alloc (.cells #[.int .i64 i] 3)).alloc (.cells #[.slice ao n cap] 26)) en0).kept (one_more (.cells #[.int .i64 0, .int .i64 0, .bool false, .bool false] 105))).kept (one_more (.cells #[.pointer (some ⟨w.heap.size + 2, 0, none⟩)] 149))).kept (one_more (.cells #[.int .i64 1] 3))).kept (one_more (.cells #[.pointer (some ⟨w.heap.size + 3, 0, none⟩)] 149))).kept (one_more (.cells #[.int .i64 (-1)] 3)))
    simpa [en0, En.cs, En.cells] using this
  · have := (((((EnB.made (((w.alloc (.cells #[.int .i64 i] 3)).alloc (.cells #[.slice ao n cap] 26)).alloc (.cells #[.int .i64 0, .int .i64 0, .bool false, .bool false] 105)) en0).kept (one_more (.cells #[.pointer (some ⟨w.heap.size + 2, 0, none⟩)] 149))).kept (one_more (.cells #[.int .i64 1] 3))).kept (one_more (.cells #[.pointer (some ⟨w.heap.size + 3, 0, none⟩)] 149))).kept (one_more (.cells #[.int .i64 (-1)] 3)))
    simpa [en0, En.cs, En.cells] using this

def EnRes (w : World) (lo up : En) (er : Int) (e : Ending) (w' : World) : Prop := Below w.heap.size w w' ∧ ((er = 0 ∧ e = .returned (.tuple #[.agg lo.cs, .agg up.cs])) ∨ (er ≠ 0 ∧ e = .panicked (pan er)))

set_option maxRecDepth 100000 in
set_option maxHeartbeats 4000000 in
theorem ends_any (l : List Ln) (i : Nat) (ps : List Pq) (bo ao : Option Addr) (bc cap : Nat) (w : World) (hl : l.length ≤ 100000) (hL : RdL w bo l) (hg : ∀ x ∈ l, Rg 2147483647 x) (hi : i < 6) (hn : ps.length ≤ 6) (hR : Rd2 w ao ps) (hI : ∀ t, t < ps.length → I2 (gp ps t)) :
    Calls Tryz.prog 106 #[.slice bo l.length bc, .int .i64 i, .slice ao ps.length cap] w (EnRes w (enN l i ps l.length).1.1 (enN l i ps l.length).1.2 (enN l i ps l.length).2) := by
  have hmf : ∀ (fn : Fn) (first cap : Array Value) (w : World), (Instr.makeFunc fn first cap).run Tryz.prog w = .ok (.func fn first cap) w := fun _ _ _ _ => rfl
  have E1 := Lib.hid (fun side c x (hs : side = 1 ∨ side = -1) (hc : I2 c.v) (hx : Rg 2147483647 x) pb pi pc pd g W (hb : Below w.heap.size w W) c0 c1 c2 c3 hg => ends2_any side c x i ps ao cap pb pi pc pd g W hs hc hx hi hn (hR.on hb) hI c0 c1 c2 c3 hg)
  have LR := Lib.hid (fun W (hb : Below w.heap.size w W) => hL.on hb)
  have GG := Lib.hid hg
  obtain ⟨n, hN⟩ : ∃ n, n = ps.length := ⟨_, rfl⟩
  obtain ⟨m, hM⟩ : ∃ m, m = l.length := ⟨_, rfl⟩
  have HM := Lib.hid hM
  have N64 := Lib.hid (enN_64 l i ps)
  have i6 : (i : Int) < 6 := by omega
  have I6 := Lib.hid hi
  rw [← hN] at E1 ⊢
  rw [← hM]
  have hm : m ≤ 100000 := by omega
  clear hL hg hn hR hI hN hM hl
  go_enter Tryz.func106, Tryz.ntmps106
  go_wp2_with (rw [hmf])
  refine (ends1_any _ 1 _ _ _).mono ?_
  rintro e w1 ⟨rfl, rfl⟩
  go_wp2_with fail
  refine (ends1_any _ (-1) _ _ _).mono ?_
  rintro e w1 ⟨rfl, rfl⟩
  go_wp2_with fail
  simp only [Nat.add_assoc, Nat.reduceAdd]
  have S0 := Lib.hid (ens_start w ao n cap i)
  rw [show (((((((w.alloc (.cells #[.int .i64 i] 3)).alloc (.cells #[.slice ao n cap] 26)).alloc (.cells #[.int .i64 0, .int .i64 0, .bool false, .bool false] 105)).alloc (.cells #[.int .i64 0, .int .i64 0, .bool false, .bool false] 105)).alloc (.cells #[.pointer (some ⟨w.heap.size + 2, 0, none⟩)] 149)).alloc (.cells #[.int .i64 1] 3)).alloc (.cells #[.pointer (some ⟨w.heap.size + 3, 0, none⟩)] 149)).alloc (.cells #[.int .i64 (-1)] 3) = ensW w ao n cap i from rfl]
  generalize ensW w ao n cap i = w0 at *
  obtain ⟨B, hB⟩ : ∃ B, B = w.heap.size := ⟨_, rfl⟩
  have HB := Lib.hid (show w.heap.size ≤ B by omega)
  rw [← hB] at S0 ⊢
  clear hB hmf
  go_loopw [20] (fun s wr => ∃ t : Nat, s = .int .i64 t ∧ t ≤ m ∧ Hid ((enN l i ps t).2 = 0) ∧ Hid (EnS w wr B ao n cap i (enN l i ps t).1.1 (enN l i ps t).1.2)) (fun s _ => m - (intOf s).toNat)
  case atStart => exact ⟨0, rfl, by omega, Lib.hid rfl, S0⟩
  case round =>
    obtain ⟨t, rfl, ht, HE, HS⟩ := hrel
    by_cases htm : t < m
    · have hlt : t < l.length := by have := HM.out; omega
      obtain ⟨p, hp, c0⟩ := (LR.out _ HS.out.be) t hlt
      obtain ⟨x, hx⟩ : ∃ x, x = l[t] := ⟨_, rfl⟩
      have GX := Lib.hid (show Rg 2147483647 x by rw [hx]; exact GG.out _ (List.getElem_mem _))
      have XD := Lib.hid (show l.getD t ln0 = x by rw [getD_at hlt]; exact hx.symm)
      rw [← hx] at c0
      have LA := Lib.hid c0
      have N6 := Lib.hid (N64.out t)
      obtain ⟨u, hu⟩ : ∃ u, u = gA x.a i := ⟨_, rfl⟩
      have HU := Lib.hid hu
      have hz := ln_zero
      subst hp
      have N1 := Lib.hid (show Bk (wr.alloc (.cells ln0.cs 82)) wr.heap.size ln0 from Bk.made wr ln0 rfl)
      have N2 := Lib.hid (N1.out.setRow GX.out.len)
      have B2 := Lib.hid (Below.setRow ((Below.refl wr.heap.size wr).alloc (Nat.le_refl _) (.cells ln0.cs 82)) (b := wr.heap.size) (Nat.le_refl _) x.cs)
      have GU := Lib.hid (show ∀ W q, Bk W q x → W.cell? ⟨q, i, none⟩ = some (.int .i64 u) from fun W q h => by rw [hu]; exact h.at I6.out)
      clear c0 hx hlt hu
      go_upto_region 6 with (first | refine wpl_loadP rfl _ rfl _ rfl x LA.out ?_ | refine wpl_store rfl _ _ rfl _ _ rfl rfl _ N1.out GX.out.len ?_)
      generalize (wr.alloc (.cells ln0.cs 82)).setRow wr.heap.size x.cs = w1 at *
      have S1 := Lib.hid (HS.out.on B2.out)
      obtain ⟨q, hq⟩ : ∃ q, q = wr.heap.size := ⟨_, rfl⟩
      rw [← hq] at N2 ⊢
      clear N1 B2 hq LA HS hz wr
      obtain ⟨lo, hlo⟩ : ∃ lo, lo = (enN l i ps t).1.1 := ⟨_, rfl⟩
      obtain ⟨up, hup⟩ : ∃ up, up = (enN l i ps t).1.2 := ⟨_, rfl⟩
      have HLO := Lib.hid hlo
      have HUP := Lib.hid hup
      rw [← hlo, ← hup] at S1 N6
      clear hlo hup
      have c0 := GU.out w1 q N2.out
      have c1 := S1.out.bi
      have NX := Lib.hid N2.out.lnAt
      by_cases hneg : u < 0
      · have NE := Lib.hid (show enN l i ps (t + 1) = ((clR 1 lo x i ps, up), clE lo x i ps) by rw [HLO.out, HUP.out]; exact enN_low HE.out XD.out (by rw [← HU.out]; exact hneg))
        go_wp2_with (refine wpl_loadP rfl _ rfl _ rfl x NX.out ?_)
        refine (E1.out 1 lo x (Or.inl rfl) N6.out.1 GX.out (B + 1) B (B + 4) (B + 5) (B + 2) w1 S1.out.be S1.out.bb S1.out.bi S1.out.c1 S1.out.s1 S1.out.l).mono ?_
        rintro e w2 (⟨he, rfl, hl, hg⟩ | ⟨he, rfl, hb⟩)
        · have S2 := Lib.hid (S1.out.low HB.out hg hl)
          have HZ := Lib.hid he
          clear hl hg he
          go_wp2_with fail
          go_roundw
          case rel => exact ⟨t + 1, by go_num, by omega, Lib.hid (by rw [NE.out]; exact HZ.out), Lib.hid (by rw [NE.out]; exact S2.out)⟩
          case measure => simp [intOf]; omega
        · have NF := Lib.hid (show (enN l i ps m).2 = clE lo x i ps by rw [enN_end (t := t + 1) (by omega) (by rw [NE.out]; exact he), NE.out])
          go_wp2_with fail
          exact And.intro rfl ⟨below_on S1.out.be hb, Or.inr ⟨by rw [NF.out]; exact he, by rw [NF.out]⟩⟩
      · by_cases hpos : 0 < u
        · have NE := Lib.hid (show enN l i ps (t + 1) = ((lo, clR (-1) up x i ps), clE up x i ps) by rw [HLO.out, HUP.out]; exact enN_high HE.out XD.out (by rw [← HU.out]; exact hpos))
          go_wp2_with (refine wpl_loadP rfl _ rfl _ rfl x NX.out ?_)
          refine (E1.out (-1) up x (Or.inr rfl) N6.out.2 GX.out (B + 1) B (B + 6) (B + 7) (B + 3) w1 S1.out.be S1.out.bb S1.out.bi S1.out.c2 S1.out.s2 S1.out.u).mono ?_
          rintro e w2 (⟨he, rfl, hl, hg⟩ | ⟨he, rfl, hb⟩)
          · have S2 := Lib.hid (S1.out.high HB.out hg hl)
            have HZ := Lib.hid he
            clear hl hg he
            go_wp2_with fail
            go_roundw
            case rel => exact ⟨t + 1, by go_num, by omega, Lib.hid (by rw [NE.out]; exact HZ.out), Lib.hid (by rw [NE.out]; exact S2.out)⟩
            case measure => simp [intOf]; omega
          · have NF := Lib.hid (show (enN l i ps m).2 = clE up x i ps by rw [enN_end (t := t + 1) (by omega) (by rw [NE.out]; exact he), NE.out])
            go_wp2_with fail
            exact And.intro rfl ⟨below_on S1.out.be hb, Or.inr ⟨by rw [NF.out]; exact he, by rw [NF.out]⟩⟩
        · have NE := Lib.hid (show enN l i ps (t + 1) = enN l i ps t from enN_none HE.out XD.out (by rw [← HU.out]; omega))
          go_wp2_with fail
          go_roundw
          case rel => exact ⟨t + 1, by go_num, by omega, Lib.hid (by rw [NE.out]; exact HE.out), Lib.hid (by rw [NE.out, ← HLO.out, ← HUP.out]; exact S1.out)⟩
          case measure => simp [intOf]; omega
    · obtain rfl : t = m := by omega
      obtain ⟨lo, hlo⟩ : ∃ lo, lo = (enN l i ps t).1.1 := ⟨_, rfl⟩
      obtain ⟨up, hup⟩ : ∃ up, up = (enN l i ps t).1.2 := ⟨_, rfl⟩
      rw [← hlo, ← hup] at HS
      have HLO := Lib.hid hlo
      have HUP := Lib.hid hup
      have L1 := Lib.hid HS.out.l
      have U1 := Lib.hid HS.out.u
      have L2 := Lib.hid (L1.out.setRow (y := lo))
      have U2 := Lib.hid (show EnB (wr.setRow (B + 2) lo.cs) (B + 3) up from (setRow_other wr (B + 2) (B + 3) lo.cs (by omega)).trans U1.out)
      have L3 := Lib.hid (show EnB ((wr.setRow (B + 2) lo.cs).setRow (B + 3) up.cs) (B + 2) lo from (setRow_other _ (B + 3) (B + 2) up.cs (by omega)).trans L2.out)
      have U3 := Lib.hid (U2.out.setRow (y := up))
      have B3 := Lib.hid (Below.setRow (Below.setRow HS.out.be (b := B + 2) (by have := HB.out; omega) lo.cs) (b := B + 3) (by have := HB.out; omega) up.cs)
      clear hlo hup
      go_wp2_with (first | refine wpList_load_row rfl _ _ rfl (B + 2) rfl _ lo.cs (0, 0) _ L1.out Tryz.underlying105 rfl zero_en ?_ | refine wpList_load_row rfl _ _ rfl (B + 3) rfl _ up.cs (0, 0) _ U1.out Tryz.underlying105 rfl zero_en ?_ | refine wpList_store_row rfl _ _ _ rfl (B + 2) lo.cs rfl rfl _ _ L1.out zero_en rfl (En.one _) ?_ | refine wpList_store_row rfl _ _ _ rfl (B + 3) up.cs rfl rfl _ _ U2.out zero_en rfl (En.one _) ?_)
      exact bodyPost_ret (results_en2 Tryz.results106 _ rfl rfl L3.out U3.out) rfl ⟨B3.out, Or.inl ⟨HE.out, by rw [HLO.out, HUP.out]⟩⟩
end Go.Proofs.YtbhaoaobhgilkaaGreat

namespace Go.Proofs.YtbhaoaobhgilkaaGreat
open Go.RowKit Go.Sort Go.Shelf

def qV (ps : List Pq) : List Value := ps.flatMap fun p => [.int .i64 p.1, .int .i64 p.2]

theorem qV_len (ps : List Pq) : (qV ps).length = ps.length * 2 := by
  unfold qV
  induction ps with
  | nil => rfl
  | cons c cs ih => rw [List.flatMap_cons, List.length_append, ih, List.length_cons]; simp; omega

theorem qV_app (ps qs : List Pq) : qV (ps ++ qs) = qV ps ++ qV qs := by unfold qV; rw [List.flatMap_append]

theorem qV_at (ps : List Pq) (k : Nat) (hk : k < ps.length) : (qV ps)[k * 2]? = some (.int .i64 (gp ps k).1) ∧ (qV ps)[k * 2 + 1]? = some (.int .i64 (gp ps k).2) := by
  induction ps generalizing k with
  | nil => simp at hk
  | cons c cs ih =>
    cases k with
    | zero => exact ⟨rfl, rfl⟩
    | succ k =>
      have := ih k (by simp at hk; omega)
      have e : qV (c :: cs) = [.int .i64 c.1, .int .i64 c.2] ++ qV cs := rfl
      have g : gp (c :: cs) (k + 1) = gp cs k := by simp [gp]
      rw [e, g, show (k + 1) * 2 = k * 2 + 2 by omega]
      refine ⟨?_, ?_⟩
      · rw [List.getElem?_append_right (by simp)]; exact this.1
      · rw [List.getElem?_append_right (by simp)]; simpa using this.2

def OwnQ (w : World) (B : Nat) (v : Value) (ps : List Pq) : Prop := w.ownsRow B 50 2 v ps.length (qV ps)

theorem OwnQ.nil (w : World) (B : Nat) : OwnQ w B (.slice none 0 0) [] := World.ownsRow_nil w B _ _

theorem OwnQ.on {w w' : World} {B : Nat} {v : Value} {cs : List Pq} (h : OwnQ w B v cs) (hb : Below w.heap.size w w') : OwnQ w' B v cs := by
  have hg : w.grownBy w' none := ⟨hb.os, hb.tape, hb.output, hb.size, fun k hk _ => hb.block k hk⟩
  exact World.ownsRow.kept h hg (by cases v.ownBlock <;> simp)

theorem OwnQ.read {w : World} {B : Nat} {v : Value} {ps : List Pq} (h : OwnQ w B v ps) : ∃ ao cap, v = .slice ao ps.length cap ∧ Rd2 w ao ps ∧ (∀ a, ao = some a → B ≤ a.block ∧ a.off = 0 ∧ a.spot = none) := by
  rcases h.2 with ⟨rfl, hn⟩ | ⟨g, cap, cur, rfl, hb, hg, hc, hm, hsz, htake⟩
  · refine ⟨none, 0, by rw [hn], fun t ht => by omega, fun a h => by cases h⟩
  · refine ⟨_, cap, rfl, fun t ht => ⟨_, rfl, ?_⟩, fun a h => by cases h; exact ⟨hb, rfl, rfl⟩⟩
    have hc := World.ownsRow.cellAt (g := g) (cap := cap) h
    obtain ⟨c0, c1⟩ := qV_at ps t ht
    refine ⟨?_, ?_⟩
    · rw [addr_add, addr_add, Nat.zero_add]; exact (hc (t * 2 + 0) (by omega)).trans c0
    · rw [addr_add, addr_add, Nat.zero_add]; exact (hc (t * 2 + 1) (by omega)).trans c1

theorem appendQ_run {w : World} {B : Nat} {v : Value} {l : List Pq} (hown : OwnQ w B v l) {b c : Nat} {y : Pq} (hy : QAt w ⟨b, 0, none⟩ y) (hle : l.length + 1 ≤ 2000000) (hB : B ≤ w.heap.size) (ty : TypeId) :
    ∃ v' w', (Builtin.append_ #[26, 26] ty #[v, .slice (some ⟨b, 0, none⟩) 1 c]).run Tryz.prog w = .ok v' w' ∧ OwnQ w' B v' (l ++ [y]) ∧ w.grownBy w' v.ownBlock ∧ (v'.ownBlock = v.ownBlock ∨ v'.ownBlock = some w.heap.size) := by
  obtain ⟨i0, hi, hz0, hz1, hz2⟩ := info_parts rat_info
  obtain ⟨v', w', hr, h2, h3, _, h5⟩ := run_append_own_at (P := Tryz.prog) w B 26 ty 50 i0 (.agg #[.int .i64 0, .int .i64 0]) 2 16 Tryz.underlying26 hi hz0 hz1 hz2 (by rfl) (by decide) v l.length _ hown ⟨b, 0, none⟩ 1 c [.int .i64 y.1, .int .i64 y.2]
    (by simp) (fun j u hu => hy.cs j u hu) (by simp [Value.oneCell']) (by unfold maxLen; omega) (by omega) hB
  refine ⟨v', w', hr, ?_, h3, h5⟩
  unfold OwnQ
  rw [qV_app, List.length_append]; simpa [qV] using h2

theorem wpl_appQ {ops : Array Oper} {rest : List Oper} {o : Oper} {a : Act} {w : World} {Q : Exit → Act → World → Prop} (hgd : o.guard = none) (s x : Operand) (ho : o.op = .call { callee := .builtin .append, args := #[s, x], argTypes := #[26, 26] }) (B : Nat) (v : Value) (l : List Pq) (y : Pq) (hs : a.eval s = v) (hown : OwnQ w B v l) (b c : Nat) (hx : a.eval x = .slice (some ⟨b, 0, none⟩) 1 c) (hy : QAt w ⟨b, 0, none⟩ y)
    (hle : l.length + 1 ≤ 2000000) (hB : B ≤ w.heap.size) (h : ∀ v' w', OwnQ w' B v' (l ++ [y]) → w.grownBy w' v.ownBlock → (v'.ownBlock = v.ownBlock ∨ v'.ownBlock = some w.heap.size) → wpList Tryz.prog ops Q rest (a.put o.dst v') w') : wpList Tryz.prog ops Q (o :: rest) a w := by
  obtain ⟨v', w', hr, h1, h2, h3⟩ := appendQ_run hown hy hle hB (c := c) o.type
  have hk := h v' w' h1 h2 h3
  refine wpList_plain hgd fun K hK => ?_
  unfold Oper.wp
  simp [execOp, ho, resolve, invoke, builtin, hs, hx, hr, Result.andThen]
  exact hK _ _ hk

def ptN (l : List Ln) (n : Nat) : Nat → List Pq × Int
  | 0 => ([], 0)
  | t + 1 => if (ptN l n t).2 ≠ 0 then ptN l n t else
    if (enN (shL l n (n - (t + 1))) t (ptN l n t).1 (shL l n (n - (t + 1))).length).2 ≠ 0 then ([], (enN (shL l n (n - (t + 1))) t (ptN l n t).1 (shL l n (n - (t + 1))).length).2) else
    if btE (enN (shL l n (n - (t + 1))) t (ptN l n t).1 (shL l n (n - (t + 1))).length).1.1 (enN (shL l n (n - (t + 1))) t (ptN l n t).1 (shL l n (n - (t + 1))).length).1.2 ≠ 0 then
      ([], btE (enN (shL l n (n - (t + 1))) t (ptN l n t).1 (shL l n (n - (t + 1))).length).1.1 (enN (shL l n (n - (t + 1))) t (ptN l n t).1 (shL l n (n - (t + 1))).length).1.2) else
    ((ptN l n t).1 ++ [btV (enN (shL l n (n - (t + 1))) t (ptN l n t).1 (shL l n (n - (t + 1))).length).1.1 (enN (shL l n (n - (t + 1))) t (ptN l n t).1 (shL l n (n - (t + 1))).length).1.2], 0)

theorem ptN_step {l : List Ln} {n t : Nat} (h : (ptN l n t).2 = 0) {s : List Ln} (hs : s = shL l n (n - (t + 1))) {p : List Pq} (hp : p = (ptN l n t).1) :
    ptN l n (t + 1) = if (enN s t p s.length).2 ≠ 0 then ([], (enN s t p s.length).2) else if btE (enN s t p s.length).1.1 (enN s t p s.length).1.2 ≠ 0 then ([], btE (enN s t p s.length).1.1 (enN s t p s.length).1.2) else (p ++ [btV (enN s t p s.length).1.1 (enN s t p s.length).1.2], 0) := by
  subst hs hp
  conv => lhs; unfold ptN
  rw [if_neg (fun q => q h)]

theorem ptN_stop {l : List Ln} {n t : Nat} (h : (ptN l n t).2 ≠ 0) : ∀ j, ptN l n (t + j) = ptN l n t
  | 0 => rfl
  | j + 1 => by
    have e : ∀ k, (ptN l n k).2 ≠ 0 → ptN l n (k + 1) = ptN l n k := fun k hk => by
      conv => lhs; unfold ptN
      rw [if_pos hk]
    have ih := ptN_stop h j
    exact (e (t + j) (by rw [ih]; exact h)).trans ih

theorem ptN_end {l : List Ln} {n t m : Nat} (ht : t ≤ m) (h : (ptN l n t).2 ≠ 0) : ptN l n m = ptN l n t := by
  have := ptN_stop h (m - t)
  rwa [show t + (m - t) = m by omega] at this

theorem btV_64 {lo up : En} (h : I2 lo.v) (h' : I2 up.v) : I2 (btV lo up) := by
  unfold btV
  (repeat' split) <;> first | assumption | exact mdR_64 _ _ | exact adR_64 _ _ | exact sbR_64 _ _ | (unfold I2 I64; simp)

theorem ptN_len {l : List Ln} {n : Nat} : ∀ t, (ptN l n t).2 = 0 → (ptN l n t).1.length = t ∧ ∀ k, k < t → I2 (gp (ptN l n t).1 k)
  | 0, _ => ⟨rfl, fun k h => by omega⟩
  | t + 1, h => by
    by_cases h0 : (ptN l n t).2 = 0
    · obtain ⟨i1, i2⟩ := ptN_len t h0
      have e := ptN_step h0 rfl rfl
      rw [e] at h ⊢
      generalize shL l n (n - (t + 1)) = s at *
      have N := enN_64 s t (ptN l n t).1 s.length
      generalize enN s t (ptN l n t).1 s.length = E at *
      split at h
      · rename_i q; exact absurd h q
      · rename_i q
        rw [if_neg q]
        split at h
        · rename_i q'; exact absurd h q'
        · rename_i q'
          rw [if_neg q']
          refine ⟨by simp [i1], fun k hk => ?_⟩
          by_cases hkt : k < t
          · have : gp ((ptN l n t).1 ++ [btV E.1.1 E.1.2]) k = gp (ptN l n t).1 k := by
              unfold gp; rw [List.getD_eq_getElem?_getD, List.getD_eq_getElem?_getD, List.getElem?_append_left (by omega)]
            rw [this]; exact i2 k hkt
          · have : gp ((ptN l n t).1 ++ [btV E.1.1 E.1.2]) k = btV E.1.1 E.1.2 := by
              unfold gp
              rw [List.getD_eq_getElem?_getD, List.getElem?_append_right (by omega), show k - (ptN l n t).1.length = 0 by omega]; rfl
            rw [this]; exact btV_64 N.1 N.2
    · have := ptN_end (l := l) (n := n) (Nat.le_succ t) h0
      exact absurd (this ▸ h) h0

def PtR (w : World) (ps : List Pq) (v : Value) (A : World) : Prop := ∃ ao cap, v = .slice ao ps.length cap ∧ Rd2 A ao ps ∧ ∀ a, ao = some a → w.heap.size ≤ a.block

theorem PtR.aside {w A : World} {ps : List Pq} {v : Value} (h : PtR w ps v A) {b : Nat} (hb : b < w.heap.size) (y : Value) : PtR w ps v (A.setCell ⟨b, 0, none⟩ y) := by
  obtain ⟨ao, cap, e, r, f⟩ := h
  refine ⟨ao, cap, e, fun t ht => ?_, f⟩
  obtain ⟨a, ea, c0, c1⟩ := r t ht
  have hf := f a ea
  refine ⟨a, ea, ?_, ?_⟩
  · rw [World.cell?_setCell_other A ⟨b, 0, none⟩ _ y (fun e => by have := congrArg Addr.block e; rw [add_block, add_block] at this; simp only at this; omega)]; exact c0
  · rw [World.cell?_setCell_other A ⟨b, 0, none⟩ _ y (fun e => by have := congrArg Addr.block e; rw [add_block, add_block] at this; simp only at this; omega)]; exact c1

def ptE (l : List Ln) (n : Nat) : Int := if empB l n then 4 else (ptN l n n).2

def PtRes (w : World) (ps : List Pq) (er : Int) (e : Ending) (w' : World) : Prop := Below w.heap.size w w' ∧ ((er = 0 ∧ ∃ v, e = .returned v ∧ PtR w ps v w') ∨ (er ≠ 0 ∧ e = .panicked (pan er)))

set_option maxRecDepth 100000 in
set_option maxHeartbeats 4000000 in
theorem point_any (l : List Ln) (n b : Nat) (cs : Array Value) (w w00 : World) (hn : n ≤ 5) (hl : l.length ≤ 2000) (hg : ∀ x ∈ l, Rg 2147483647 x) (he : shE l n n = 0) (hS : ShR w00 w b l n (n + 1) cs) :
    Calls Tryz.prog 71 #[.slice (some ⟨b, 0, none⟩) (n + 1) (n + 1)] w (PtRes w (ptN l n n).1 (ptE l n)) := by
  have OK : ∀ j, j ≤ n → (shL l n j).length ≤ 2000 ∧ ∀ x ∈ shL l n j, Rg 2147483647 x := fun j hj => shL_ok hl hg j (by
    by_cases q : shE l n j = 0
    · exact q
    · have := shE_stop q (n - j)
      rw [show j + (n - j) = n by omega] at this
      exact absurd (this ▸ he) q)
  obtain ⟨a0, d0, e0, r0⟩ := hS.hi 0 (by omega) (by omega)
  have g0 := (hS.cell 0).trans e0
  have RW := Lib.hid (show ∀ W, Below w.heap.size w W → ∀ j, j < n → ∃ ao c, W.cell? ⟨b, 1 + j, none⟩ = some (.slice ao (shL l n (n - (j + 1))).length c) ∧ RdL W ao (shL l n (n - (j + 1))) from fun W hb j hj => by
    obtain ⟨ao, c, e, r⟩ := hS.hi (j + 1) (by omega) (by omega)
    refine ⟨ao, c, ?_, r.on hb⟩
    have := kept hb ((hS.cell (j + 1)).trans e)
    rw [show 1 + j = j + 1 by omega]; exact this)
  have EM := Lib.hid (show (if 0 < (shL l n n).length then true else false) = empB l n by unfold empB; by_cases q : 0 < (shL l n n).length <;> simp [q])
  have EN := Lib.hid (fun t s (hs : s = shL l n (n - (t + 1))) (ht : t < n) p bo ao bc cap W (hL : RdL W bo s) (hp : p.length = t) (hI : ∀ k, k < t → I2 (gp p k)) (hR : Rd2 W ao p) =>
    ends_any s t p bo ao bc cap W (by rw [hs]; have := (OK (n - (t + 1)) (by omega)).1; omega) hL (by rw [hs]; exact (OK (n - (t + 1)) (by omega)).2) (by omega) (by omega) hR (by rw [hp]; exact hI))
  have hn5 := hn
  have PE := Lib.hid (show ptE l n = if empB l n then 4 else (ptN l n n).2 from rfl)
  have IE := Lib.hid (isEmpty_any b (n + 1) (n + 1) (shL l n (n - 0)).length d0 a0 w (by omega) g0)
  have IB := Lib.hid (show decide (0 < (shL l n (n - 0)).length) = empB l n by rw [Nat.sub_zero]; rfl)
  rw [IB.out] at IE
  clear OK hS hl hg he e0 r0 g0 hn EM IB
  go_enter Tryz.func71, Tryz.ntmps71
  go_wp2_with fail
  refine IE.out.mono ?_
  rintro e w1 ⟨rfl, hb⟩
  have B1 := Lib.hid hb
  clear hb
  cases hem : empB l n
  rotate_left
  · have PF := Lib.hid (show ptE l n = 4 by rw [PE.out, hem, if_pos rfl])
    go_wp2_with fail
    exact And.intro rfl ⟨B1.out, Or.inr ⟨by rw [PF.out]; decide, by rw [PF.out]; rfl⟩⟩
  have PF := Lib.hid (show ptE l n = (ptN l n n).2 by rw [PE.out, hem, if_neg (by simp)])
  clear hem PE IE
  rcases Nat.eq_zero_or_pos n with hz | hz
  · subst hz
    have PR := Lib.hid (show ∀ W, PtR w (ptN l 0 0).1 (.slice none 0 0) W from fun W => ⟨none, 0, rfl, fun t ht => by simp [ptN] at ht, fun a e => by cases e⟩)
    go_wp2_with fail
    go_loopw [3, 12] (fun v s wr => v = .slice none 0 0 ∧ s = .int .i64 0 ∧ Hid (Below w.heap.size w wr)) (fun _ s _ => 0)
    case atStart => exact ⟨rfl, rfl, B1⟩
    case round =>
      obtain ⟨rfl, rfl, HB⟩ := hrel
      go_wp2_with fail
      go_ret
      exact ⟨HB.out, Or.inl ⟨by rw [PF.out]; rfl, _, rfl, PR.out _⟩⟩
  go_wp2_with fail
  go_loopw [3, 12] (fun v s wr => ∃ t : Nat, s = .int .i64 t ∧ t ≤ n ∧ Hid ((ptN l n t).2 = 0) ∧ Hid (Below w.heap.size w wr) ∧ Hid (OwnQ wr w.heap.size v (ptN l n t).1)) (fun _ s _ => n - (intOf s).toNat)
  case atStart => exact ⟨0, rfl, by omega, Lib.hid rfl, B1, Lib.hid (OwnQ.nil _ _)⟩
  case round =>
    obtain ⟨t, rfl, ht, HE, HB, HO⟩ := hrel
    obtain ⟨ap, cp, rfl, rp, rb⟩ := HO.out.read
    obtain ⟨lp, ip⟩ := ptN_len t HE.out
    by_cases htn : t < n
    · obtain ⟨bo, bc, c0, r0⟩ := RW.out wr HB.out t htn
      obtain ⟨s, hs⟩ : ∃ s, s = shL l n (n - (t + 1)) := ⟨_, rfl⟩
      obtain ⟨p, hp⟩ : ∃ p, p = (ptN l n t).1 := ⟨_, rfl⟩
      rw [← hs] at c0 r0
      rw [← hp] at rp lp ip HO
      have CT := Lib.hid (EN.out t s hs htn p bo ap bc cp wr r0 lp ip rp)
      have ST := Lib.hid (ptN_step HE.out hs hp)
      obtain ⟨m, hm⟩ : ∃ m, m = s.length := ⟨_, rfl⟩
      rw [← hm] at c0 CT ST
      obtain ⟨E, hE⟩ : ∃ E, E = enN s t p m := ⟨_, rfl⟩
      have N := enN_64 s t p m
      rw [← hE] at CT ST N
      have NN := Lib.hid N
      have LP := Lib.hid lp
      rw [← hp]
      rw [lp] at CT HO ⊢
      have TN := Lib.hid htn
      clear r0 rp rb ip hs hp hm hE N lp
      go_wp2_with fail
      refine CT.out.mono ?_
      rintro e w2 ⟨hb, (⟨he, rfl⟩ | ⟨he, rfl⟩)⟩
      rotate_left
      · have e1 : ptN l n (t + 1) = ([], E.2) := by rw [ST.out, if_pos he]
        have e2 : (ptN l n n).2 = E.2 := by rw [ptN_end (t := t + 1) (by omega) (by rw [e1]; exact he), e1]
        go_wp2_with fail
        exact And.intro rfl ⟨below_on HB.out hb, Or.inr ⟨by rw [PF.out, e2]; exact he, by rw [PF.out, e2]⟩⟩
      have HB2 := Lib.hid (below_on HB.out hb)
      have HO2 := Lib.hid (HO.out.on hb)
      have Z1 := Lib.hid he
      clear hb he c0
      go_wp2_with fail
      refine (between_any E.1.1 E.1.2 w2 NN.out.1 NN.out.2).mono ?_
      rintro e w3 ⟨hb, (⟨he, rfl⟩ | ⟨he, rfl⟩)⟩
      rotate_left
      · have e1 : ptN l n (t + 1) = ([], btE E.1.1 E.1.2) := by rw [ST.out, if_neg (fun q => q Z1.out), if_pos he]
        have e2 : (ptN l n n).2 = btE E.1.1 E.1.2 := by rw [ptN_end (t := t + 1) (by omega) (by rw [e1]; exact he), e1]
        go_wp2_with fail
        exact And.intro rfl ⟨below_on HB2.out hb, Or.inr ⟨by rw [PF.out, e2]; exact he, by rw [PF.out, e2]⟩⟩
      have e1 := Lib.hid (show ptN l n (t + 1) = (p ++ [btV E.1.1 E.1.2], 0) by rw [ST.out, if_neg (fun q => q Z1.out), if_neg (fun q => q he)])
      obtain ⟨x, hx⟩ : ∃ x, x = btV E.1.1 E.1.2 := ⟨_, rfl⟩
      rw [← hx] at e1 ⊢
      have B4 := Lib.hid (one_more (w1 := w3) (.cells #[.int .i64 x.1, .int .i64 x.2] 50))
      have Q4 := Lib.hid (show QAt (w3.alloc (.cells #[.int .i64 x.1, .int .i64 x.2] 50)) ⟨w3.heap.size, 0, none⟩ x from (Pair.made w3 x.1 x.2 _).qAt)
      have HB4 := Lib.hid (below_on (below_on HB2.out hb) B4.out)
      have HO4 := Lib.hid ((HO2.out.on hb).on B4.out)
      have z4 := HB4.out.size
      clear hx hb he HO HO2 HB HB2
      go_wp2_with (at_builtin; refine wpl_appQ rfl _ _ rfl w.heap.size _ p x rfl HO4.out _ _ rfl Q4.out (by have := LP.out; have := TN.out; omega) z4 ?_)
      intro v' w5 o5 g5 f5
      have BG := Lib.hid (Below.grown HB4.out g5 HB4.out.size (fun k hk => (World.ownsRow.lt HO4.out k hk).1))
      have OG := Lib.hid o5
      clear o5 g5 f5 z4
      go_wp2_with fail
      go_roundw
      case rel => exact ⟨t + 1, by go_num, by omega, Lib.hid (by rw [e1.out]), BG, Lib.hid (by rw [e1.out]; exact OG.out)⟩
      case measure => simp [intOf]; omega
    · obtain rfl : t = n := by omega
      have PR := Lib.hid (show PtR w (ptN l t t).1 (.slice ap (ptN l t t).1.length cp) wr from ⟨ap, cp, rfl, rp, fun a e => (rb a e).1⟩)
      rw [lp] at PR ⊢
      clear rp rb lp ip
      go_wp2_with fail
      go_ret
      exact ⟨HB.out, Or.inl ⟨by rw [PF.out]; exact HE.out, _, rfl, PR.out⟩⟩
end Go.Proofs.YtbhaoaobhgilkaaGreat
