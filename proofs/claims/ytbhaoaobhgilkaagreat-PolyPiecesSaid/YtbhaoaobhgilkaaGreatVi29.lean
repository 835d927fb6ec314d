/- The contract of package poly's ends. -/
import Derived.Test.YtbhaoaobhgilkaaGreatVi28

namespace Go.Proofs.YtbhaoaobhgilkaaGreat
open Go.RowKit Go.Sort Go.Shelf

/-- The ends that the first t lines leave, and the error. -/
def enN (l : List Ln) (i : Nat) (ps : List Pq) : Nat → (En × En) × Int
  | 0 => ((en0, en0), 0)
  | t + 1 => if (enN l i ps t).2 ≠ 0 then enN l i ps t else
    if gA (l.getD t ln0).a i < 0 then ((clR 1 (enN l i ps t).1.1 (l.getD t ln0) i ps, (enN l i ps t).1.2), clE (enN l i ps t).1.1 (l.getD t ln0) i ps) else
    if 0 < gA (l.getD t ln0).a i then (((enN l i ps t).1.1, clR (-1) (enN l i ps t).1.2 (l.getD t ln0) i ps), clE (enN l i ps t).1.2 (l.getD t ln0) i ps) else enN l i ps t

theorem enN_stop {l : List Ln} {i : Nat} {ps : List Pq} {t : Nat} (h : (enN l i ps t).2 ≠ 0) : ∀ j, enN l i ps (t + j) = enN l i ps t
  | 0 => rfl
  | j + 1 => by
    have e : ∀ k, (enN l i ps k).2 ≠ 0 → enN l i ps (k + 1) = enN l i ps k := fun k hk => by
      unfold enN
      rw [if_pos hk]
      cases k <;> rfl
    have ih := enN_stop h j
    exact (e (t + j) (by rw [ih]; exact h)).trans ih

theorem enN_end {l : List Ln} {i : Nat} {ps : List Pq} {t n : Nat} (ht : t ≤ n) (h : (enN l i ps t).2 ≠ 0) : enN l i ps n = enN l i ps t := by
  have := enN_stop h (n - t)
  rwa [show t + (n - t) = n by omega] at this

theorem enN_low {l : List Ln} {i : Nat} {ps : List Pq} {t : Nat} {x : Ln} (h : (enN l i ps t).2 = 0) (hx : l.getD t ln0 = x) (k : gA x.a i < 0) : enN l i ps (t + 1) = ((clR 1 (enN l i ps t).1.1 x i ps, (enN l i ps t).1.2), clE (enN l i ps t).1.1 x i ps) := by
  subst hx
  conv => lhs; unfold enN
  rw [if_neg (fun q => q h), if_pos k]

theorem enN_high {l : List Ln} {i : Nat} {ps : List Pq} {t : Nat} {x : Ln} (h : (enN l i ps t).2 = 0) (hx : l.getD t ln0 = x) (k : 0 < gA x.a i) : enN l i ps (t + 1) = (((enN l i ps t).1.1, clR (-1) (enN l i ps t).1.2 x i ps), clE (enN l i ps t).1.2 x i ps) := by
  subst hx
  conv => lhs; unfold enN
  rw [if_neg (fun q => q h), if_neg (by omega), if_pos k]

theorem enN_none {l : List Ln} {i : Nat} {ps : List Pq} {t : Nat} {x : Ln} (h : (enN l i ps t).2 = 0) (hx : l.getD t ln0 = x) (k : gA x.a i = 0) : enN l i ps (t + 1) = enN l i ps t := by
  subst hx
  conv => lhs; unfold enN
  rw [if_neg (fun q => q h), if_neg (by omega), if_neg (by omega)]

theorem fdV_64 (x : Ln) (i : Nat) (ps : List Pq) : I2 (fdV x i ps) := dvR_64 _ _

theorem clR_64 {s : Int} {c : En} (h : I2 c.v) (x : Ln) (i : Nat) (ps : List Pq) : I2 (clR s c x i ps).v := by
  unfold clR
  split
  · split
    · exact fdV_64 _ _ _
    · exact h
  · exact fdV_64 _ _ _

theorem enN_64 (l : List Ln) (i : Nat) (ps : List Pq) (t : Nat) : I2 (enN l i ps t).1.1.v ∧ I2 (enN l i ps t).1.2.v := by
  induction t with
  | zero => unfold enN en0 I2 I64; simp
  | succ t ih =>
    unfold enN
    split
    · cases t <;> exact ih
    · split
      · exact ⟨clR_64 ih.1 _ _ _, ih.2⟩
      · split
        · exact ⟨ih.1, clR_64 ih.2 _ _ _⟩
        · cases t <;> exact ih

/-- What ends has in memory: the coordinate, the point, both ends, and what the closures have captured. -/
structure EnS (w W : World) (B : Nat) (ao : Option Addr) (n cap i : Nat) (lo up : En) : Prop where
  be : Below w.heap.size w W
  bi : W.cell? ⟨B, 0, none⟩ = some (.int .i64 i)
  bb : W.cell? ⟨B + 1, 0, none⟩ = some (.slice ao n cap)
  l : EnB W (B + 2) lo
  u : EnB W (B + 3) up
  c1 : W.cell? ⟨B + 4, 0, none⟩ = some (.pointer (some ⟨B + 2, 0, none⟩))
  s1 : W.cell? ⟨B + 5, 0, none⟩ = some (.int .i64 1)
  c2 : W.cell? ⟨B + 6, 0, none⟩ = some (.pointer (some ⟨B + 3, 0, none⟩))
  s2 : W.cell? ⟨B + 7, 0, none⟩ = some (.int .i64 (-1))

theorem EnS.on {w W V : World} {B : Nat} {ao : Option Addr} {n cap i : Nat} {lo up : En} (h : EnS w W B ao n cap i lo up) (k : Below W.heap.size W V) : EnS w V B ao n cap i lo up :=
  ⟨below_on h.be k, kept k h.bi, kept k h.bb, h.l.kept k, h.u.kept k, kept k h.c1, kept k h.s1, kept k h.c2, kept k h.s2⟩

theorem EnS.low {w W V : World} {B : Nat} {ao : Option Addr} {n cap i : Nat} {lo up lo' : En} (h : EnS w W B ao n cap i lo up) (hB : w.heap.size ≤ B) (k : GB (B + 2) W V) (hl : EnB V (B + 2) lo') : EnS w V B ao n cap i lo' up :=
  ⟨(h.be).trans (k.to_below (by omega) h.be.size), k.cell (by show B ≠ _; omega) h.bi, k.cell (by show B + 1 ≠ _; omega) h.bb, hl, (k.block _ h.u.lt (by simp)).trans h.u, k.cell (by show B + 4 ≠ _; omega) h.c1, k.cell (by show B + 5 ≠ _; omega) h.s1, k.cell (by show B + 6 ≠ _; omega) h.c2, k.cell (by show B + 7 ≠ _; omega) h.s2⟩

theorem EnS.high {w W V : World} {B : Nat} {ao : Option Addr} {n cap i : Nat} {lo up up' : En} (h : EnS w W B ao n cap i lo up) (hB : w.heap.size ≤ B) (k : GB (B + 3) W V) (hl : EnB V (B + 3) up') : EnS w V B ao n cap i lo up' :=
  ⟨(h.be).trans (k.to_below (by omega) h.be.size), k.cell (by show B ≠ _; omega) h.bi, k.cell (by show B + 1 ≠ _; omega) h.bb, (k.block _ h.l.lt (by simp)).trans h.l, hl, k.cell (by show B + 4 ≠ _; omega) h.c1, k.cell (by show B + 5 ≠ _; omega) h.s1, k.cell (by show B + 6 ≠ _; omega) h.c2, k.cell (by show B + 7 ≠ _; omega) h.s2⟩

theorem en_load {w : World} {b : Nat} {x : En} (h : EnB w b x) : (loadVar 105 ⟨b, 0, none⟩).run Tryz.prog w = .ok (.agg x.cs) w :=
  run_loadVar_row w b _ _ x.cs (0, 0) _ h Tryz.underlying105 rfl zero_en

theorem results_en2 {fn : Func} {p q : Tmp} (h : fn.results = #[.cell p 105, .cell q 105]) (tmps : Array Value) {w : World} {b c : Nat} {x y : En}
    (hp : tmps.getD p undef = .pointer (some ⟨b, 0, none⟩)) (hq : tmps.getD q undef = .pointer (some ⟨c, 0, none⟩)) (hx : EnB w b x) (hy : EnB w c y) : (results fn tmps).run Tryz.prog w = .ok (.tuple #[.agg x.cs, .agg y.cs]) w := by
  have hp' : tmps[p]?.getD undef = .pointer (some ⟨b, 0, none⟩) := by simpa using hp
  have hq' : tmps[q]?.getD undef = .pointer (some ⟨c, 0, none⟩) := by simpa using hq
  have h1 := en_load hx
  have h2 := en_load hy
  generalize x.cs = X at *
  generalize y.cs = Y at *
  simp [results, h, hp', hq', asAddr, h1, h2]

def ensW (w : World) (ao : Option Addr) (n cap i : Nat) : World :=
  (((((((w.alloc (.cells #[.int .i64 i] 3)).alloc (.cells #[.slice ao n cap] 26)).alloc (.cells #[.int .i64 0, .int .i64 0, .bool false, .bool false] 105)).alloc (.cells #[.int .i64 0, .int .i64 0, .bool false, .bool false] 105)).alloc (.cells #[.pointer (some ⟨w.heap.size + 2, 0, none⟩)] 149)).alloc (.cells #[.int .i64 1] 3)).alloc (.cells #[.pointer (some ⟨w.heap.size + 3, 0, none⟩)] 149)).alloc (.cells #[.int .i64 (-1)] 3)

theorem ens_start (w : World) (ao : Option Addr) (n cap i : Nat) : EnS w (ensW w ao n cap i) w.heap.size ao n cap i en0 en0 := by
  unfold ensW
  refine ⟨?_, by go_simp, by go_simp, ?_, ?_, by go_simp, by go_simp, by go_simp, by go_simp⟩
  · exact past_three (past_three (past_two (Below.refl _ _)))
  · have := ((((((EnB.made ((w.alloc (.cells #[.int .i64 i] 3)).alloc (.cells #[.slice ao n cap] 26)) en0).kept (one_more (.cells #[.int .i64 0, .int .i64 0, .bool false, .bool false] 105))).kept (one_more (.cells #[.pointer (some ⟨w.heap.size + 2, 0, none⟩)] 149))).kept (one_more (.cells #[.int .i64 1] 3))).kept (one_more (.cells #[.pointer (some ⟨w.heap.size + 3, 0, none⟩)] 149))).kept (one_more (.cells #[.int .i64 (-1)] 3)))
    simpa [en0, En.cs, En.cells] using this
  · have := (((((EnB.made (((w.alloc (.cells #[.int .i64 i] 3)).alloc (.cells #[.slice ao n cap] 26)).alloc (.cells #[.int .i64 0, .int .i64 0, .bool false, .bool false] 105)) en0).kept (one_more (.cells #[.pointer (some ⟨w.heap.size + 2, 0, none⟩)] 149))).kept (one_more (.cells #[.int .i64 1] 3))).kept (one_more (.cells #[.pointer (some ⟨w.heap.size + 3, 0, none⟩)] 149))).kept (one_more (.cells #[.int .i64 (-1)] 3)))
    simpa [en0, En.cs, En.cells] using this

/-- What ends leaves. -/
def EnRes (w : World) (lo up : En) (er : Int) (e : Ending) (w' : World) : Prop := Below w.heap.size w w' ∧ ((er = 0 ∧ e = .returned (.tuple #[.agg lo.cs, .agg up.cs])) ∨ (er ≠ 0 ∧ e = .panicked (pan er)))

set_option maxRecDepth 100000 in
set_option maxHeartbeats 4000000 in
theorem ends_any (l : List Ln) (i : Nat) (ps : List Pq) (bo ao : Option Addr) (bc cap : Nat) (w : World) (hl : l.length ≤ 100000) (hL : RdL w bo l) (hg : ∀ x ∈ l, Rg 2147483647 x) (hi : i < 6) (hn : ps.length ≤ 6) (hR : Rd2 w ao ps) (hI : ∀ t, t < ps.length → I2 (gp ps t)) :
    Calls Tryz.prog 106 #[.slice bo l.length bc, .int .i64 i, .slice ao ps.length cap] w (EnRes w (enN l i ps l.length).1.1 (enN l i ps l.length).1.2 (enN l i ps l.length).2) := by
  have hmf : ∀ (fn : Fn) (first cap : Array Value) (w : World), (Instr.makeFunc fn first cap).run Tryz.prog w = .ok (.func fn first cap) w := fun _ _ _ _ => rfl
  have E1 := Lib.hid (fun side c x (hs : side = 1 ∨ side = -1) (hc : I2 c.v) (hx : Rg 2147483647 x) pb pi pc pd g W (hb : Below w.heap.size w W) c0 c1 c2 c3 hg => ends2_any side c x i ps ao cap pb pi pc pd g W hs hc hx hi hn (hR.on hb) hI c0 c1 c2 c3 hg)
  have LR := Lib.hid (fun W (hb : Below w.heap.size w W) => hL.on hb)
  have GG := Lib.hid hg
  obtain ⟨n, hN⟩ : ∃ n, n = ps.length := ⟨_, rfl⟩
  obtain ⟨m, hM⟩ : ∃ m, m = l.length := ⟨_, rfl⟩
  have HM := Lib.hid hM
  have N64 := Lib.hid (enN_64 l i ps)
  have i6 : (i : Int) < 6 := by omega
  have I6 := Lib.hid hi
  rw [← hN] at E1 ⊢
  rw [← hM]
  have hm : m ≤ 100000 := by omega
  clear hL hg hn hR hI hN hM hl
  go_enter Tryz.func106, Tryz.ntmps106
  go_wp2_with (rw [hmf])
  refine (ends1_any _ 1 _ _ _).mono ?_
  rintro e w1 ⟨rfl, rfl⟩
  go_wp2_with fail
  refine (ends1_any _ (-1) _ _ _).mono ?_
  rintro e w1 ⟨rfl, rfl⟩
  go_wp2_with fail
  simp only [Nat.add_assoc, Nat.reduceAdd]
  have S0 := Lib.hid (ens_start w ao n cap i)
  rw [show (((((((w.alloc (.cells #[.int .i64 i] 3)).alloc (.cells #[.slice ao n cap] 26)).alloc (.cells #[.int .i64 0, .int .i64 0, .bool false, .bool false] 105)).alloc (.cells #[.int .i64 0, .int .i64 0, .bool false, .bool false] 105)).alloc (.cells #[.pointer (some ⟨w.heap.size + 2, 0, none⟩)] 149)).alloc (.cells #[.int .i64 1] 3)).alloc (.cells #[.pointer (some ⟨w.heap.size + 3, 0, none⟩)] 149)).alloc (.cells #[.int .i64 (-1)] 3) = ensW w ao n cap i from rfl]
  generalize ensW w ao n cap i = w0 at *
  obtain ⟨B, hB⟩ : ∃ B, B = w.heap.size := ⟨_, rfl⟩
  have HB := Lib.hid (show w.heap.size ≤ B by omega)
  rw [← hB] at S0 ⊢
  clear hB hmf
  go_loopw [20] (fun s wr => ∃ t : Nat, s = .int .i64 t ∧ t ≤ m ∧ Hid ((enN l i ps t).2 = 0) ∧ Hid (EnS w wr B ao n cap i (enN l i ps t).1.1 (enN l i ps t).1.2)) (fun s _ => m - (intOf s).toNat)
  case atStart => exact ⟨0, rfl, by omega, Lib.hid rfl, S0⟩
  case round =>
    obtain ⟨t, rfl, ht, HE, HS⟩ := hrel
    by_cases htm : t < m
    · have hlt : t < l.length := by have := HM.out; omega
      obtain ⟨p, hp, c0⟩ := (LR.out _ HS.out.be) t hlt
      obtain ⟨x, hx⟩ : ∃ x, x = l[t] := ⟨_, rfl⟩
      have GX := Lib.hid (show Rg 2147483647 x by rw [hx]; exact GG.out _ (List.getElem_mem _))
      have XD := Lib.hid (show l.getD t ln0 = x by rw [getD_at hlt]; exact hx.symm)
      rw [← hx] at c0
      have LA := Lib.hid c0
      have N6 := Lib.hid (N64.out t)
      obtain ⟨u, hu⟩ : ∃ u, u = gA x.a i := ⟨_, rfl⟩
      have HU := Lib.hid hu
      have hz := ln_zero
      subst hp
      have N1 := Lib.hid (show Bk (wr.alloc (.cells ln0.cs 82)) wr.heap.size ln0 from Bk.made wr ln0 rfl)
      have N2 := Lib.hid (N1.out.setRow GX.out.len)
      have B2 := Lib.hid (Below.setRow ((Below.refl wr.heap.size wr).alloc (Nat.le_refl _) (.cells ln0.cs 82)) (b := wr.heap.size) (Nat.le_refl _) x.cs)
      have GU := Lib.hid (show ∀ W q, Bk W q x → W.cell? ⟨q, i, none⟩ = some (.int .i64 u) from fun W q h => by rw [hu]; exact h.at I6.out)
      clear c0 hx hlt hu
      go_upto_region 6 with (first | refine wpl_loadP rfl _ rfl _ rfl x LA.out ?_ | refine wpl_store rfl _ _ rfl _ _ rfl rfl _ N1.out GX.out.len ?_)
      generalize (wr.alloc (.cells ln0.cs 82)).setRow wr.heap.size x.cs = w1 at *
      have S1 := Lib.hid (HS.out.on B2.out)
      obtain ⟨q, hq⟩ : ∃ q, q = wr.heap.size := ⟨_, rfl⟩
      rw [← hq] at N2 ⊢
      clear N1 B2 hq LA HS hz wr
      obtain ⟨lo, hlo⟩ : ∃ lo, lo = (enN l i ps t).1.1 := ⟨_, rfl⟩
      obtain ⟨up, hup⟩ : ∃ up, up = (enN l i ps t).1.2 := ⟨_, rfl⟩
      have HLO := Lib.hid hlo
      have HUP := Lib.hid hup
      rw [← hlo, ← hup] at S1 N6
      clear hlo hup
      have c0 := GU.out w1 q N2.out
      have c1 := S1.out.bi
      have NX := Lib.hid N2.out.lnAt
      by_cases hneg : u < 0
      · have NE := Lib.hid (show enN l i ps (t + 1) = ((clR 1 lo x i ps, up), clE lo x i ps) by rw [HLO.out, HUP.out]; exact enN_low HE.out XD.out (by rw [← HU.out]; exact hneg))
        go_wp2_with (refine wpl_loadP rfl _ rfl _ rfl x NX.out ?_)
        refine (E1.out 1 lo x (Or.inl rfl) N6.out.1 GX.out (B + 1) B (B + 4) (B + 5) (B + 2) w1 S1.out.be S1.out.bb S1.out.bi S1.out.c1 S1.out.s1 S1.out.l).mono ?_
        rintro e w2 (⟨he, rfl, hl, hg⟩ | ⟨he, rfl, hb⟩)
        · have S2 := Lib.hid (S1.out.low HB.out hg hl)
          have HZ := Lib.hid he
          clear hl hg he
          go_wp2_with fail
          go_roundw
          case rel => exact ⟨t + 1, by go_num, by omega, Lib.hid (by rw [NE.out]; exact HZ.out), Lib.hid (by rw [NE.out]; exact S2.out)⟩
          case measure => simp [intOf]; omega
        · have NF := Lib.hid (show (enN l i ps m).2 = clE lo x i ps by rw [enN_end (t := t + 1) (by omega) (by rw [NE.out]; exact he), NE.out])
          go_wp2_with fail
          exact And.intro rfl ⟨below_on S1.out.be hb, Or.inr ⟨by rw [NF.out]; exact he, by rw [NF.out]⟩⟩
      · by_cases hpos : 0 < u
        · have NE := Lib.hid (show enN l i ps (t + 1) = ((lo, clR (-1) up x i ps), clE up x i ps) by rw [HLO.out, HUP.out]; exact enN_high HE.out XD.out (by rw [← HU.out]; exact hpos))
          go_wp2_with (refine wpl_loadP rfl _ rfl _ rfl x NX.out ?_)
          refine (E1.out (-1) up x (Or.inr rfl) N6.out.2 GX.out (B + 1) B (B + 6) (B + 7) (B + 3) w1 S1.out.be S1.out.bb S1.out.bi S1.out.c2 S1.out.s2 S1.out.u).mono ?_
          rintro e w2 (⟨he, rfl, hl, hg⟩ | ⟨he, rfl, hb⟩)
          · have S2 := Lib.hid (S1.out.high HB.out hg hl)
            have HZ := Lib.hid he
            clear hl hg he
            go_wp2_with fail
            go_roundw
            case rel => exact ⟨t + 1, by go_num, by omega, Lib.hid (by rw [NE.out]; exact HZ.out), Lib.hid (by rw [NE.out]; exact S2.out)⟩
            case measure => simp [intOf]; omega
          · have NF := Lib.hid (show (enN l i ps m).2 = clE up x i ps by rw [enN_end (t := t + 1) (by omega) (by rw [NE.out]; exact he), NE.out])
            go_wp2_with fail
            exact And.intro rfl ⟨below_on S1.out.be hb, Or.inr ⟨by rw [NF.out]; exact he, by rw [NF.out]⟩⟩
        · have NE := Lib.hid (show enN l i ps (t + 1) = enN l i ps t from enN_none HE.out XD.out (by rw [← HU.out]; omega))
          go_wp2_with fail
          go_roundw
          case rel => exact ⟨t + 1, by go_num, by omega, Lib.hid (by rw [NE.out]; exact HE.out), Lib.hid (by rw [NE.out, ← HLO.out, ← HUP.out]; exact S1.out)⟩
          case measure => simp [intOf]; omega
    · obtain rfl : t = m := by omega
      obtain ⟨lo, hlo⟩ : ∃ lo, lo = (enN l i ps t).1.1 := ⟨_, rfl⟩
      obtain ⟨up, hup⟩ : ∃ up, up = (enN l i ps t).1.2 := ⟨_, rfl⟩
      rw [← hlo, ← hup] at HS
      have HLO := Lib.hid hlo
      have HUP := Lib.hid hup
      have L1 := Lib.hid HS.out.l
      have U1 := Lib.hid HS.out.u
      have L2 := Lib.hid (L1.out.setRow (y := lo))
      have U2 := Lib.hid (show EnB (wr.setRow (B + 2) lo.cs) (B + 3) up from (setRow_other wr (B + 2) (B + 3) lo.cs (by omega)).trans U1.out)
      have L3 := Lib.hid (show EnB ((wr.setRow (B + 2) lo.cs).setRow (B + 3) up.cs) (B + 2) lo from (setRow_other _ (B + 3) (B + 2) up.cs (by omega)).trans L2.out)
      have U3 := Lib.hid (U2.out.setRow (y := up))
      have B3 := Lib.hid (Below.setRow (Below.setRow HS.out.be (b := B + 2) (by have := HB.out; omega) lo.cs) (b := B + 3) (by have := HB.out; omega) up.cs)
      clear hlo hup
      go_wp2_with (first | refine wpList_load_row rfl _ _ rfl (B + 2) rfl _ lo.cs (0, 0) _ L1.out Tryz.underlying105 rfl zero_en ?_ | refine wpList_load_row rfl _ _ rfl (B + 3) rfl _ up.cs (0, 0) _ U1.out Tryz.underlying105 rfl zero_en ?_ | refine wpList_store_row rfl _ _ _ rfl (B + 2) lo.cs rfl rfl _ _ L1.out zero_en rfl (En.one _) ?_ | refine wpList_store_row rfl _ _ _ rfl (B + 3) up.cs rfl rfl _ _ U2.out zero_en rfl (En.one _) ?_)
      exact bodyPost_ret (results_en2 Tryz.results106 _ rfl rfl L3.out U3.out) rfl ⟨B3.out, Or.inl ⟨HE.out, by rw [HLO.out, HUP.out]⟩⟩
end Go.Proofs.YtbhaoaobhgilkaaGreat
