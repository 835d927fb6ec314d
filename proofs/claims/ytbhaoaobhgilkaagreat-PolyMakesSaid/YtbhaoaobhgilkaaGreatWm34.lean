/- The contract of leave of layer 7's reference. -/
import Derived.Test.YtbhaoaobhgilkaaGreatWm3
import Derived.Test.YtbhaoaobhgilkaaGreatWm30
import Derived.Test.YtbhaoaobhgilkaaGreatWm13
import Derived.BigQuiet

namespace Go.Proofs.YtbhaoaobhgilkaaGreat
open Go.RowKit Go.Sort Go.Shelf

def LrRes (w : World) (er : Int) (l : List Ln) (e : Ending) (w' : World) : Prop :=
  (er = 0 ∧ ∃ v R, e = .returned (.tuple #[v, .int .i64 0]) ∧ OwnV w' w.heap.size v R ∧ R.map lnV = l ∧ Below w.heap.size w w') ∨ (er ≠ 0 ∧ e = .returned (.tuple #[.slice none 0 0, .int .i64 er]) ∧ Below w.heap.size w w')

theorem own_ne_bk {w : World} {B g c q : Nat} {a : List Int} {y : AV} (h : OwnI w B g c a) (k : BkV w q y) : g ≠ q := by
  rintro rfl
  rcases h.2 with ⟨e, _⟩ | ⟨g', cap, cur, e, hb, hg, _⟩
  · cases e
  · injection e with e1
    injection e1 with e1
    injection e1 with e1
    subst e1
    unfold BkV at k
    rw [hg] at k
    injection k with k
    injection k with _ k
    exact absurd k (by decide)

theorem line_at {w : World} {n i : Nat} {y : AV} (hi : i < n) (hy : y.a.length = n) (_hn : NilOk y) (hR : Rd1 w y.q y.a) : ∃ rb ro, y.q = some ⟨rb, ro, none⟩ ∧ rb < w.heap.size ∧ ∀ t, t < n → w.cell? ⟨rb, ro + t, none⟩ = some (.int .i64 (gA y.a t)) := by
  obtain ⟨p, e, c⟩ := hR 0 (by omega)
  have hs := World.cell?_spot c
  have hb := World.block_lt_of_cell? w _ c
  obtain ⟨rb, ro, rs⟩ := p
  have hs : rs = none := by simpa [Addr.add] using hs
  subst hs
  rw [addr_add] at hb
  refine ⟨rb, ro, e, hb, fun t ht => ?_⟩
  obtain ⟨p, e2, c2⟩ := hR t (by omega)
  rw [e] at e2
  cases e2
  rw [addr_add] at c2
  exact c2

theorem valid_b {n : Nat} (hn : 0 < n) (y : AV) : validB ((n : Int) - 1) y = validL (n - 1) (lnV y) := by
  have e : decide ((y.a.length : Int) = (n : Int) - 1) = decide (y.a.length = n - 1) := by
    rw [decide_eq_decide]
    omega
  unfold validB validL lnV
  rw [e]

theorem valid_fit {n : Nat} {y : AV} (h : validL n (lnV y) = true) : FitV n y := by
  unfold validL lnV at h
  simp only [Bool.and_eq_true, decide_eq_true_eq, List.all_eq_true] at h
  obtain ⟨⟨h1, h2⟩, h3⟩ := h
  refine ⟨h1, fun v hv => ?_, ?_⟩
  · have := h2 v hv; unfold fitB at this; simpa using this
  · unfold fitB at h3; simpa using h3

theorem tdiv_le {a g : Int} (h : -2147483647 ≤ a ∧ a ≤ 2147483647) : -2147483647 ≤ a.tdiv g ∧ a.tdiv g ≤ 2147483647 := by
  have h : (a.tdiv g).natAbs ≤ a.natAbs := by rw [Int.natAbs_tdiv]; exact Nat.div_le_self _ _
  omega

theorem OwnV.form' {w : World} {B n cap : Nat} {ao : Option Addr} {L : List AV} (h : OwnV w B (.slice ao n cap) L) (hL : 0 < L.length) : ∃ g, ao = some ⟨g, 0, none⟩ ∧ B ≤ g := by
  obtain ⟨g, c, e, hb, _⟩ := h.form hL
  injection e with e1
  exact ⟨g, e1, hb⟩

theorem OwnV.avAt' {w : World} {B g n cap : Nat} {L : List AV} (h : OwnV w B (.slice (some ⟨g, 0, none⟩) n cap) L) (hn : n = L.length) {i : Nat} (hi : i < L.length) : AvAt w ⟨g, i * 3, none⟩ L[i] := by
  subst hn; exact h.avAt hi

theorem OwnV.base {w : World} {B B' : Nat} {v : Value} {L : List AV} (h : OwnV w B v L) (hb : B' ≤ B) : OwnV w B' v L :=
  ⟨⟨h.row.1, h.row.2.imp id fun ⟨g, cap, cur, h1, h2, h3⟩ => ⟨g, cap, cur, h1, Nat.le_trans hb h2, h3⟩⟩, h.nums, h.far, h.nil⟩

theorem av_cell0 {w : World} {g t n rb ro : Nat} {y : AV} (h : AvAt w ⟨g, t, none⟩ y) (hq : y.q = some ⟨rb, ro, none⟩) (hl : y.a.length = n) : w.cell? ⟨g, t, none⟩ = some (.slice (some ⟨rb, ro, none⟩) n y.c) := by
  have := h 0 _ rfl
  rw [addr_add, Nat.add_zero] at this
  rw [this, ← hq, hl]

theorem prs_len (U D : List Ln) : (prs U D).length = U.length * D.length := by
  unfold prs
  simp [List.length_flatMap, List.map_const', List.sum_replicate_nat]

theorem sumRf_len {x y : Ln} {n i : Nat} (hx : x.a.length = n) (hy : y.a.length = n) (hi : i < n) : (sumRf x y i).a.length = n - 1 := by
  unfold sumRf
  rw [lowR_len]
  unfold shR combR
  rw [List.length_eraseIdx_of_lt (by simp; omega)]
  simp; omega

structure SumAt (wr wx : World) (q : Nat) (X : AV) (l : Ln) : Prop where
  bk : BkV wx q X
  ln : lnV X = l
  at_ : ∃ g, X.q = some ⟨g, 0, none⟩ ∧ OwnI wx wr.heap.size g X.c X.a
  be : Below wr.heap.size wr wx

set_option maxRecDepth 100000 in
set_option maxHeartbeats 8000000 in
theorem rleave_any (n i : Nat) (L : List AV) (ao : Option Addr) (cap : Nat) (w : World) (hn : n ≤ 100) (hi : i < n) (hl : L.length ≤ 2000) (hR : RdV w ao L) (hY : ∀ y ∈ L, FitV n y ∧ NilOk y) :
    Calls Tryz.prog 49 #[.slice ao L.length cap, .int .i64 n, .int .i64 i] w (LrRes w (leaveEr n (L.map lnV) i) (leaveLr n (L.map lnV) i)) := by
  obtain ⟨m, hm⟩ : ∃ m, m = L.length := ⟨_, rfl⟩
  have HM := Lib.hid hm
  have HR := Lib.hid hR
  have HY := Lib.hid hY
  have hle : m ≤ 2000 := by omega
  obtain ⟨E, hE⟩ : ∃ E, E = leaveEr n (L.map lnV) i := ⟨_, rfl⟩
  obtain ⟨T, hT⟩ : ∃ T, T = leaveLr n (L.map lnV) i := ⟨_, rfl⟩
  have HE := Lib.hid hE
  have HT := Lib.hid hT
  have N100 := Lib.hid hn
  have HI := Lib.hid hi
  have hz := av_zero
  have hi2 : (i : Int) < n := by omega
  rw [← hE, ← hT, ← hm]
  clear hl hR hY hE hT hm
  go_enter Tryz.func49, Tryz.ntmps49
  go_wp2_with fail
  go_loopw [8, 9, 10, 11] (fun v3 v1 v2 s wr => ∃ t : Nat, s = .int .i64 t ∧ t ≤ m ∧ Hid (∃ Z, LvR w wr v1 v2 v3 (upsV (L.take t) i) (dnsV (L.take t) i) Z ∧ Z.map lnV = zrsV (L.take t) i)) (fun _ _ _ s _ => m - (intOf s).toNat)
  case atStart => exact ⟨0, rfl, by omega, Lib.hid ⟨[], by simpa [upsV, dnsV] using LvR.start w, by simp [zrsV, zrs]⟩⟩
  case round =>
    obtain ⟨t, rfl, ht, HZ⟩ := hrel
    by_cases htm : t < m
    · have hlt : t < L.length := by have := HM.out; omega
      obtain ⟨Z, hL, hZ⟩ := HZ.out
      have HL := Lib.hid hL
      have ZM := Lib.hid hZ
      obtain ⟨p, hp, c0⟩ := (HR.out.on hL.be).at_ t hlt
      obtain ⟨y, hy⟩ : ∃ y, y = L[t] := ⟨_, rfl⟩
      have hmem := List.getElem_mem hlt
      rw [← hy] at c0 hmem
      have YY := Lib.hid (HY.out y hmem)
      have YN := Lib.hid (HR.out.nums y hmem)
      have yl : y.a.length = n := YY.out.1.1
      obtain ⟨rb, ro, hr, hrb, hrc⟩ := line_at HI.out yl YY.out.2 YN.out
      have YL := Lib.hid yl
      have RB := Lib.hid hrb
      have YQ := Lib.hid hr
      obtain ⟨u, hu⟩ : ∃ u, u = gA y.a i := ⟨_, rfl⟩
      have US := Lib.hid (show upsV (L.take (t + 1)) i = upsV (L.take t) i ++ (if decide (0 < u) then [y] else []) by rw [hu, hy]; exact filtV_snoc hlt)
      have DS := Lib.hid (show dnsV (L.take (t + 1)) i = dnsV (L.take t) i ++ (if decide (u < 0) then [y] else []) by rw [hu, hy]; exact filtV_snoc hlt)
      have ZS := Lib.hid (show zrsV (L.take (t + 1)) i = zrsV (L.take t) i ++ (if decide (u = 0) then [shR i (lnV y)] else []) by rw [hu, hy]; exact zrsV_snoc hlt)
      have UL := Lib.hid (show (upsV (L.take t) i).length ≤ 2000 by unfold upsV; refine Nat.le_trans (List.length_filter_le _ _) ?_; simp; omega)
      have DL := Lib.hid (show (dnsV (L.take t) i).length ≤ 2000 by unfold dnsV; refine Nat.le_trans (List.length_filter_le _ _) ?_; simp; omega)
      have ZL := Lib.hid (show Z.length ≤ 2000 by have := congrArg List.length hZ; rw [List.length_map] at this; rw [this]; unfold zrsV zrs; rw [List.length_map]; refine Nat.le_trans (List.length_filter_le _ _) ?_; simp; omega)
      have c1 := kept hL.be (hrc i HI.out)
      rw [← hu] at c1
      have C0 := Lib.hid c0
      have c00 : wr.cell? (p.add (t * 3)) = some (.slice (some ⟨rb, ro, none⟩) n y.c) := by
        have := c0 0 _ rfl
        rw [show (p.add (t * 3)).add 0 = p.add (t * 3) by simp [Addr.add]] at this
        rw [this, ← hr, yl]
      generalize upsV (L.take t) i = U at *
      generalize dnsV (L.take t) i = D at *
      generalize zrsV (L.take t) i = Q at *
      clear c0 hmem hy hlt HZ hZ hL hrb hrc hu hr yl
      subst hp
      have yn := YN.out
      by_cases hpu : 0 < u
      · have e1 : decide (0 < u) = true := by simpa using hpu
        have e2 : decide (u < 0) = false := by simp; omega
        have e3 : decide (u = 0) = false := by simp; omega
        rw [e1, if_pos rfl] at US
        rw [e2] at DS
        rw [e3] at ZS
        clear e1 e2 e3
        have B3 := Lib.hid (one_more (w1 := wr) (.cells y.cs 25))
        have H3 := Lib.hid (HL.out.on B3.out)
        have M3 := Lib.hid (BkV.made wr y).avAt
        have z3 : w.heap.size ≤ (wr.alloc (.cells y.cs 25)).heap.size := H3.out.be.size
        have GD := Lib.hid (show GoodV (wr.alloc (.cells y.cs 25)) u9.ownBlock y from ⟨YN.out.on H3.out.be, fun p e => by
          rw [YQ.out] at e; cases e
          have := RB.out
          exact ⟨fun q => by have := HL.out.o1.lt _ q; show False; simp only at this; omega, by simp only; omega⟩, YY.out.2⟩)
        go_wp2_with (first | refine wpl_loadV rfl _ rfl _ rfl y C0.out ?_ | refine wpl_bv1 rfl _ rfl y rfl ?_ | (at_builtin; refine wpl_appV rfl _ _ rfl w.heap.size _ U y rfl H3.out.o1 _ _ rfl M3.out GD.out (by have := UL.out; omega) z3 ?_))
        intro v' w5 o5 g5 f5
        have H5 := Lib.hid (H3.out.app1 o5 g5 (by rw [World.size_alloc]; exact f5) (fun p e => by rw [YQ.out] at e; cases e; exact RB.out))
        clear o5 g5 f5
        go_wp2_with fail
        go_roundw
        case rel => exact ⟨t + 1, by go_num, by omega, Lib.hid ⟨Z, by rw [US.out, DS.out]; simpa using H5.out, by rw [ZS.out, ZM.out]; simp⟩⟩
        case measure => simp [intOf]; omega
      · by_cases hmu : u < 0
        · have e1 : decide (0 < u) = false := by simpa using hpu
          have e2 : decide (u < 0) = true := by simpa using hmu
          have e3 : decide (u = 0) = false := by simp; omega
          rw [e1] at US
          rw [e2, if_pos rfl] at DS
          rw [e3] at ZS
          clear e1 e2 e3
          have B3 := Lib.hid (one_more (w1 := wr) (.cells y.cs 25))
          have H3 := Lib.hid (HL.out.on B3.out)
          have M3 := Lib.hid (BkV.made wr y).avAt
          have z3 : w.heap.size ≤ (wr.alloc (.cells y.cs 25)).heap.size := H3.out.be.size
          have GD := Lib.hid (show GoodV (wr.alloc (.cells y.cs 25)) u10.ownBlock y from ⟨YN.out.on H3.out.be, fun p e => by
            rw [YQ.out] at e; cases e
            have := RB.out
            exact ⟨fun q => by have := HL.out.o2.lt _ q; show False; simp only at this; omega, by simp only; omega⟩, YY.out.2⟩)
          go_wp2_with (first | refine wpl_loadV rfl _ rfl _ rfl y C0.out ?_ | refine wpl_bv1 rfl _ rfl y rfl ?_ | (at_builtin; refine wpl_appV rfl _ _ rfl w.heap.size _ D y rfl H3.out.o2 _ _ rfl M3.out GD.out (by have := DL.out; omega) z3 ?_))
          intro v' w5 o5 g5 f5
          have H5 := Lib.hid (H3.out.app2 o5 g5 (by rw [World.size_alloc]; exact f5) (fun p e => by rw [YQ.out] at e; cases e; exact RB.out))
          clear o5 g5 f5
          go_wp2_with fail
          go_roundw
          case rel => exact ⟨t + 1, by go_num, by omega, Lib.hid ⟨Z, by rw [US.out, DS.out]; simpa using H5.out, by rw [ZS.out, ZM.out]; simp⟩⟩
          case measure => simp [intOf]; omega
        · have e1 : decide (0 < u) = false := by simpa using hpu
          have e2 : decide (u < 0) = false := by simpa using hmu
          have e3 : decide (u = 0) = true := by simp; omega
          rw [e1] at US
          rw [e2] at DS
          rw [e3, if_pos rfl] at ZS
          clear e1 e2 e3
          have SH := Lib.hid (rshort_any y i wr ⟨rb, ro, none⟩ YQ.out rfl YY.out.2.2.1 (by have := YY.out.2.2.2; unfold maxLen at this; omega) (by have := HI.out; have := YL.out; omega) (by have := YL.out; have := N100.out; omega) (YN.out.on HL.out.be))
          go_wp2_with (first | refine wpl_loadV rfl _ rfl _ rfl y C0.out ?_)
          refine SH.out.mono ?_
          rintro e w2 ⟨g, c, rfl, ho, hb⟩
          obtain ⟨X, hX⟩ : ∃ X, X = AV.mk (some ⟨g, 0, none⟩) c (shR i (lnV y)).a (shR i (lnV y)).b (shR i (lnV y)).s := ⟨_, rfl⟩
          rw [← hX]
          have XL := Lib.hid (show lnV X = shR i (lnV y) by rw [hX]; rfl)
          have XQ := Lib.hid (show X.q = some ⟨g, 0, none⟩ by rw [hX])
          have XO := Lib.hid (show OwnI w2 wr.heap.size g X.c X.a by rw [hX]; exact ho)
          have H2 := Lib.hid (HL.out.on hb)
          have B3 := Lib.hid (one_more (w1 := w2) (.cells X.cs 25))
          have H3 := Lib.hid (H2.out.on B3.out)
          have M3 := Lib.hid (BkV.made w2 X).avAt
          have z3 : w.heap.size ≤ (w2.alloc (.cells X.cs 25)).heap.size := H3.out.be.size
          have GD := Lib.hid (show GoodV (w2.alloc (.cells X.cs 25)) u8.ownBlock X from ⟨by rw [XQ.out]; exact (XO.out.on B3.out).rd, fun p e => by
            rw [XQ.out] at e; cases e
            have := XO.out.lt
            exact ⟨fun q => by have := HL.out.o3.lt _ q; show False; simp only at this; omega, by rw [World.size_alloc]; simp only; omega⟩, fun e => (by rw [XQ.out] at e; cases e), XO.out.capOk⟩)
          have L3 := Lib.hid (show ∀ p, X.q = some p → u9.ownBlock ≠ some p.block ∧ u10.ownBlock ≠ some p.block ∧ w.heap.size ≤ p.block from fun p e => by
            rw [XQ.out] at e; cases e
            have h1 := XO.out.lt
            have h2 := HL.out.be.size
            exact ⟨fun q => by have := HL.out.o1.lt _ q; show False; simp only at this; omega, fun q => by have := HL.out.o2.lt _ q; show False; simp only at this; omega, by simp only; omega⟩)
          clear ho hb hX c00 c1
          go_wp2_with (first | refine wpl_bv1 rfl _ rfl X rfl ?_ | (at_builtin; refine wpl_appV rfl _ _ rfl w.heap.size _ Z X rfl H3.out.o3 _ _ rfl M3.out GD.out (by have := ZL.out; omega) z3 ?_))
          intro v' w5 o5 g5 f5
          have H5 := Lib.hid (H3.out.app3 o5 g5 (by rw [World.size_alloc]; exact f5) L3.out)
          clear o5 g5 f5
          go_wp2_with fail
          go_roundw
          case rel => exact ⟨t + 1, by go_num, by omega, Lib.hid ⟨Z ++ [X], by rw [US.out, DS.out]; simpa using H5.out, by rw [ZS.out, List.map_append, ZM.out]; simp [XL.out]⟩⟩
          case measure => simp [intOf]; omega
    · have e : L.take t = L := List.take_of_length_le (by have := HM.out; omega)
      rw [e] at HZ
      obtain ⟨Z, hL, hZ⟩ := HZ.out
      have HL := Lib.hid hL
      have ZM := Lib.hid hZ
      have UF := Lib.hid (show ∀ y ∈ upsV L i, (FitV n y ∧ NilOk y) ∧ 0 < gA y.a i ∧ Rd1 w y.q y.a from fun y h => by
        unfold upsV at h
        rw [List.mem_filter] at h
        exact ⟨HY.out y h.1, by simpa using h.2, HR.out.nums y h.1⟩)
      have DF := Lib.hid (show ∀ y ∈ dnsV L i, (FitV n y ∧ NilOk y) ∧ gA y.a i < 0 ∧ Rd1 w y.q y.a from fun y h => by
        unfold dnsV at h
        rw [List.mem_filter] at h
        exact ⟨HY.out y h.1, by simpa using h.2, HR.out.nums y h.1⟩)
      have ZF := Lib.hid (show ∀ x ∈ zrsV L i, x.a.length = n - 1 ∧ (∀ v ∈ x.a, A63 v) ∧ A63 x.b from fun x h => by
        unfold zrsV zrs at h
        rw [List.mem_map] at h
        obtain ⟨x', h, rfl⟩ := h
        rw [List.mem_filter] at h
        obtain ⟨y, hy, rfl⟩ := List.mem_map.1 h.1
        obtain ⟨h1, h2, h3⟩ := (HY.out y hy).1
        refine ⟨?_, fun v hv => ?_, ?_⟩
        · show (y.a.eraseIdx i).length = n - 1
          rw [List.length_eraseIdx_of_lt (by rw [h1]; exact HI.out), h1]
        · have := h2 v (List.mem_of_mem_eraseIdx hv); unfold A63; omega
        · show A63 y.b; unfold A63; omega)
      have LU := Lib.hid (show (upsV L i).length ≤ m by rw [HM.out]; unfold upsV; exact List.length_filter_le _ _)
      have LD := Lib.hid (show (dnsV L i).length ≤ m by rw [HM.out]; unfold dnsV; exact List.length_filter_le _ _)
      have LZ := Lib.hid (show Z.length ≤ m by have := congrArg List.length hZ; rw [List.length_map] at this; rw [this, HM.out]; unfold zrsV zrs; rw [List.length_map]; refine Nat.le_trans (List.length_filter_le _ _) ?_; simp)
      have UM := Lib.hid (upsV_map L i)
      have DM := Lib.hid (dnsV_map L i)
      have ZN := Lib.hid (show (zrs (L.map lnV) i).length = Z.length by have := congrArg List.length hZ; rw [List.length_map] at this; rw [this]; unfold zrsV; rw [List.length_map])
      have HT2 := Lib.hid (show T = tidR (n - 1) (zrsV L i ++ sumsR (L.map lnV) i) from HT.out)
      have HE2 := Lib.hid (show E = if 1000 < Z.length + (upsV L i).length * (dnsV L i).length then 3 else if (sumsR (L.map lnV) i).all (validL (n - 1)) then 0 else 7 by
        rw [HE.out]; unfold leaveEr
        rw [ZN.out, ← UM.out, ← DM.out, List.length_map, List.length_map])
      have SR := Lib.hid (show sumsR (L.map lnV) i = (prs ((upsV L i).map lnV) ((dnsV L i).map lnV)).map (fun p => sumRf p.1 p.2 i) by rw [UM.out, DM.out]; rfl)
      generalize sumsR (L.map lnV) i = SS at *
      generalize upsV L i = U at *
      generalize dnsV L i = D at *
      generalize zrsV L i = Q at *
      obtain ⟨nu, hnu⟩ : ∃ nu, nu = U.length := ⟨_, rfl⟩
      obtain ⟨nd, hnd⟩ : ∃ nd, nd = D.length := ⟨_, rfl⟩
      obtain ⟨nz, hnz⟩ : ∃ nz, nz = Z.length := ⟨_, rfl⟩
      obtain ⟨a1, k1, f1, r1, q1⟩ := hL.o1.read
      obtain ⟨a2, k2, f2, r2, q2⟩ := hL.o2.read
      obtain ⟨a3, k3, f3, r3, q3⟩ := hL.o3.read
      rw [← hnu] at f1 LU HE2
      rw [← hnd] at f2 LD HE2
      rw [← hnz] at f3 LZ HE2
      subst f1 f2 f3
      have LU' := LU.out
      have LD' := LD.out
      have LZ' := LZ.out
      obtain ⟨p, hp⟩ : ∃ p, p = nu * nd := ⟨_, rfl⟩
      have hp1 : (nu : Int) * (nd : Int) = p := by rw [hp]; simp
      have hp2 : p ≤ 4000000 := by rw [hp]; exact Nat.mul_le_mul (Nat.le_trans LU' hle) (Nat.le_trans LD' hle)
      rw [← hp] at HE2
      have NU := Lib.hid hnu
      have ND := Lib.hid hnd
      have NZ := Lib.hid hnz
      have HP := Lib.hid hp
      have Q1 := Lib.hid q1
      have Q2 := Lib.hid q2
      clear hp hnu hnd hnz e LU LD LZ HZ hL hZ r1 r2 r3 q1 q2 q3 HT HE UM DM ZN HY HR
      go_upto_region 10 with (fail)
      have p2 : (p : Int) ≤ 4000000 := by omega
      by_cases hq : 1000 < nz + p
      · have hq' : (1000 : Int) < nz + p := by omega
        have he := Lib.hid (show E = 3 by rw [HE2.out, if_pos hq])
        go_wp2_with (rw [hp1])
        refine bodyPost_ret (v := .tuple #[.slice none 0 0, .int .i64 3]) (by simp [results, Tryz.results49, go_sem]) rfl ?_
        exact Or.inr ⟨by rw [he.out]; decide, by rw [he.out], HL.out.be⟩
      · have hq' : ¬ (1000 : Int) < nz + p := by omega
        have EE := Lib.hid (show E = if SS.all (validL (n - 1)) then 0 else 7 by rw [HE2.out, if_neg hq])
        have PQ := Lib.hid (show Z.length + U.length * D.length ≤ 1000 by rw [← NZ.out, ← NU.out, ← ND.out, ← HP.out]; omega)
        clear HE2
        go_wp2_with (rw [hp1])
        go_loopw [8, 12] (fun v s wo => ∃ k : Nat, s = .int .i64 k ∧ k ≤ nu ∧ Hid (∃ Z', LvR w wo (.slice a1 nu k1) (.slice a2 nd k2) v U D Z' ∧ Z'.map lnV = Q ++ someR (U.map lnV) (D.map lnV) i k 0) ∧ Hid (∀ x ∈ someR (U.map lnV) (D.map lnV) i k 0, validL (n - 1) x = true)) (fun _ s _ => nu - (intOf s).toNat)
        case atStart => exact ⟨0, rfl, by omega, Lib.hid ⟨Z, HL.out, by rw [someR_zero, ZM.out]; simp⟩, Lib.hid (by rw [someR_zero]; simp)⟩
        case round =>
          obtain ⟨k, rfl, hk, HZ, HV⟩ := hrel
          generalize wr = wo at *
          by_cases hku : k < nu
          · have hkU : k < U.length := by have := NU.out; omega
            have LOK := Lib.hid (show ∀ j, (someR (U.map lnV) (D.map lnV) i k j).length + Q.length ≤ 1000 from fun j => by
              have h1 := someR_len (U.map lnV) (D.map lnV) i k j (by simpa using hkU)
              have h2 := congrArg List.length ZM.out
              rw [List.length_map] at h2
              have h3 := PQ.out
              simp only [List.length_map] at h1
              omega)
            obtain ⟨x, hx⟩ : ∃ x, x = U[k] := ⟨_, rfl⟩
            have XF := Lib.hid (UF.out x (by rw [hx]; exact List.getElem_mem hkU))
            have XD := Lib.hid (show (U.map lnV).getD k ⟨[], 0, false⟩ = lnV x by rw [hx]; simp [hkU])
            have XE := Lib.hid (show ∀ h : k < U.length, U[k] = x from fun _ => hx.symm)
            obtain ⟨xb, xo, xq, xlt, xc⟩ := line_at HI.out XF.out.1.1.1 XF.out.1.2 XF.out.2.2
            have XQ := Lib.hid xq
            have XC := Lib.hid (xc i HI.out)
            obtain ⟨u, hu⟩ : ∃ u, u = gA x.a i := ⟨_, rfl⟩
            rw [← hu] at XC
            have HU := Lib.hid hu
            have UP := Lib.hid (show 0 < u ∧ u ≤ 2147483647 by rw [hu]; exact ⟨XF.out.2.1, (XF.out.1.1.2.1 _ (gA_mem (by rw [XF.out.1.1.1]; exact HI.out))).2⟩)
            have SNX := Lib.hid (show someR (U.map lnV) (D.map lnV) i k nd = someR (U.map lnV) (D.map lnV) i (k + 1) 0 by rw [ND.out]; have := someR_next (U := U.map lnV) (D := D.map lnV) (i := i) (k := k) (by simpa using hkU); simpa using this)
            obtain ⟨g1, ha1⟩ : ∃ g1, a1 = some ⟨g1, 0, none⟩ := by
              obtain ⟨Z', h, _⟩ := HZ.out
              obtain ⟨g, e, _⟩ := h.o1.form' (by omega)
              exact ⟨g, e⟩
            have A1 := Lib.hid ha1
            clear hx xq xlt xc hu ha1 hkU
            go_wp2_with fail
            go_loopw [8, 13] (fun v s wi => ∃ j : Nat, s = .int .i64 j ∧ j ≤ nd ∧ Hid (∃ Z', LvR w wi (.slice a1 nu k1) (.slice a2 nd k2) v U D Z' ∧ Z'.map lnV = Q ++ someR (U.map lnV) (D.map lnV) i k j) ∧ Hid (∀ x ∈ someR (U.map lnV) (D.map lnV) i k j, validL (n - 1) x = true)) (fun _ s _ => nd - (intOf s).toNat)
            case atStart => exact ⟨0, rfl, by omega, HZ, HV⟩
            case round =>
              clear HZ HV
              obtain ⟨j, rfl, hj, HZ, HV⟩ := hrel
              by_cases hjd : j < nd
              · have hjD : j < D.length := by have := ND.out; omega
                obtain ⟨Z', hL', hZ'⟩ := HZ.out
                obtain ⟨y, hy⟩ : ∃ y, y = D[j] := ⟨_, rfl⟩
                have YF := Lib.hid (DF.out y (by rw [hy]; exact List.getElem_mem hjD))
                obtain ⟨yb, yo, yq, ylt, yc⟩ := line_at HI.out YF.out.1.1.1 YF.out.1.2 YF.out.2.2
                obtain ⟨d, hd⟩ : ∃ d, d = gA y.a i := ⟨_, rfl⟩
                have DP := Lib.hid (show d < 0 ∧ -2147483647 ≤ d by rw [hd]; exact ⟨YF.out.2.1, (YF.out.1.1.2.1 _ (gA_mem (by rw [YF.out.1.1.1]; exact HI.out))).1⟩)
                have YC := Lib.hid (show w.cell? ⟨yb, yo + i, none⟩ = some (.int .i64 d) by rw [hd]; exact yc i HI.out)
                obtain ⟨g2, ha2, _⟩ := hL'.o2.form' (by omega)
                have hg1 := A1.out
                subst ha2
                subst hg1
                have HL2 := Lib.hid hL'
                have CX := Lib.hid (show AvAt wr ⟨g1, k * 3, none⟩ x by have hkU : k < U.length := by { have := NU.out; omega }; rw [← XE.out hkU]; exact hL'.o1.avAt' NU.out hkU)
                have CY := Lib.hid (show AvAt wr ⟨g2, j * 3, none⟩ y by rw [hy]; exact hL'.o2.avAt' ND.out hjD)
                have X0 := Lib.hid (av_cell0 CX.out XQ.out XF.out.1.1.1)
                have Y0 := Lib.hid (av_cell0 CY.out yq YF.out.1.1.1)
                have X1 := Lib.hid (kept hL'.be XC.out)
                have Y1 := Lib.hid (kept hL'.be YC.out)
                obtain ⟨G, hG⟩ : ∃ G : Int, G = (Int.gcd (-d) u : Int) := ⟨_, rfl⟩
                have GP := Lib.hid (show 0 < G by rw [hG]; have := Int.gcd_pos_of_ne_zero_left u (show -d ≠ 0 by have := DP.out; omega); omega)
                obtain ⟨S1, hS1⟩ : ∃ S1, S1 = sumRf (lnV x) (lnV y) i := ⟨_, rfl⟩
                have ST := Lib.hid (show someR (U.map lnV) (D.map lnV) i k (j + 1) = someR (U.map lnV) (D.map lnV) i k j ++ [S1] by
                  rw [someR_step (by simpa using hjD), XD.out, hS1, hy]; simp)
                have SL := Lib.hid (show S1.a.length = n - 1 by rw [hS1]; exact sumRf_len XF.out.1.1.1 YF.out.1.1.1 HI.out)
                have SI := Lib.hid (show S1 ∈ SS by
                  rw [SR.out, hS1]
                  have hkU : k < U.length := by { have := NU.out; omega }
                  have := sumRf_mem (U := U.map lnV) (D := D.map lnV) (i := i) (k := k) (m := j) (by simpa using hkU) (by simpa using hjD)
                  rw [XD.out] at this
                  simpa [hy] using this)
                have DV := Lib.hid (fun W => rdiv_any (-d) u W (by have := DP.out; omega) (by have := UP.out; omega))
                rw [← hG] at DV
                obtain ⟨p1, hq1⟩ : ∃ p1, p1 = (-d).tdiv G := ⟨_, rfl⟩
                obtain ⟨p3, hq2⟩ : ∃ p3, p3 = u.tdiv G := ⟨_, rfl⟩
                have P1 := Lib.hid (show -2147483647 ≤ p1 ∧ p1 ≤ 2147483647 by rw [hq1]; exact tdiv_le (by have := DP.out; omega))
                have P3 := Lib.hid (show -2147483647 ≤ p3 ∧ p3 ≤ 2147483647 by rw [hq2]; exact tdiv_le (by have := UP.out; omega))
                have SM := Lib.hid (show ∀ W, Below wr.heap.size wr W → Calls Tryz.prog 93 #[.int .i64 p1, .agg x.cs, .int .i64 p3, .agg y.cs, .int .i64 i] W (VRes W S1) from fun W h => by
                  have := rsum_any p1 p3 x y n i W N100.out HI.out XF.out.1.1 YF.out.1.1 P1.out P3.out (XF.out.2.2.on (below_on HL2.out.be h)) (YF.out.2.2.on (below_on HL2.out.be h))
                  rw [hS1]
                  rw [hq1, hq2, hG, hd, HU.out] at this ⊢
                  exact this)
                have hwd : IntKind.i64.wrap (-d) = -d := wrap_in _ (by have := DP.out; omega) (by have := DP.out; omega)
                have hq1' : IntKind.i64.wrap (-d.tdiv G) = p1 := by rw [← Int.neg_tdiv, ← hq1]; exact wrap_in _ (by have := P1.out; omega) (by have := P1.out; omega)
                have hq2' : IntKind.i64.wrap (u.tdiv G) = p3 := by rw [← hq2]; exact wrap_in _ (by have := P3.out; omega) (by have := P3.out; omega)
                have hg0 : (G = 0) = False := by have := GP.out; simp; omega
                have W1 := Lib.hid hwd
                have W2 := Lib.hid hq1'
                have W3 := Lib.hid hq2'
                have W4 := Lib.hid hg0
                have HZ' := Lib.hid hZ'
                have LZ9 := Lib.hid (show Z'.length + 1 ≤ 1000000 by
                  have h1 := congrArg List.length hZ'
                  rw [List.length_map, List.length_append] at h1
                  have h2 := LOK.out j
                  omega)
                clear hy yq ylt yc hd hL' hZ' HZ hG hS1 hq1 hq2 hjD hq1' hq2' hg0
                go_upto_region 18 with (fail)
                have KS := Lib.hid (show ∀ W, Below wr.heap.size wr W → (W.cell? ⟨g2, j * 3, none⟩ = some (.slice (some ⟨yb, yo, none⟩) n y.c) ∧ W.cell? ⟨yb, yo + i, none⟩ = some (.int .i64 d) ∧ W.cell? ⟨g1, k * 3, none⟩ = some (.slice (some ⟨xb, xo, none⟩) n x.c) ∧ W.cell? ⟨xb, xo + i, none⟩ = some (.int .i64 u)) from fun W h => ⟨kept h Y0.out, kept h Y1.out, kept h X0.out, kept h X1.out⟩)
                obtain ⟨wc, hwc⟩ : ∃ wc, wc = wr.drew := ⟨_, rfl⟩
                have Bc := Lib.hid (show Below wr.heap.size wr wc by rw [hwc]; exact (Below.refl _ _).drew)
                refine wp_region_held_drew (S := (fun W => (W.cell? ⟨g2, j * 3, none⟩ = some (.slice (some ⟨yb, yo, none⟩) n y.c) ∧ W.cell? ⟨yb, yo + i, none⟩ = some (.int .i64 d) ∧ W.cell? ⟨g1, k * 3, none⟩ = some (.slice (some ⟨xb, xo, none⟩) n x.c) ∧ W.cell? ⟨xb, xo + i, none⟩ = some (.int .i64 u)))) (by kernel_rfl) (by rw [← hwc]; exact KS.out _ Bc.out) (fun h0 => ?_)
                rw [← hwc] at h0 ⊢
                clear hwc
                refine tkH (i := 0) (v := ?v1) rfl (Or.inl ⟨by rfl, ?hy1⟩) h0 ?rest1
                case hy1 => (intro w' hS; (try dsimp only at hS); go_simp; try (with_reducible rfl))
                simp only [Act.put, sA, sB, sD, sE, sF]
                refine tkH (i := 1) (v := ?v2) rfl (Or.inl ⟨by rfl, ?hy2⟩) h0 ?rest2
                case hy2 => (intro w' hS; (try dsimp only at hS); go_simp; try (with_reducible rfl))
                simp only [Act.put, sZ]
                refine tkH (i := 2) (v := ?v3) rfl (Or.inl ⟨by rfl, ?hy3⟩) h0 ?rest3
                case hy3 => (intro w' hS; (try dsimp only at hS); go_simp; try (with_reducible rfl))
                simp only [Act.put, sZ]
                refine tkH (i := 3) (v := ?v4) rfl (Or.inl ⟨by rfl, ?hy4⟩) h0 ?rest4
                case hy4 => (intro w' hS; (try dsimp only at hS); go_simp; try (with_reducible rfl))
                simp only [Act.put, sZ]
                refine tkH (i := 4) (v := ?v5) rfl (Or.inl ⟨by rfl, ?hy5⟩) h0 ?rest5
                case hy5 => (intro w' hS; (try dsimp only at hS); go_simp; try (with_reducible rfl))
                simp only [Act.put, sZ]
                refine tkH (i := 5) (v := ?v6) rfl (Or.inl ⟨by rfl, ?hy6⟩) h0 ?rest6
                case hy6 => (intro w' hS; (try dsimp only at hS); go_simp; try (with_reducible rfl))
                simp only [Act.put, sZ]
                refine tkH (i := 6) (v := ?v7) rfl (Or.inl ⟨by rfl, ?hy7⟩) h0 ?rest7
                case hy7 => (intro w' hS; (try dsimp only at hS); go_simp; try (with_reducible rfl))
                simp only [Act.put, sZ]
                refine tkH (i := 7) (v := ?v8) rfl (Or.inl ⟨by rfl, ?hy8⟩) h0 ?rest8
                case hy8 => (intro w' hS; (try dsimp only at hS); go_simp; try (with_reducible rfl))
                simp only [Act.put, sZ]
                refine tkH (i := 8) (v := ?v9) rfl (Or.inl ⟨by rfl, ?hy9⟩) h0 ?rest9
                case hy9 => (intro w' hS; (try dsimp only at hS); go_simp; try (with_reducible rfl))
                simp only [Act.put, sZ]
                refine tkH (i := 9) (v := ?v10) rfl (Or.inl ⟨by rfl, ?hy10⟩) h0 ?rest10
                case hy10 => (intro w' hS; (try dsimp only at hS); go_simp; try (with_reducible rfl))
                simp only [Act.put, sZ]
                refine tkH (i := 10) (v := ?v11) rfl (Or.inl ⟨by rfl, ?hy11⟩) h0 ?rest11
                case hy11 => (intro w' hS; (try dsimp only at hS); go_simp; try (with_reducible rfl))
                simp only [Act.put, sZ]
                refine tkH (i := 11) (v := ?v12) rfl (Or.inl ⟨by rfl, ?hy12⟩) h0 ?rest12
                case hy12 => (intro w' hS; (try dsimp only at hS); go_simp; try (with_reducible rfl))
                simp only [Act.put, sZ]
                refine tkH (i := 12) (v := ?v13) rfl (Or.inl ⟨by rfl, ?hy13⟩) h0 ?rest13
                case hy13 => (intro w' hS; (try dsimp only at hS); go_simp; try (with_reducible rfl))
                simp only [Act.put, sZ]
                refine tkH (i := 13) (v := ?v14) rfl (Or.inl ⟨by rfl, ?hy14⟩) h0 ?rest14
                case hy14 => (intro w' hS; (try dsimp only at hS); go_simp; try (with_reducible rfl))
                simp only [Act.put, sZ]
                refine tkH (i := 14) (v := ?v15) rfl (Or.inl ⟨by rfl, ?hy15⟩) h0 ?rest15
                case hy15 => (intro w' hS; (try dsimp only at hS); go_simp; try (with_reducible rfl))
                simp only [Act.put, sZ]
                refine tkH (i := 15) (v := ?v16) rfl (Or.inl ⟨by rfl, ?hy16⟩) h0 ?rest16
                case hy16 => (intro w' hS; (try dsimp only at hS); go_simp; try (with_reducible rfl))
                simp only [Act.put, sZ]
                refine tkH (i := 16) (v := ?v17) rfl (Or.inl ⟨by rfl, ?hy17⟩) h0 ?rest17
                case hy17 => (intro w' hS; (try dsimp only at hS); go_simp; try (with_reducible rfl))
                simp only [Act.put, sZ]
                refine tkH (i := 17) (v := ?v18) rfl (Or.inl ⟨by rfl, ?hy18⟩) h0 ?rest18
                case hy18 => (intro w' hS; (try dsimp only at hS); go_simp; try (with_reducible rfl))
                simp only [Act.put, sZ]
                refine tkH (i := 18) (v := ?v19) rfl (Or.inl ⟨by rfl, ?hy19⟩) h0 ?rest19
                case hy19 => (intro w' hS; (try dsimp only at hS); go_simp; try (with_reducible rfl))
                simp only [Act.put, sA, sB, sC, sD]
                try simp only [sF]
                try simp only [sE]
                refine wpAnyH_done (by kernel_rfl) ?_ _
                clear h0 KS hwd
                go_wp2_with fail
                refine (DV.out _).mono ?_
                rintro e w2 ⟨rfl, jn, rfl⟩
                obtain ⟨w3, hw3⟩ : ∃ w3, w3 = wc.drewN jn := ⟨_, rfl⟩
                have B3 := Lib.hid (show Below wr.heap.size wr w3 by rw [hw3]; exact below_drewN Bc.out jn)
                rw [← hw3]
                clear hw3 Bc wc DV
                have hq1' := W2.out
                have hq2' := W3.out
                have hg0 := W4.out
                go_upto_region 20 with (fail)
                go_cut [17] (fun s17 wx => ∃ (q : Nat) (X : AV), s17 = .pointer (some ⟨q, 0, none⟩) ∧ Hid (SumAt wr wx q X S1))
                case first =>
                  have KS := Lib.hid (show ∀ W, Below w3.heap.size w3 W → (AvAt W ⟨g1, k * 3, none⟩ x ∧ AvAt W ⟨g2, j * 3, none⟩ y) from fun W h => ⟨CX.out.on (below_on B3.out h), CY.out.on (below_on B3.out h)⟩)
                  obtain ⟨wc, hwc⟩ : ∃ wc, wc = w3.drew := ⟨_, rfl⟩
                  have Bc := Lib.hid (show Below w3.heap.size w3 wc by rw [hwc]; exact (Below.refl _ _).drew)
                  refine wp_region_held_drew (S := (fun W => (AvAt W ⟨g1, k * 3, none⟩ x ∧ AvAt W ⟨g2, j * 3, none⟩ y))) (by kernel_rfl) (by rw [← hwc]; exact KS.out _ Bc.out) (fun h0 => ?_)
                  rw [← hwc] at h0 ⊢
                  clear hwc
                  refine tkH (i := 0) (v := ?v20) rfl (Or.inl ⟨by rfl, ?hy20⟩) h0 ?rest20
                  case hy20 => (intro w' hS; (try dsimp only at hS); go_simp; try (with_reducible rfl))
                  simp only [Act.put, sA, sB, sD, sE, sF]
                  refine tkH (i := 1) (v := ?v21) rfl (Or.inl ⟨by rfl, ?hy21⟩) h0 ?rest21
                  case hy21 => (intro w' hS; (try dsimp only at hS); go_simp; try (with_reducible rfl))
                  simp only [Act.put, sZ]
                  refine tkH (i := 2) (v := ?v22) rfl (Or.inl ⟨by rfl, ?hy22⟩) h0 ?rest22
                  case hy22 => (intro w' hS; (try dsimp only at hS); go_simp; try (with_reducible rfl))
                  simp only [Act.put, sZ]
                  refine tkH (i := 3) (v := ?v23) rfl (Or.inl ⟨by rfl, ?hy23⟩) h0 ?rest23
                  case hy23 => (intro w' hS; (try dsimp only at hS); go_simp; try (with_reducible rfl))
                  simp only [Act.put, sZ]
                  refine tkH (i := 4) (v := ?v24) rfl (Or.inl ⟨by rfl, ?hy24⟩) h0 ?rest24
                  case hy24 => (intro w' hS; (try dsimp only at hS); go_simp; try (with_reducible rfl))
                  simp only [Act.put, sZ]
                  refine tkH (i := 5) (v := ?v25) rfl (Or.inl ⟨by rfl, ?hy25⟩) h0 ?rest25
                  case hy25 => (intro w' hS; (try dsimp only at hS); go_simp; try (with_reducible rfl))
                  simp only [Act.put, sZ]
                  refine tkH (i := 6) (v := (.agg x.cs)) rfl (Or.inl ⟨by rfl, fun w' hS => yld_loadV _ rfl _ rfl hS.1⟩) h0 ?_
                  simp only [Act.put, sZ]
                  refine tkH (i := 7) (v := ?v27) rfl (Or.inl ⟨by rfl, ?hy27⟩) h0 ?rest27
                  case hy27 => (intro w' hS; (try dsimp only at hS); go_simp; try (with_reducible rfl))
                  simp only [Act.put, sZ]
                  refine tkH (i := 8) (v := ?v28) rfl (Or.inl ⟨by rfl, ?hy28⟩) h0 ?rest28
                  case hy28 => (intro w' hS; (try dsimp only at hS); go_simp; try (with_reducible rfl))
                  simp only [Act.put, sZ]
                  refine tkH (i := 9) (v := ?v29) rfl (Or.inl ⟨by rfl, ?hy29⟩) h0 ?rest29
                  case hy29 => (intro w' hS; (try dsimp only at hS); go_simp; try (with_reducible rfl))
                  simp only [Act.put, sZ]
                  refine tkH (i := 10) (v := ?v30) rfl (Or.inl ⟨by rfl, ?hy30⟩) h0 ?rest30
                  case hy30 => (intro w' hS; (try dsimp only at hS); go_simp; try (with_reducible rfl))
                  simp only [Act.put, sZ]
                  refine tkH (i := 11) (v := ?v31) rfl (Or.inl ⟨by rfl, ?hy31⟩) h0 ?rest31
                  case hy31 => (intro w' hS; (try dsimp only at hS); go_simp; try (with_reducible rfl))
                  simp only [Act.put, sZ]
                  refine tkH (i := 12) (v := ?v32) rfl (Or.inl ⟨by rfl, ?hy32⟩) h0 ?rest32
                  case hy32 => (intro w' hS; (try dsimp only at hS); go_simp; try (with_reducible rfl))
                  simp only [Act.put, sZ]
                  refine tkH (i := 13) (v := (.agg y.cs)) rfl (Or.inl ⟨by rfl, fun w' hS => yld_loadV _ rfl _ rfl hS.2⟩) h0 ?_
                  simp only [Act.put, sZ]
                  refine tkH (i := 14) (v := ?v34) rfl (Or.inl ⟨by rfl, ?hy34⟩) h0 ?rest34
                  case hy34 => (intro w' hS; (try dsimp only at hS); go_simp; try (with_reducible rfl))
                  simp only [Act.put, sZ]
                  refine wpAnyH_ready (rs := [15, 16]) (by kernel_rfl) (by simp) (AllReadyH.cons rfl (fun K hK => ?_) (AllReadyH.cons rfl (fun K hK => ?_) AllReadyH.nil))
                  · rw [if_pos (by rfl)]
                    go_simp
                    have hzb := Nat.le_trans B3.out.size Bc.out.size
                    refine (SM.out wc (below_on B3.out Bc.out)).mono ?_
                    rintro e wc ⟨g, c, rfl, ho, hb⟩
                    try (have P7 := Lib.hid (P7.out.kept hb))
                    have Bc := Lib.hid (below_on Bc.out hb)
                    obtain ⟨X, hX⟩ : ∃ X, X = AV.mk (some ⟨g, 0, none⟩) c S1.a S1.b S1.s := ⟨_, rfl⟩
                    rw [← hX]
                    have XL := Lib.hid (show lnV X = S1 by rw [hX]; rfl)
                    have XQ2 := Lib.hid (show X.q = some ⟨g, 0, none⟩ by rw [hX])
                    have OW := Lib.hid (show OwnI wc wr.heap.size g X.c X.a by rw [hX]; exact ho.base hzb)
                    clear hb ho hX hzb
                    go_simp
                    refine hK.out _ _ (KS.out _ Bc.out) (fun h0_1 => ?_)
                    clear hK K h0
                    refine wpAnyH_ready (rs := [16]) (by kernel_rfl) (by simp) (AllReadyH.cons rfl (fun K hK => ?_) AllReadyH.nil)
                    rw [if_pos (by rfl)]
                    go_simp
                    have hb := one_more (w1 := wc) (.cells av0.cs 25)
                    have hP := (show BkV (wc.alloc (.cells av0.cs 25)) wc.heap.size av0 from BkV.made wc av0)
                    have hz := Bc.out.size
                    obtain ⟨q7, hbb⟩ : ∃ b, b = wc.heap.size := ⟨_, rfl⟩
                    rw [← hbb] at hP hz
                    obtain ⟨wn, hwn⟩ : ∃ wn, wn = wc.alloc (.cells av0.cs 25) := ⟨_, rfl⟩
                    rw [← hwn] at hb hP ⊢
                    try rw [← hbb]
                    try (have OW := Lib.hid (OW.out.on hb))
                    have Bc := Lib.hid (below_on Bc.out hb)
                    have P7 := Lib.hid hP
                    have Zq7 := Lib.hid hz
                    clear hb hP hz hbb hwn
                    obtain ⟨wc, hwc⟩ : ∃ wc, wc = wn := ⟨_, rfl⟩
                    rw [← hwc] at Bc P7 ⊢
                    try rw [← hwc] at OW
                    clear hwc
                    go_simp
                    refine hK.out _ _ (KS.out _ Bc.out) (fun h0_2 => ?_)
                    clear hK K h0_1
                    refine wpAnyH_ready (rs := [17]) (by kernel_rfl) (by simp) (AllReadyH.cons rfl (fun K hK => ?_) AllReadyH.nil)
                    rw [if_pos (by rfl)]
                    refine wp_storeV _ _ rfl q7 X rfl rfl _ P7.out ?_
                    refine hK.out _ _ (KS.out _ (Below.setRow Bc.out Zq7.out _)) (fun h0_3 => ?_)
                    clear hK K h0_2
                    try simp only [sF]
                    try simp only [sE]
                    refine wpAnyH_done (by kernel_rfl) ?_ _
                    have OZ := own_ne_bk OW.out P7.out
                    have PE := P7.out.setRow (z := X)
                    have BE := Below.setRow Bc.out Zq7.out X.cs
                    have OE := OW.out.grown (grown_row wc q7 X.cs) OZ
                    obtain ⟨we, hwe⟩ : ∃ we, we = wc.setRow q7 X.cs := ⟨_, rfl⟩
                    rw [← hwe] at PE BE OE ⊢
                    have SA := Lib.hid (show SumAt wr we q7 X S1 from ⟨PE, XL.out, ⟨g, XQ2.out, OE⟩, below_on B3.out BE⟩)
                    clear hwe PE BE OE OZ
                    go_wp2_with fail
                    go_meet
                    case rel => exact ⟨q7, X, rfl, SA⟩
                  · rw [if_pos (by rfl)]
                    go_simp
                    have hb := one_more (w1 := wc) (.cells av0.cs 25)
                    have hP := (show BkV (wc.alloc (.cells av0.cs 25)) wc.heap.size av0 from BkV.made wc av0)
                    have hz := Bc.out.size
                    obtain ⟨q7, hbb⟩ : ∃ b, b = wc.heap.size := ⟨_, rfl⟩
                    rw [← hbb] at hP hz
                    obtain ⟨wn, hwn⟩ : ∃ wn, wn = wc.alloc (.cells av0.cs 25) := ⟨_, rfl⟩
                    rw [← hwn] at hb hP ⊢
                    try rw [← hbb]
                    try (have OW := Lib.hid (OW.out.on hb))
                    have Bc := Lib.hid (below_on Bc.out hb)
                    have P7 := Lib.hid hP
                    have Zq7 := Lib.hid hz
                    clear hb hP hz hbb hwn
                    obtain ⟨wc, hwc⟩ : ∃ wc, wc = wn := ⟨_, rfl⟩
                    rw [← hwc] at Bc P7 ⊢
                    try rw [← hwc] at OW
                    clear hwc
                    go_simp
                    refine hK.out _ _ (KS.out _ Bc.out) (fun h0_1 => ?_)
                    clear hK K h0
                    refine wpAnyH_ready (rs := [15]) (by kernel_rfl) (by simp) (AllReadyH.cons rfl (fun K hK => ?_) AllReadyH.nil)
                    rw [if_pos (by rfl)]
                    go_simp
                    have hzb := Nat.le_trans B3.out.size Bc.out.size
                    refine (SM.out wc (below_on B3.out Bc.out)).mono ?_
                    rintro e wc ⟨g, c, rfl, ho, hb⟩
                    try (have P7 := Lib.hid (P7.out.kept hb))
                    have Bc := Lib.hid (below_on Bc.out hb)
                    obtain ⟨X, hX⟩ : ∃ X, X = AV.mk (some ⟨g, 0, none⟩) c S1.a S1.b S1.s := ⟨_, rfl⟩
                    rw [← hX]
                    have XL := Lib.hid (show lnV X = S1 by rw [hX]; rfl)
                    have XQ2 := Lib.hid (show X.q = some ⟨g, 0, none⟩ by rw [hX])
                    have OW := Lib.hid (show OwnI wc wr.heap.size g X.c X.a by rw [hX]; exact ho.base hzb)
                    clear hb ho hX hzb
                    go_simp
                    refine hK.out _ _ (KS.out _ Bc.out) (fun h0_4 => ?_)
                    clear hK K h0_1
                    refine wpAnyH_ready (rs := [17]) (by kernel_rfl) (by simp) (AllReadyH.cons rfl (fun K hK => ?_) AllReadyH.nil)
                    rw [if_pos (by rfl)]
                    refine wp_storeV _ _ rfl q7 X rfl rfl _ P7.out ?_
                    refine hK.out _ _ (KS.out _ (Below.setRow Bc.out Zq7.out _)) (fun h0_5 => ?_)
                    clear hK K h0_4
                    try simp only [sF]
                    try simp only [sE]
                    refine wpAnyH_done (by kernel_rfl) ?_ _
                    have OZ := own_ne_bk OW.out P7.out
                    have PE := P7.out.setRow (z := X)
                    have BE := Below.setRow Bc.out Zq7.out X.cs
                    have OE := OW.out.grown (grown_row wc q7 X.cs) OZ
                    obtain ⟨we, hwe⟩ : ∃ we, we = wc.setRow q7 X.cs := ⟨_, rfl⟩
                    rw [← hwe] at PE BE OE ⊢
                    have SA := Lib.hid (show SumAt wr we q7 X S1 from ⟨PE, XL.out, ⟨g, XQ2.out, OE⟩, below_on B3.out BE⟩)
                    clear hwe PE BE OE OZ
                    go_wp2_with fail
                    go_meet
                    case rel => exact ⟨q7, X, rfl, SA⟩
                case rest =>
                obtain ⟨q7, X, rfl, SA⟩ := hcut
                obtain ⟨w4, hw4⟩ : ∃ w4, w4 = wc := ⟨_, rfl⟩
                rw [← hw4] at SA ⊢
                clear hw4 SM hq1' hq2' hg0 W1 W2 W3 W4 B3 w3
                have hw1 : wrap64 ((n : Int) - 1) = (n : Int) - 1 := by have := N100.out; unfold wrap64; omega
                have XN := Lib.hid (show X.a.length = n - 1 by have := congrArg (fun l => l.a.length) SA.out.ln; exact this.trans SL.out)
                have VA := Lib.hid (rvalid_any ((n : Int) - 1) X w4 (by have := XN.out; have := N100.out; omega) (by obtain ⟨g, e, o⟩ := SA.out.at_; rw [e]; exact o.rd))
                obtain ⟨b, hb⟩ : ∃ b, b = validL (n - 1) S1 := ⟨_, rfl⟩
                have VE := Lib.hid hb
                rw [valid_b (Nat.lt_of_le_of_lt (Nat.zero_le _) HI.out), SA.out.ln, ← hb] at VA
                clear hb
                go_wp2_with (first | refine wpl_loadV rfl _ rfl _ rfl X SA.out.bk.avAt ?_)
                refine VA.out.mono ?_
                rintro e w5 ⟨rfl, hb⟩
                have B5 := Lib.hid hb
                clear hb VA
                cases b
                · have E7 := Lib.hid (show E = 7 by
                    rw [EE.out, if_neg]
                    rw [List.all_eq_true]
                    intro h
                    have := h S1 SI.out
                    rw [← VE.out] at this; cases this)
                  go_wp2_with fail
                  refine bodyPost_ret (v := .tuple #[.slice none 0 0, .int .i64 7]) (by simp [results, Tryz.results49, go_sem]) rfl ?_
                  exact Or.inr ⟨by rw [E7.out]; decide, by rw [E7.out], below_on HL2.out.be (below_on SA.out.be B5.out)⟩
                · have H5 := Lib.hid (HL2.out.on (below_on SA.out.be B5.out))
                  have A3 := Lib.hid (one_more (w1 := w5) (.cells X.cs 25))
                  have H6 := Lib.hid (H5.out.on A3.out)
                  have K5 := Lib.hid (SA.out.bk.kept B5.out)
                  have M6 := Lib.hid (BkV.made w5 X).avAt
                  have z6 : w.heap.size ≤ (w5.alloc (.cells X.cs 25)).heap.size := H6.out.be.size
                  obtain ⟨g, xq, xo'⟩ := SA.out.at_
                  have XO := Lib.hid (xo'.on B5.out)
                  have GD := Lib.hid (show GoodV (w5.alloc (.cells X.cs 25)) u8.ownBlock X from ⟨by rw [xq]; exact (XO.out.on A3.out).rd, fun p e => by
                    rw [xq] at e; cases e
                    have := XO.out.lt
                    exact ⟨fun q => by have := HL2.out.o3.lt _ q; show False; simp only at this; omega, by rw [World.size_alloc]; simp only; omega⟩, fun e => (by rw [xq] at e; cases e), XO.out.capOk⟩)
                  have L3 := Lib.hid (show ∀ p, X.q = some p → (Value.slice (some ⟨g1, 0, none⟩) nu k1).ownBlock ≠ some p.block ∧ (Value.slice (some ⟨g2, 0, none⟩) nd k2).ownBlock ≠ some p.block ∧ w.heap.size ≤ p.block from fun p e => by
                    rw [xq] at e; cases e
                    have h1 := XO.out.lt
                    have h2 := HL2.out.be.size
                    exact ⟨fun q => by have := HL2.out.o1.lt _ q; show False; simp only at this; omega, fun q => by have := HL2.out.o2.lt _ q; show False; simp only at this; omega, by simp only; omega⟩)
                  have HVn := Lib.hid (show ∀ x ∈ someR (U.map lnV) (D.map lnV) i k (j + 1), validL (n - 1) x = true by
                    rw [ST.out]
                    intro z hz
                    rcases List.mem_append.1 hz with q | q
                    · exact HV.out z q
                    · rw [List.mem_singleton] at q; rw [q]; exact VE.out.symm)
                  clear xq xo' hw1
                  go_wp2_with (first | refine wpl_loadV rfl _ rfl _ rfl X K5.out.avAt ?_ | refine wpl_bv1 rfl _ rfl X rfl ?_ | (at_builtin; refine wpl_appV rfl _ _ rfl w.heap.size _ Z' X rfl H6.out.o3 _ _ rfl M6.out GD.out LZ9.out z6 ?_))
                  intro v' w6 o6 g6 f6
                  have H7 := Lib.hid (H6.out.app3 o6 g6 (by rw [World.size_alloc]; exact f6) L3.out)
                  clear o6 g6 f6
                  go_wp2_with fail
                  go_roundw
                  case rel => exact ⟨j + 1, by go_num, by omega, Lib.hid ⟨Z' ++ [X], H7.out, by rw [List.map_append, HZ'.out, ST.out]; simp [SA.out.ln]⟩, HVn⟩
                  case measure => simp [intOf]; omega
              · have hw : wrap64 ((k : Int) + 1) = (k : Int) + 1 := by unfold wrap64; omega
                have ej : j = nd := by omega
                have HZ2 := Lib.hid (show ∃ Z', LvR w wr (.slice a1 nu k1) (.slice a2 nd k2) _ U D Z' ∧ Z'.map lnV = Q ++ someR (U.map lnV) (D.map lnV) i (k + 1) 0 by have := HZ.out; rw [ej, SNX.out] at this; exact this)
                have HV2 := Lib.hid (show ∀ x ∈ someR (U.map lnV) (D.map lnV) i (k + 1) 0, validL (n - 1) x = true by have := HV.out; rw [ej, SNX.out] at this; exact this)
                clear ej hw
                go_wp2_with fail
                go_roundw
                case rel => exact ⟨k + 1, by go_num, by omega, HZ2, HV2⟩
                case measure => simp [intOf]; omega
          · have ek : k = nu := by omega
            obtain ⟨Z', hL', hZ'⟩ := HZ.out
            rw [ek, NU.out, show U.length = (U.map lnV).length by simp, someR_all, ← SR.out] at hZ'
            have HV2 := Lib.hid (show ∀ x ∈ SS, validL (n - 1) x = true by have := HV.out; rw [ek, NU.out, show U.length = (U.map lnV).length by simp, someR_all, ← SR.out] at this; exact this)
            have E0 := Lib.hid (show E = 0 by rw [EE.out, if_pos]; rw [List.all_eq_true]; exact HV2.out)
            obtain ⟨a9, k9, e9, r9, _⟩ := hL'.o3.read
            have len9 : Z'.length ≤ 1000 := by
              have h1 := congrArg List.length hZ'
              have h2 := congrArg List.length ZM.out
              rw [List.length_map] at h2
              rw [List.length_map, List.length_append, SR.out, List.length_map, prs_len, List.length_map, List.length_map] at h1
              have h3 := PQ.out
              omega
            have RT := Lib.hid (fun W (h : Below wo.heap.size wo W) => rtidy_any (n - 1) Z' a9 k9 W (by have := N100.out; omega) (by omega) (r9.on h) (fun y hy => by
              have hm : lnV y ∈ Q ++ SS := by rw [← hZ']; exact List.mem_map.2 ⟨y, hy, rfl⟩
              have hN := hL'.o3.nil y hy
              rcases List.mem_append.1 hm with q | q
              · obtain ⟨h1, h2, h3⟩ := ZF.out _ q
                exact ⟨h1, hN, h2, h3⟩
              · obtain ⟨h1, h2, h3⟩ := valid_fit (HV2.out _ q)
                exact ⟨h1, hN, fun v hv => by have := h2 v hv; unfold A63; omega, by unfold A63; omega⟩))
            rw [hZ', ← HT2.out] at RT
            have BE := Lib.hid hL'.be
            have hw : wrap64 ((n : Int) - 1) = (n : Int) - 1 := by have := N100.out; unfold wrap64; omega
            have en : (n : Int) - 1 = ((n - 1 : Nat) : Int) := by have := HI.out; omega
            have EN := Lib.hid en
            obtain ⟨n9, hn9⟩ : ∃ n9, n9 = Z'.length := ⟨_, rfl⟩
            rw [← hn9] at RT e9
            subst e9
            clear ek hL' hZ' r9 len9 HZ HV hn9 en
            go_wp2_with fail
            rw [EN.out]
            refine (RT.out _ (Below.refl _ _)).mono ?_
            rintro e w9 ⟨v, R, rfl, hO, hm, hb⟩
            have F1 := Lib.hid (hO.base BE.out.size)
            have F2 := Lib.hid hm
            have F3 := Lib.hid (below_on BE.out hb)
            clear hO hm hb
            go_wp2_with fail
            refine bodyPost_ret (v := .tuple #[v, .int .i64 0]) (by simp [results, Tryz.results49, go_sem]) rfl ?_
            exact Or.inl ⟨E0.out, v, R, rfl, F1.out, F2.out, F3.out⟩
end Go.Proofs.YtbhaoaobhgilkaaGreat
