/- The contract of Tidy of layer 7's reference. -/
import Derived.Test.YtbhaoaobhgilkaaGreatWm3
import Derived.Test.YtbhaoaobhgilkaaGreatWm27

namespace Go.Proofs.YtbhaoaobhgilkaaGreat
open Go.RowKit Go.Sort Go.Shelf

def zeroA (x : Ln) : Bool := x.a.all (· == 0)

def badR (l : List Ln) : Bool := l.any fun x => zeroA x.lowR && decide (x.lowR.lim ≤ 0)

def keepR (l : List Ln) : List Ln := (l.map Ln.lowR).filter fun x => !zeroA x

def tidR (n : Nat) (l : List Ln) : List Ln := if badR l then [⟨List.replicate n 0, 0, true⟩] else insL (keepR l)

theorem keepR_snoc {l : List Ln} {t : Nat} (h : t < l.length) : keepR (l.take (t + 1)) = keepR (l.take t) ++ (if zeroA l[t].lowR then [] else [l[t].lowR]) := by
  unfold keepR
  rw [List.take_succ_eq_append_getElem h, List.map_append, List.filter_append]
  congr 1
  simp only [List.map_cons, List.map_nil, List.filter_cons, List.filter_nil]
  cases zeroA l[t].lowR <;> rfl

theorem lowR_len (x : Ln) : x.lowR.a.length = x.a.length := by unfold Ln.lowR; split <;> simp

theorem make_ints (w : World) (n : Nat) (hn : n ≤ 1000) : (Instr.makeSlice 23 (.int .i64 n) (.int .i64 n)).run Tryz.prog w = .ok (.slice (some ⟨w.heap.size, 0, none⟩) n n) (w.alloc (.cells (List.replicate n (Value.int .i64 0)).toArray 2)) := by
  obtain ⟨i0, hi, hz0, hz1, hz2⟩ := info_parts i64_info
  have hr := run_make (P := Tryz.prog) w 23 2 i0 _ Tryz.underlying23 hi hz0 .i64 .i64 (n : Int) (n : Int) (by omega) (by omega) (by rw [hz2]; omega) (by omega)
  have e : madeCells (Value.int .i64 0).cells ((n : Int).toNat * i0.size) = (List.replicate n (Value.int .i64 0)).toArray := by
    apply Array.toList_inj.1
    rw [hz1]
    simp only [Int.toNat_natCast, Nat.mul_one]
    rw [show (Value.int .i64 0).cells = #[Value.int .i64 0] from rfl, toList_madeCells_one]
  rw [e] at hr
  simpa using hr

theorem cmp_eq {l m : List Int} : cmpL l m = 0 ↔ l = m := cmpL_zero

theorem own_one (w : World) (y : AV) (B : Nat) (hB : B ≤ w.heap.size) (hG : GoodV w none y) : OwnV (w.alloc (.cells y.cs 25)) B (.slice (some ⟨w.heap.size, 0, none⟩) 1 1) [y] := by
  have hb := one_more (w1 := w) (.cells y.cs 25)
  refine ⟨⟨by simp [AV.cells], .inr ⟨w.heap.size, 1, y.cs, rfl, hB, heap_alloc_last w _, Nat.le_refl _, by unfold maxLen; omega, by simp [AV.cs, AV.cells], by simp [AV.cs, AV.cells]⟩⟩, fun z hz => ?_, fun z hz p e => ?_, fun z hz => ?_⟩
  · rw [List.mem_singleton] at hz; subst hz; exact hG.nums.on hb
  · rw [List.mem_singleton] at hz; subst hz
    have := (hG.far p e).2
    refine ⟨fun e2 => ?_, by simp; omega⟩
    have e3 : w.heap.size = p.block := by simpa [Value.ownBlock] using e2
    omega
  · rw [List.mem_singleton] at hz; subst hz; exact hG.nil

theorem OwnV.form {w : World} {B : Nat} {v : Value} {L : List AV} (h : OwnV w B v L) (hL : 0 < L.length) : ∃ g cap, v = .slice (some ⟨g, 0, none⟩) L.length cap ∧ B ≤ g ∧ g < w.heap.size ∧ L.length ≤ cap := by
  rcases h.row.2 with ⟨rfl, hn⟩ | ⟨g, cap, cur, rfl, hb, hg, hc, hm, hsz, htake⟩
  · omega
  · exact ⟨g, cap, rfl, hb, (World.ownsRow.lt h.row g rfl).2, hc⟩

theorem OwnV.good {w : World} {B : Nat} {v : Value} {L : List AV} (h : OwnV w B v L) {y : AV} (hy : y ∈ L) : GoodV w v.ownBlock y := ⟨h.nums y hy, h.far y hy, h.nil y hy⟩

theorem OwnV.avAt {w : World} {B g cap : Nat} {L : List AV} (h : OwnV w B (.slice (some ⟨g, 0, none⟩) L.length cap) L) {i : Nat} (hi : i < L.length) : AvAt w ⟨g, i * 3, none⟩ L[i] := by
  obtain ⟨ao, c2, e, r, _⟩ := h.read
  injection e with e1 _ _
  subst e1
  obtain ⟨a, ea, c⟩ := r.at_ i hi
  cases ea
  rw [addr_add, Nat.zero_add] at c
  exact c

theorem OwnV.there {w : World} {B g cap : Nat} {L : List AV} (h : OwnV w B (.slice (some ⟨g, 0, none⟩) L.length cap) L) {i : Nat} (hi : i < L.length) : w.there g (i * 3) 3 := fun j hj => by
  have hc := World.ownsRow.cellAt (g := g) (cap := cap) h.row (i * 3 + j) (by omega)
  refine ⟨?_, World.ownsRow.frozenAt h.row _⟩
  rw [hc]
  rw [vflat_at hi hj]
  match j, hj with
  | 0, _ => rfl
  | 1, _ => rfl
  | 2, _ => rfl

theorem shift_set {O : List AV} {i : Nat} (h : i < O.length) (z : AV) : (O.take (i + 1) ++ z :: O.drop (i + 1)).set (i + 1) O[i] = O.take i ++ O[i] :: O.drop i := by
  have hl : (O.take (i + 1)).length = i + 1 := by simp; omega
  rw [List.set_append_right _ _ (by omega), hl, Nat.sub_self, List.set_cons_zero, List.take_succ_eq_append_getElem h, List.append_assoc, List.singleton_append, List.drop_eq_getElem_cons h]

theorem shift_at {O : List AV} {i : Nat} (h : i < O.length) (z : AV) (hq : i < (O.take (i + 1) ++ z :: O.drop (i + 1)).length) : (O.take (i + 1) ++ z :: O.drop (i + 1))[i] = O[i] := by
  rw [List.getElem_append_left (by simp; omega), List.getElem_take]

theorem shift_last {O : List AV} {k : Nat} (h : k ≤ O.length) (z X : AV) : (O.take k ++ z :: O.drop k).set k X = O.take k ++ X :: O.drop k := by
  have hl : (O.take k).length = k := by simp; omega
  rw [List.set_append_right _ _ (by omega), hl, Nat.sub_self, List.set_cons_zero]

theorem over_no {x y : Ln} (h : ¬ x.b < y.b) (k : x.b = y.b → x.s = false) : x.over y = false := by
  unfold Ln.over
  rw [decide_eq_false h]
  by_cases q : x.b = y.b
  · rw [k q]; simp
  · simp [q]

theorem grownT {w w1 w2 : World} {r : Option Nat} (h : w.grownBy w1 r) (k : w1.grownBy w2 r) : w.grownBy w2 r := ⟨k.os.trans h.os, k.tape.trans h.tape, k.output.trans h.output, Nat.le_trans h.size k.size, fun j hj hn => (k.block j (Nat.lt_of_lt_of_le hj h.size) hn).trans (h.block j hj hn)⟩

theorem insL_len (k : List Ln) : (insL k).length ≤ k.length := by
  suffices h : ∀ n, n ≤ k.length → (insL (k.take n)).length ≤ n by
    have := h k.length (Nat.le_refl _); rwa [List.take_length] at this
  intro n
  induction n with
  | zero => intro _; simp [insL]
  | succ n ih =>
    intro hn
    rw [List.take_succ_eq_append_getElem (show n < k.length by omega), insL_snoc]
    have : ∀ (x : Ln) (l : List Ln), (insN x l).length ≤ l.length + 1 := by
      intro x l
      induction l with
      | nil => simp [insN]
      | cons y r ihr => unfold insN; (repeat' split) <;> simp <;> omega
    have h1 := this k[n] (insL (k.take n))
    have h2 := ih (by omega)
    omega

def TRes (w : World) (l : List Ln) (e : Ending) (w' : World) : Prop := ∃ v R, e = .returned v ∧ OwnV w' w.heap.size v R ∧ R.map lnV = l ∧ Below w.heap.size w w'

def Fr (B : Nat) (O : List AV) : Prop := ∀ y ∈ O, ∀ p, y.q = some p → B ≤ p.block

theorem fr_set {B k : Nat} {O : List AV} {X : AV} (h : Fr B O) (hX : ∀ p, X.q = some p → B ≤ p.block) : Fr B (O.set k X) := fun y hy => by
  rcases List.mem_or_eq_of_mem_set hy with q | q
  · exact h y q
  · rw [q]; exact hX

theorem fr_ins {B k : Nat} {O : List AV} {X : AV} (h : Fr B O) (hX : ∀ p, X.q = some p → B ≤ p.block) : Fr B (O.take k ++ X :: O.drop k) := fun y hy => by
  rcases List.mem_append.1 hy with q | q
  · exact h y (List.mem_of_mem_take q)
  · rcases List.mem_cons.1 q with q | q
    · rw [q]; exact hX
    · exact h y (List.mem_of_mem_drop q)

def TResF (w : World) (l : List Ln) (e : Ending) (w' : World) : Prop := ∃ v R, e = .returned v ∧ OwnV w' w.heap.size v R ∧ R.map lnV = l ∧ Fr w.heap.size R ∧ Below w.heap.size w w'

set_option maxRecDepth 100000 in
set_option maxHeartbeats 8000000 in
theorem rtidyF_any (n : Nat) (L : List AV) (ao : Option Addr) (cap : Nat) (w : World) (hn : n ≤ 100) (hl : L.length ≤ 100000) (hR : RdV w ao L) (hY : ∀ y ∈ L, y.a.length = n ∧ NilOk y ∧ (∀ v ∈ y.a, A63 v) ∧ A63 y.b) :
    Calls Tryz.prog 73 #[.int .i64 n, .slice ao L.length cap] w (TResF w (tidR n (L.map lnV))) := by
  obtain ⟨m, hm⟩ : ∃ m, m = L.length := ⟨_, rfl⟩
  have HM := Lib.hid hm
  have HR := Lib.hid hR
  have HY := Lib.hid hY
  have hle : m ≤ 100000 := by omega
  obtain ⟨T, hT⟩ : ∃ T, T = tidR n (L.map lnV) := ⟨_, rfl⟩
  have HT := Lib.hid hT
  have MK := Lib.hid (fun W => make_ints W n (by omega))
  have N100 := Lib.hid hn
  have hz := av_zero
  rw [← hT, ← hm]
  clear hl hR hY hT hm
  go_enter Tryz.func73, Tryz.ntmps73
  go_wp2_with fail
  go_loopw [5, 6] (fun v s wr => ∃ t : Nat, s = .int .i64 t ∧ t ≤ m ∧ Hid (badR ((L.map lnV).take t) = false) ∧ Hid (∃ O, OwnV wr w.heap.size v O ∧ O.map lnV = insL (keepR ((L.map lnV).take t)) ∧ Fr w.heap.size O) ∧ Hid (Below w.heap.size w wr)) (fun _ s _ => m - (intOf s).toNat)
  case atStart => exact ⟨0, rfl, by omega, Lib.hid rfl, Lib.hid ⟨[], OwnV.empty _ _, rfl, fun y h => by simp at h⟩, Lib.hid (Below.refl _ _)⟩
  case round =>
    obtain ⟨t, rfl, ht, HF, HO, HB⟩ := hrel
    by_cases htm : t < m
    · have hlt : t < L.length := by have := HM.out; omega
      obtain ⟨p, hp, c0⟩ := (HR.out.on HB.out).at_ t hlt
      obtain ⟨y, hy⟩ : ∃ y, y = L[t] := ⟨_, rfl⟩
      have hmem := List.getElem_mem hlt
      rw [← hy] at c0 hmem
      have C0 := Lib.hid c0
      have YY := Lib.hid (HY.out y hmem)
      have YN := Lib.hid ((HR.out.on HB.out).nums y hmem)
      have hlm : t < (L.map lnV).length := by simpa using hlt
      have KS := Lib.hid (show keepR ((L.map lnV).take (t + 1)) = keepR ((L.map lnV).take t) ++ (if zeroA (lnV y).lowR then [] else [(lnV y).lowR]) by rw [keepR_snoc hlm]; simp [hy])
      have BS := Lib.hid (show badR ((L.map lnV).take (t + 1)) = (zeroA (lnV y).lowR && decide ((lnV y).lowR.lim ≤ 0)) by
        have h := HF.out
        unfold badR at h ⊢
        rw [List.take_succ_eq_append_getElem hlm, List.any_append, h]; simp [hy])
      have BT := Lib.hid (show (zeroA (lnV y).lowR && decide ((lnV y).lowR.lim ≤ 0)) = true → T = [⟨List.replicate n 0, 0, true⟩] from fun h => by
        rw [HT.out]; unfold tidR
        rw [if_pos]
        unfold badR
        rw [List.any_eq_true]
        exact ⟨lnV y, List.mem_map.2 ⟨y, hmem, rfl⟩, h⟩)
      obtain ⟨O, hO, eO, fO⟩ := HO.out
      have FO := Lib.hid fO
      have OL := Lib.hid (show O.length ≤ t by
        have h1 := congrArg List.length eO
        rw [List.length_map] at h1
        rw [h1]
        refine Nat.le_trans (insL_len _) ?_
        unfold keepR
        refine Nat.le_trans (List.length_filter_le _ _) ?_
        simp; omega)
      have OW := Lib.hid hO
      have EO := Lib.hid eO
      obtain ⟨K, hK⟩ : ∃ K, K = keepR ((L.map lnV).take t) := ⟨_, rfl⟩
      have KA := Lib.hid (show ∀ z ∈ K, z.a.length = n from fun z hz' => by
        rw [hK] at hz'
        unfold keepR at hz'
        obtain ⟨h1, _⟩ := List.mem_filter.1 hz'
        obtain ⟨u, hu, rfl⟩ := List.mem_map.1 h1
        rw [lowR_len]
        obtain ⟨y', hy', rfl⟩ := List.mem_map.1 (List.mem_of_mem_take hu)
        exact (HY.out y' hy').1)
      rw [← hK] at EO KS
      have LEN := Lib.hid (show (lnV y).lowR.a.length = n by rw [lowR_len]; exact YY.out.1)
      obtain ⟨x, hx⟩ : ∃ x, x = (lnV y).lowR := ⟨_, rfl⟩
      have LO := Lib.hid (rlowest_any y wr (by have := YY.out.1; omega) YN.out YY.out.2.1 YY.out.2.2.1 YY.out.2.2.2)
      rw [← hx] at KS BS BT LEN LO
      have HTN := Lib.hid htm
      subst hp
      clear c0 hmem hlm hlt hy hO eO fO HO hK hx
      go_wp2_with (refine wpl_loadV rfl _ rfl _ rfl y C0.out ?_)
      refine LO.out.mono ?_
      rintro e w1 ⟨g, cg, rfl, hg, hb⟩
      obtain ⟨X, hX⟩ : ∃ X, X = AV.mk (some ⟨g, 0, none⟩) cg x.a x.b x.s := ⟨_, rfl⟩
      have XC := Lib.hid hX
      have FX := Lib.hid (show ∀ p, X.q = some p → w.heap.size ≤ p.block from fun p e => by rw [hX] at e; cases e; exact Nat.le_trans HB.out.size hg.lt.1)
      rw [← hX]
      have N1 := Lib.hid (show BkV (w1.alloc (.cells av0.cs 25)) w1.heap.size av0 from BkV.made w1 av0)
      have N2 := Lib.hid (N1.out.setRow (z := X))
      have B2 := Lib.hid (Below.setRow ((Below.refl w1.heap.size w1).alloc (Nat.le_refl _) (.cells av0.cs 25)) (b := w1.heap.size) (Nat.le_refl _) X.cs)
      have OW1 := Lib.hid (OW.out.on hb)
      have HB1 := Lib.hid (below_on HB.out hb)
      have G1 := Lib.hid hg
      have GZ := Lib.hid (show wr.heap.size ≤ g ∧ g < w1.heap.size from hg.lt)
      have OB := Lib.hid (fun b (e : (v : Value) → v.ownBlock = some b → True) => trivial)
      have OBB := Lib.hid (fun b hb' => (World.ownsRow.lt OW.out.row b hb').2)
      clear OB
      clear hX hg hb OW HB YN LO C0
      go_upto_region 6 with (refine wpl_storeV rfl _ _ rfl _ X rfl rfl _ N1.out ?_)
      generalize (w1.alloc (.cells av0.cs 25)).setRow w1.heap.size X.cs = w2 at *
      obtain ⟨q7, hq7⟩ : ∃ q7, q7 = w1.heap.size := ⟨_, rfl⟩
      have OW2 := Lib.hid (OW1.out.on B2.out)
      have HB2 := Lib.hid (below_on HB1.out B2.out)
      have G2 := Lib.hid (G1.out.on B2.out)
      have Z7 := Lib.hid (show wr.heap.size ≤ g ∧ g < q7 ∧ w.heap.size ≤ q7 ∧ q7 < w2.heap.size by have := GZ.out; have h2 := HB1.out.size; have h3 := N2.out.lt; omega)
      rw [← hq7] at N2 ⊢
      obtain ⟨f0, f1, f2⟩ := N2.out.facts
      rw [XC.out] at f0 f1 f2
      simp only at f0 f1 f2
      rw [LEN.out] at f0
      have F0 := Lib.hid f0
      have F1 := Lib.hid f1
      have F2 := Lib.hid f2
      clear N1 B2 OW1 HB1 G1 GZ hq7
      have RZ := Lib.hid (rzero_any x.a (some ⟨g, 0, none⟩) cg w2 (by have := LEN.out; have := N100.out; omega) G2.out.rd)
      rw [LEN.out] at RZ
      go_wp2_with fail
      refine RZ.out.mono ?_
      rintro e w3 ⟨rfl, rfl⟩
      clear RZ
      have ZX : x.a.all (· == 0) = zeroA x := rfl
      rw [ZX]
      clear ZX
      cases hzx : zeroA x
      rotate_left
      · rw [hzx] at KS BS BT
        have KN := Lib.hid (show keepR ((L.map lnV).take (t + 1)) = K by rw [KS.out]; simp)
        by_cases h1 : x.b < 0
        · have TB := Lib.hid (BT.out (by simp; unfold Ln.lim; split <;> omega))
          have Y1 := Lib.hid (show GoodV (w3.alloc (.cells (Array.replicate n (Value.int .i64 0)) 2)) none (AV.mk (some ⟨w3.heap.size, 0, none⟩) n (List.replicate n 0) 0 true) from
            ⟨fun u hu => ⟨_, rfl, by rw [addr_add, Nat.zero_add, cell_of_row _ w3.heap.size u _ _ _ (heap_alloc_last w3 _)]; simp at hu; simp [gA, hu]⟩, fun p e => ⟨by simp, by cases e; simp⟩, fun e => by (cases e), by simp, by have := N100.out; show n ≤ maxLen; unfold maxLen; omega⟩)
          have YO := Lib.hid (show OwnV ((w3.alloc (.cells (Array.replicate n (Value.int .i64 0)) 2)).alloc (.cells (AV.mk (some ⟨w3.heap.size, 0, none⟩) n (List.replicate n 0) 0 true).cs 25)) w.heap.size (.slice (some ⟨w3.heap.size + 1, 0, none⟩) 1 1) [AV.mk (some ⟨w3.heap.size, 0, none⟩) n (List.replicate n 0) 0 true] by have := own_one (w3.alloc (.cells (Array.replicate n (Value.int .i64 0)) 2)) _ w.heap.size (Nat.le_trans HB2.out.size (by simp)) Y1.out; simpa using this)
          have YB := Lib.hid (show Below w.heap.size w ((w3.alloc (.cells (Array.replicate n (Value.int .i64 0)) 2)).alloc (.cells (AV.mk (some ⟨w3.heap.size, 0, none⟩) n (List.replicate n 0) 0 true).cs 25)) from below_on HB2.out (past_two (Below.refl _ _)))
          have TBB := Lib.hid (show ([AV.mk (some ⟨w3.heap.size, 0, none⟩) n (List.replicate n 0) 0 true] : List AV).map lnV = T by rw [TB.out]; rfl)
          go_wp2_with (first | rw [MK.out] | refine wpl_bv1 rfl _ rfl (AV.mk (some ⟨w3.heap.size, 0, none⟩) n (List.replicate n 0) 0 true) (by simp [AV.cs, AV.cells, Act.eval, av0]) ?_)
          go_ret
          exact ⟨.slice (some ⟨w3.heap.size + 1, 0, none⟩) 1 1, _, rfl, YO.out, TBB.out, fun y hy p e => by (rw [List.mem_singleton] at hy; subst hy; cases e; exact HB2.out.size), YB.out⟩
        · by_cases h2 : x.b = 0
          · have e2 : (x.b == 0) = true := by simpa using h2
            obtain ⟨xs, hxs⟩ : ∃ xs, xs = x.s := ⟨_, rfl⟩
            cases xs
            · rw [← hxs] at f2
              have HXS := Lib.hid hxs
              have H2 := Lib.hid h2
              clear hxs h2
              have FB := Lib.hid (show badR ((L.map lnV).take (t + 1)) = false by rw [BS.out]; simp; unfold Ln.lim; rw [← HXS.out, if_neg (by simp)]; have := H2.out; omega)
              go_wp2_with fail
              go_roundw
              case rel => exact ⟨t + 1, by go_num, by omega, FB, Lib.hid ⟨O, OW2.out, by rw [KN.out]; exact EO.out, FO.out⟩, HB2⟩
              case measure => simp [intOf]; omega
            · rw [← hxs] at f2
              have TB := Lib.hid (BT.out (by simp; unfold Ln.lim; rw [← hxs]; simp; omega))
              clear hxs h2
              have Y1 := Lib.hid (show GoodV (w3.alloc (.cells (Array.replicate n (Value.int .i64 0)) 2)) none (AV.mk (some ⟨w3.heap.size, 0, none⟩) n (List.replicate n 0) 0 true) from
                ⟨fun u hu => ⟨_, rfl, by rw [addr_add, Nat.zero_add, cell_of_row _ w3.heap.size u _ _ _ (heap_alloc_last w3 _)]; simp at hu; simp [gA, hu]⟩, fun p e => ⟨by simp, by cases e; simp⟩, fun e => by (cases e), by simp, by have := N100.out; show n ≤ maxLen; unfold maxLen; omega⟩)
              have YO := Lib.hid (show OwnV ((w3.alloc (.cells (Array.replicate n (Value.int .i64 0)) 2)).alloc (.cells (AV.mk (some ⟨w3.heap.size, 0, none⟩) n (List.replicate n 0) 0 true).cs 25)) w.heap.size (.slice (some ⟨w3.heap.size + 1, 0, none⟩) 1 1) [AV.mk (some ⟨w3.heap.size, 0, none⟩) n (List.replicate n 0) 0 true] by have := own_one (w3.alloc (.cells (Array.replicate n (Value.int .i64 0)) 2)) _ w.heap.size (Nat.le_trans HB2.out.size (by simp)) Y1.out; simpa using this)
              have YB := Lib.hid (show Below w.heap.size w ((w3.alloc (.cells (Array.replicate n (Value.int .i64 0)) 2)).alloc (.cells (AV.mk (some ⟨w3.heap.size, 0, none⟩) n (List.replicate n 0) 0 true).cs 25)) from below_on HB2.out (past_two (Below.refl _ _)))
              have TBB := Lib.hid (show ([AV.mk (some ⟨w3.heap.size, 0, none⟩) n (List.replicate n 0) 0 true] : List AV).map lnV = T by rw [TB.out]; rfl)
              go_wp2_with (first | rw [MK.out] | refine wpl_bv1 rfl _ rfl (AV.mk (some ⟨w3.heap.size, 0, none⟩) n (List.replicate n 0) 0 true) (by simp [AV.cs, AV.cells, Act.eval, av0]) ?_)
              go_ret
              exact ⟨.slice (some ⟨w3.heap.size + 1, 0, none⟩) 1 1, _, rfl, YO.out, TBB.out, fun y hy p e => by (rw [List.mem_singleton] at hy; subst hy; cases e; exact HB2.out.size), YB.out⟩
          · have e2 : (x.b == 0) = false := by simpa using h2
            have H2 := Lib.hid h2
            have H1 := Lib.hid h1
            clear h2
            have FB := Lib.hid (show badR ((L.map lnV).take (t + 1)) = false by rw [BS.out]; simp; unfold Ln.lim; have := H2.out; have := H1.out; split <;> omega)
            go_wp2_with fail
            go_roundw
            case rel => exact ⟨t + 1, by go_num, by omega, FB, Lib.hid ⟨O, OW2.out, by rw [KN.out]; exact EO.out, FO.out⟩, HB2⟩
            case measure => simp [intOf]; omega
      · rw [hzx] at KS BS
        have FB := Lib.hid (show badR ((L.map lnV).take (t + 1)) = false by rw [BS.out]; rfl)
        have KN := Lib.hid (show keepR ((L.map lnV).take (t + 1)) = K ++ [x] by rw [KS.out]; simp)
        clear KS BS BT hzx
        obtain ⟨ao2, cp2, rfl, rd2, rf2⟩ := OW2.out.read
        obtain ⟨N, hN⟩ : ∃ N, N = O.length := ⟨_, rfl⟩
        have HN := Lib.hid hN
        have NL := Lib.hid (show N ≤ 100000 by have := OL.out; omega)
        have nle := NL.out
        have EL := Lib.hid (show ∀ i, ∀ h : i < O.length, O[i].a.length = n from fun i h => by
          have h1 : lnV O[i] ∈ insL K := by rw [← EO.out]; exact List.mem_map.2 ⟨_, List.getElem_mem h, rfl⟩
          exact KA.out _ (((insL_ok K).2 _).1 h1).1)
        have AL := Lib.hid (show ∀ i, ∀ h : i < O.length, ∃ b0, ao2 = some ⟨b0, 0, none⟩ ∧ AvAt w3 ⟨b0, i * 3, none⟩ O[i] from fun i h => by
          obtain ⟨a, e, c⟩ := rd2.at_ i h
          obtain ⟨_, h2, h3⟩ := rf2 a e
          obtain ⟨ab, ax, asp⟩ := a
          simp only at h2 h3
          subst h2 h3
          rw [addr_add, Nat.zero_add] at c
          exact ⟨ab, e, c⟩)
        have EN := Lib.hid rd2.nums
        rw [← hN]
        clear rd2 rf2 hN
        obtain ⟨w4, hw4⟩ : ∃ w4, w4 = w3 := ⟨_, rfl⟩
        rw [← hw4] at N2 OW2 HB2 G2 Z7 f0 f1 f2 F0 F1 F2 AL EN ⊢
        clear hw4
        go_wp2_with fail
        go_loopw [8] (fun s wr => ∃ k : Nat, s = .int .i64 k ∧ k ≤ N ∧ Hid (∀ i, ∀ h : i < O.length, i < k → cmpL O[i].a x.a < 0) ∧ ∃ j, wr = w4.drewN j) (fun s _ => N - (intOf s).toNat)
        case atStart => exact ⟨0, rfl, by omega, Lib.hid (fun i h h' => by omega), 0, rfl⟩
        case round =>
          obtain ⟨k, rfl, hk, HK, j, rfl⟩ := hrel
          by_cases hkN : k < N
          · have hkO : k < O.length := by rw [← HN.out]; exact hkN
            obtain ⟨b0, ea, ca⟩ := AL.out k hkO
            obtain ⟨z, hzz⟩ : ∃ z, z = O[k] := ⟨_, rfl⟩
            have ZM := Lib.hid (show z ∈ O by rw [hzz]; exact List.getElem_mem hkO)
            have ZL := Lib.hid (show z.a.length = n by rw [hzz]; exact EL.out k hkO)
            have ZE := Lib.hid (show ∀ h : k < O.length, z = O[k] from fun _ => hzz)
            rw [← hzz] at ca
            have CA := Lib.hid ca
            have z0 := Lib.hid (show w4.cell? ⟨b0, k * 3, none⟩ = some (.slice z.q n z.c) by have := ca 0 _ rfl; rw [addr_add, Nat.add_zero] at this; rw [this, ZL.out])
            have z1 := Lib.hid (show w4.cell? ⟨b0, k * 3 + 1, none⟩ = some (.int .i64 z.b) by have := ca 1 _ rfl; rwa [addr_add] at this)
            have ZR := Lib.hid (EN.out z ZM.out)
            obtain ⟨r, hr0⟩ : ∃ r, r = cmpL z.a x.a := ⟨_, rfl⟩
            have RR := Lib.hid hr0
            have OR := Lib.hid (fun W (h : Below w4.heap.size w4 W) => rorder_any z.a x.a z.q (some ⟨g, 0, none⟩) z.c cg W (by have := ZL.out; have := N100.out; omega) (by rw [ZL.out, LEN.out]) (ZR.out.on h) (G2.out.rd.on h))
            rw [ZL.out, LEN.out, ← hr0] at OR
            have EAA := Lib.hid ea
            subst ea
            clear ca hzz hr0 hkO
            obtain ⟨wp, hwp⟩ : ∃ wp, wp = w4.drewN j := ⟨_, rfl⟩
            have DP := Lib.hid (show ∃ j, wp = w4.drewN j by rw [hwp]; exact ⟨j, rfl⟩)
            have BP := Lib.hid (show Below w4.heap.size w4 wp by obtain ⟨a, ha⟩ := DP.out; rw [ha]; exact below_drewN (Below.refl _ _) a)
            rw [← hwp]
            clear hwp
            go_wp2_with fail
            have KS := Lib.hid (show ∀ W, Below wp.heap.size wp W → (W.cell? ⟨q7, 0, none⟩ = some (.slice (some ⟨g, 0, none⟩) n cg) ∧ W.cell? ⟨b0, k * 3, none⟩ = some (.slice z.q n z.c)) from fun W h => ⟨kept h (kept BP.out F0.out), kept h (kept BP.out z0.out)⟩)
            obtain ⟨wc, hwc⟩ : ∃ wc, wc = wp.drew := ⟨_, rfl⟩
            have Bc := Lib.hid (show Below wp.heap.size wp wc by rw [hwc]; exact (Below.refl _ _).drew)
            have DW := Lib.hid (show ∃ j, wc = w4.drewN j by obtain ⟨a, ha⟩ := DP.out; exact ⟨a + 1, by rw [hwc, ha]; exact World.drewN_drewN w4 a 1⟩)
            refine wp_region_held_drew (S := (fun W => (W.cell? ⟨q7, 0, none⟩ = some (.slice (some ⟨g, 0, none⟩) n cg) ∧ W.cell? ⟨b0, k * 3, none⟩ = some (.slice z.q n z.c)))) (by kernel_rfl) (by rw [← hwc]; exact KS.out _ Bc.out) (fun h0 => ?_)
            rw [← hwc] at h0 ⊢
            clear hwc
            refine tkH (i := 0) (v := ?v13) rfl (Or.inl ⟨by rfl, ?hy13⟩) h0 ?rest13
            case hy13 => (intro w' hS; (try dsimp only at hS); go_simp; try (with_reducible rfl))
            simp only [Act.put, sA, sB, sD, sE, sF]
            refine tkH (i := 1) (v := ?v14) rfl (Or.inl ⟨by rfl, ?hy14⟩) h0 ?rest14
            case hy14 => (intro w' hS; (try dsimp only at hS); go_simp; try (with_reducible rfl))
            simp only [Act.put, sZ]
            refine tkH (i := 2) (v := ?v15) rfl (Or.inl ⟨by rfl, ?hy15⟩) h0 ?rest15
            case hy15 => (intro w' hS; (try dsimp only at hS); go_simp; try (with_reducible rfl))
            simp only [Act.put, sZ]
            refine tkH (i := 3) (v := ?v16) rfl (Or.inl ⟨by rfl, ?hy16⟩) h0 ?rest16
            case hy16 => (intro w' hS; (try dsimp only at hS); go_simp; try (with_reducible rfl))
            simp only [Act.put, sZ]
            refine tkH (i := 4) (v := ?v17) rfl (Or.inl ⟨by rfl, ?hy17⟩) h0 ?rest17
            case hy17 => (intro w' hS; (try dsimp only at hS); go_simp; try (with_reducible rfl))
            simp only [Act.put, sZ]
            refine tkH (i := 5) (v := ?v18) rfl (Or.inl ⟨by rfl, ?hy18⟩) h0 ?rest18
            case hy18 => (intro w' hS; (try dsimp only at hS); go_simp; try (with_reducible rfl))
            simp only [Act.put, sZ]
            refine tkH (i := 6) (v := ?v19) rfl (Or.inl ⟨by rfl, ?hy19⟩) h0 ?rest19
            case hy19 => (intro w' hS; (try dsimp only at hS); go_simp; try (with_reducible rfl))
            simp only [Act.put, sZ]
            refine tkH (i := 7) (v := ?v20) rfl (Or.inl ⟨by rfl, ?hy20⟩) h0 ?rest20
            case hy20 => (intro w' hS; (try dsimp only at hS); go_simp; try (with_reducible rfl))
            simp only [Act.put, sZ]
            refine tkH (i := 8) (v := ?v21) rfl (Or.inl ⟨by rfl, ?hy21⟩) h0 ?rest21
            case hy21 => (intro w' hS; (try dsimp only at hS); go_simp; try (with_reducible rfl))
            simp only [Act.put, sZ]
            refine tkH (i := 9) (v := ?v22) rfl (Or.inl ⟨by rfl, ?hy22⟩) h0 ?rest22
            case hy22 => (intro w' hS; (try dsimp only at hS); go_simp; try (with_reducible rfl))
            simp only [Act.put, sZ]
            refine tkH (i := 10) (v := ?v23) rfl (Or.inl ⟨by rfl, ?hy23⟩) h0 ?rest23
            case hy23 => (intro w' hS; (try dsimp only at hS); go_simp; try (with_reducible rfl))
            simp only [Act.put, sZ]
            refine tkH (i := 11) (v := ?v24) rfl (Or.inl ⟨by rfl, ?hy24⟩) h0 ?rest24
            case hy24 => (intro w' hS; (try dsimp only at hS); go_simp; try (with_reducible rfl))
            simp only [Act.put, sZ]
            refine wpAnyH_ready (rs := [12]) (by kernel_rfl) (by simp) (AllReadyH.cons rfl (fun K hK => ?_) AllReadyH.nil)
            rw [if_pos (by rfl)]
            go_simp
            refine (OR.out wc (BP.out.trans (Bc.out.mono BP.out.size))).mono ?_
            rintro e wd ⟨rfl, j3, hwd⟩
            have DW := Lib.hid (show ∃ j, wd = w4.drewN j by obtain ⟨a, ha⟩ := DW.out; exact ⟨a + j3, by rw [hwd, ha]; exact World.drewN_drewN w4 a j3⟩)
            have Bc := Lib.hid (show Below wp.heap.size wp wd by rw [hwd]; exact below_drewN Bc.out j3)
            clear hwd
            obtain ⟨wc, hwc⟩ : ∃ wc, wc = wd := ⟨_, rfl⟩
            rw [← hwc] at DW Bc ⊢
            clear hwc
            go_simp
            refine hK.out _ _ (KS.out _ Bc.out) (fun h0_1 => ?_)
            clear hK K h0
            refine tkH (i := 13) (v := ?v25) rfl (Or.inl ⟨by rfl, ?hy25⟩) h0_1 ?rest25
            case hy25 => (intro w' hS; (try dsimp only at hS); go_simp; try (with_reducible rfl))
            simp only [Act.put, sZ]
            refine tkH (i := 14) (v := ?v26) rfl (Or.inl ⟨by rfl, ?hy26⟩) h0_1 ?rest26
            case hy26 => (intro w' hS; (try dsimp only at hS); go_simp; try (with_reducible rfl))
            simp only [Act.put, sA, sB, sC, sD]
            try simp only [sF]
            try simp only [sE]
            refine wpAnyH_done (by kernel_rfl) ?_ _
            by_cases hr : r < 0
            · have HK' := Lib.hid (show ∀ i, ∀ h : i < O.length, i < k + 1 → cmpL O[i].a x.a < 0 from fun i h hi => by
                by_cases e : i = k
                · subst e; rw [← ZE.out h, ← RR.out]; exact hr
                · exact HK.out i h (by omega))
              obtain ⟨a, ha⟩ := DW.out
              go_wp2_with fail
              go_roundw
              case rel => exact ⟨k + 1, by go_num, by omega, HK', a, rfl⟩
              case measure => simp [intOf]; omega
            · have HR := Lib.hid hr
              obtain ⟨wp, hwp⟩ : ∃ wp, wp = wc := ⟨_, rfl⟩
              have DP := Lib.hid (show ∃ j, wp = w4.drewN j by rw [hwp]; exact DW.out)
              have BP := Lib.hid (show Below w4.heap.size w4 wp by obtain ⟨a, ha⟩ := DP.out; rw [ha]; exact below_drewN (Below.refl _ _) a)
              rw [← hwp]
              clear hwp
              go_wp2_with fail
              have KS := Lib.hid (show ∀ W, Below wp.heap.size wp W → (W.cell? ⟨q7, 0, none⟩ = some (.slice (some ⟨g, 0, none⟩) n cg) ∧ W.cell? ⟨b0, k * 3, none⟩ = some (.slice z.q n z.c)) from fun W h => ⟨kept h (kept BP.out F0.out), kept h (kept BP.out z0.out)⟩)
              obtain ⟨wc, hwc⟩ : ∃ wc, wc = wp.drew := ⟨_, rfl⟩
              have Bc := Lib.hid (show Below wp.heap.size wp wc by rw [hwc]; exact (Below.refl _ _).drew)
              have DW := Lib.hid (show ∃ j, wc = w4.drewN j by obtain ⟨a, ha⟩ := DP.out; exact ⟨a + 1, by rw [hwc, ha]; exact World.drewN_drewN w4 a 1⟩)
              refine wp_region_held_drew (S := (fun W => (W.cell? ⟨q7, 0, none⟩ = some (.slice (some ⟨g, 0, none⟩) n cg) ∧ W.cell? ⟨b0, k * 3, none⟩ = some (.slice z.q n z.c)))) (by kernel_rfl) (by rw [← hwc]; exact KS.out _ Bc.out) (fun h0 => ?_)
              rw [← hwc] at h0 ⊢
              clear hwc
              refine tkH (i := 0) (v := ?v27) rfl (Or.inl ⟨by rfl, ?hy27⟩) h0 ?rest27
              case hy27 => (intro w' hS; (try dsimp only at hS); go_simp; try (with_reducible rfl))
              simp only [Act.put, sA, sB, sD, sE, sF]
              refine tkH (i := 1) (v := ?v28) rfl (Or.inl ⟨by rfl, ?hy28⟩) h0 ?rest28
              case hy28 => (intro w' hS; (try dsimp only at hS); go_simp; try (with_reducible rfl))
              simp only [Act.put, sZ]
              refine tkH (i := 2) (v := ?v29) rfl (Or.inl ⟨by rfl, ?hy29⟩) h0 ?rest29
              case hy29 => (intro w' hS; (try dsimp only at hS); go_simp; try (with_reducible rfl))
              simp only [Act.put, sZ]
              refine tkH (i := 3) (v := ?v30) rfl (Or.inl ⟨by rfl, ?hy30⟩) h0 ?rest30
              case hy30 => (intro w' hS; (try dsimp only at hS); go_simp; try (with_reducible rfl))
              simp only [Act.put, sZ]
              refine tkH (i := 4) (v := ?v31) rfl (Or.inl ⟨by rfl, ?hy31⟩) h0 ?rest31
              case hy31 => (intro w' hS; (try dsimp only at hS); go_simp; try (with_reducible rfl))
              simp only [Act.put, sZ]
              refine tkH (i := 5) (v := ?v32) rfl (Or.inl ⟨by rfl, ?hy32⟩) h0 ?rest32
              case hy32 => (intro w' hS; (try dsimp only at hS); go_simp; try (with_reducible rfl))
              simp only [Act.put, sZ]
              refine tkH (i := 6) (v := ?v33) rfl (Or.inl ⟨by rfl, ?hy33⟩) h0 ?rest33
              case hy33 => (intro w' hS; (try dsimp only at hS); go_simp; try (with_reducible rfl))
              simp only [Act.put, sZ]
              refine tkH (i := 7) (v := ?v34) rfl (Or.inl ⟨by rfl, ?hy34⟩) h0 ?rest34
              case hy34 => (intro w' hS; (try dsimp only at hS); go_simp; try (with_reducible rfl))
              simp only [Act.put, sZ]
              refine tkH (i := 8) (v := ?v35) rfl (Or.inl ⟨by rfl, ?hy35⟩) h0 ?rest35
              case hy35 => (intro w' hS; (try dsimp only at hS); go_simp; try (with_reducible rfl))
              simp only [Act.put, sZ]
              refine tkH (i := 9) (v := ?v36) rfl (Or.inl ⟨by rfl, ?hy36⟩) h0 ?rest36
              case hy36 => (intro w' hS; (try dsimp only at hS); go_simp; try (with_reducible rfl))
              simp only [Act.put, sZ]
              refine tkH (i := 10) (v := ?v37) rfl (Or.inl ⟨by rfl, ?hy37⟩) h0 ?rest37
              case hy37 => (intro w' hS; (try dsimp only at hS); go_simp; try (with_reducible rfl))
              simp only [Act.put, sZ]
              refine tkH (i := 11) (v := ?v38) rfl (Or.inl ⟨by rfl, ?hy38⟩) h0 ?rest38
              case hy38 => (intro w' hS; (try dsimp only at hS); go_simp; try (with_reducible rfl))
              simp only [Act.put, sZ]
              refine wpAnyH_ready (rs := [12]) (by kernel_rfl) (by simp) (AllReadyH.cons rfl (fun K hK => ?_) AllReadyH.nil)
              rw [if_pos (by rfl)]
              go_simp
              refine (OR.out wc (BP.out.trans (Bc.out.mono BP.out.size))).mono ?_
              rintro e wd ⟨rfl, j3, hwd⟩
              have DW := Lib.hid (show ∃ j, wd = w4.drewN j by obtain ⟨a, ha⟩ := DW.out; exact ⟨a + j3, by rw [hwd, ha]; exact World.drewN_drewN w4 a j3⟩)
              have Bc := Lib.hid (show Below wp.heap.size wp wd by rw [hwd]; exact below_drewN Bc.out j3)
              clear hwd
              obtain ⟨wc, hwc⟩ : ∃ wc, wc = wd := ⟨_, rfl⟩
              rw [← hwc] at DW Bc ⊢
              clear hwc
              go_simp
              refine hK.out _ _ (KS.out _ Bc.out) (fun h0_1 => ?_)
              clear hK K h0
              refine tkH (i := 13) (v := ?v39) rfl (Or.inl ⟨by rfl, ?hy39⟩) h0_1 ?rest39
              case hy39 => (intro w' hS; (try dsimp only at hS); go_simp; try (with_reducible rfl))
              simp only [Act.put, sZ]
              refine tkH (i := 14) (v := ?v40) rfl (Or.inl ⟨by rfl, ?hy40⟩) h0_1 ?rest40
              case hy40 => (intro w' hS; (try dsimp only at hS); go_simp; try (with_reducible rfl))
              simp only [Act.put, sA, sB, sC, sD]
              try simp only [sF]
              try simp only [sE]
              refine wpAnyH_done (by kernel_rfl) ?_ _
              by_cases hr0 : r = 0
              · have hl : k < (O.map lnV).length := by rw [List.length_map, ← HN.out]; exact hkN
                have hz2 : (O.map lnV)[k] = lnV z := by simp [ZE.out (by simpa using hl)]
                have ez : z.a = x.a := cmp_eq.1 (by rw [← RR.out]; exact hr0)
                have INS1 := Lib.hid (show x.over (lnV z) = true → insN x (O.map lnV) = (O.map lnV).set k x from fun ho => by
                  rw [ins_at (x := x) (l := O.map lnV) (k := k) (by omega) (fun i h hi => by have := HK.out i (by simpa using h) hi; simpa [lnV] using this) (fun h => by rw [hz2]; show ¬ cmpL z.a x.a < 0; rw [← RR.out]; have := HR.out; omega)]
                  rw [if_pos ⟨hl, by rw [hz2]; exact ez⟩, if_pos ⟨hl, by rw [hz2]; exact ho⟩])
                have INS0 := Lib.hid (show x.over (lnV z) = false → insN x (O.map lnV) = O.map lnV from fun ho => by
                  rw [ins_at (x := x) (l := O.map lnV) (k := k) (by omega) (fun i h hi => by have := HK.out i (by simpa using h) hi; simpa [lnV] using this) (fun h => by rw [hz2]; show ¬ cmpL z.a x.a < 0; rw [← RR.out]; have := HR.out; omega)]
                  rw [if_pos ⟨hl, by rw [hz2]; exact ez⟩, if_neg (fun h => by
                    obtain ⟨_, e⟩ := h
                    rw [hz2, ho] at e
                    cases e)])
                have e0 : (r == 0) = true := by simpa using hr0
                have R0 := Lib.hid hr0
                clear hr hr0 hl hz2 ez
                go_wp2_with fail
                obtain ⟨wp, hwp⟩ : ∃ wp, wp = wc := ⟨_, rfl⟩
                have DP := Lib.hid (show ∃ j, wp = w4.drewN j by rw [hwp]; exact DW.out)
                have BP := Lib.hid (show Below w4.heap.size w4 wp by obtain ⟨a, ha⟩ := DP.out; rw [ha]; exact below_drewN (Below.refl _ _) a)
                rw [← hwp]
                clear hwp
                by_cases g1 : x.b < z.b
                · have KS := Lib.hid (show ∀ W, Below wp.heap.size wp W → (W.cell? ⟨q7, 1, none⟩ = some (.int .i64 x.b) ∧ W.cell? ⟨q7, 2, none⟩ = some (.bool x.s) ∧ W.cell? ⟨b0, k * 3 + 1, none⟩ = some (.int .i64 z.b)) from fun W h => ⟨kept h (kept BP.out F1.out), kept h (kept BP.out F2.out), kept h (kept BP.out z1.out)⟩)
                  obtain ⟨wc, hwc⟩ : ∃ wc, wc = wp.drew := ⟨_, rfl⟩
                  have Bc := Lib.hid (show Below wp.heap.size wp wc by rw [hwc]; exact (Below.refl _ _).drew)
                  have DW := Lib.hid (show ∃ j, wc = w4.drewN j by obtain ⟨a, ha⟩ := DP.out; exact ⟨a + 1, by rw [hwc, ha]; exact World.drewN_drewN w4 a 1⟩)
                  refine wp_region_held_drew (S := (fun W => (W.cell? ⟨q7, 1, none⟩ = some (.int .i64 x.b) ∧ W.cell? ⟨q7, 2, none⟩ = some (.bool x.s) ∧ W.cell? ⟨b0, k * 3 + 1, none⟩ = some (.int .i64 z.b)))) (by kernel_rfl) (by rw [← hwc]; exact KS.out _ Bc.out) (fun h0 => ?_)
                  rw [← hwc] at h0 ⊢
                  clear hwc
                  refine tkH (i := 0) (v := ?v41) rfl (Or.inl ⟨by rfl, ?hy41⟩) h0 ?rest41
                  case hy41 => (intro w' hS; (try dsimp only at hS); go_simp; try (with_reducible rfl))
                  simp only [Act.put, sA, sB, sD, sE, sF]
                  refine tkH (i := 1) (v := ?v42) rfl (Or.inl ⟨by rfl, ?hy42⟩) h0 ?rest42
                  case hy42 => (intro w' hS; (try dsimp only at hS); go_simp; try (with_reducible rfl))
                  simp only [Act.put, sZ]
                  refine tkH (i := 2) (v := ?v43) rfl (Or.inl ⟨by rfl, ?hy43⟩) h0 ?rest43
                  case hy43 => (intro w' hS; (try dsimp only at hS); go_simp; try (with_reducible rfl))
                  simp only [Act.put, sZ]
                  refine tkH (i := 3) (v := ?v44) rfl (Or.inl ⟨by rfl, ?hy44⟩) h0 ?rest44
                  case hy44 => (intro w' hS; (try dsimp only at hS); go_simp; try (with_reducible rfl))
                  simp only [Act.put, sZ]
                  refine tkH (i := 4) (v := ?v45) rfl (Or.inl ⟨by rfl, ?hy45⟩) h0 ?rest45
                  case hy45 => (intro w' hS; (try dsimp only at hS); go_simp; try (with_reducible rfl))
                  simp only [Act.put, sZ]
                  refine tkH (i := 5) (v := ?v46) rfl (Or.inl ⟨by rfl, ?hy46⟩) h0 ?rest46
                  case hy46 => (intro w' hS; (try dsimp only at hS); go_simp; try (with_reducible rfl))
                  simp only [Act.put, sZ]
                  refine tkH (i := 6) (v := ?v47) rfl (Or.inl ⟨by rfl, ?hy47⟩) h0 ?rest47
                  case hy47 => (intro w' hS; (try dsimp only at hS); go_simp; try (with_reducible rfl))
                  simp only [Act.put, sZ]
                  refine tkH (i := 7) (v := ?v48) rfl (Or.inl ⟨by rfl, ?hy48⟩) h0 ?rest48
                  case hy48 => (intro w' hS; (try dsimp only at hS); go_simp; try (with_reducible rfl))
                  simp only [Act.put, sZ]
                  refine tkH (i := 8) (v := ?v49) rfl (Or.inl ⟨by rfl, ?hy49⟩) h0 ?rest49
                  case hy49 => (intro w' hS; (try dsimp only at hS); go_simp; try (with_reducible rfl))
                  simp only [Act.put, sZ]
                  refine tkH (i := 9) (v := undef) rfl (Or.inr ⟨by rfl, rfl⟩) h0 ?_
                  simp only [Act.put, sZ]
                  refine tkH (i := 10) (v := undef) rfl (Or.inr ⟨by rfl, rfl⟩) h0 ?_
                  simp only [Act.put, sZ]
                  refine tkH (i := 11) (v := undef) rfl (Or.inr ⟨by rfl, rfl⟩) h0 ?_
                  simp only [Act.put, sZ]
                  refine tkH (i := 12) (v := undef) rfl (Or.inr ⟨by rfl, rfl⟩) h0 ?_
                  simp only [Act.put, sZ]
                  refine tkH (i := 13) (v := undef) rfl (Or.inr ⟨by rfl, rfl⟩) h0 ?_
                  simp only [Act.put, sZ]
                  refine tkH (i := 14) (v := undef) rfl (Or.inr ⟨by rfl, rfl⟩) h0 ?_
                  simp only [Act.put, sZ]
                  refine tkH (i := 15) (v := undef) rfl (Or.inr ⟨by rfl, rfl⟩) h0 ?_
                  simp only [Act.put, sZ]
                  refine tkH (i := 16) (v := undef) rfl (Or.inr ⟨by rfl, rfl⟩) h0 ?_
                  simp only [Act.put, sZ]
                  refine tkH (i := 17) (v := undef) rfl (Or.inr ⟨by rfl, rfl⟩) h0 ?_
                  simp only [Act.put, sZ]
                  refine tkH (i := 18) (v := undef) rfl (Or.inr ⟨by rfl, rfl⟩) h0 ?_
                  simp only [Act.put, sZ]
                  refine tkH (i := 19) (v := undef) rfl (Or.inr ⟨by rfl, rfl⟩) h0 ?_
                  simp only [Act.put, sZ]
                  refine tkH (i := 20) (v := undef) rfl (Or.inr ⟨by rfl, rfl⟩) h0 ?_
                  simp only [Act.put, sZ]
                  refine tkH (i := 21) (v := ?v50) rfl (Or.inl ⟨by rfl, ?hy50⟩) h0 ?rest50
                  case hy50 => (intro w' hS; (try dsimp only at hS); go_simp; try (with_reducible rfl))
                  simp only [Act.put, sA, sB, sC, sD]
                  try simp only [sF]
                  try simp only [sE]
                  refine wpAnyH_done (by kernel_rfl) ?_ _
                  have OV := Lib.hid (INS1.out (by have := g1; simp [Ln.over, lnV, this]))
                  obtain ⟨wq, hwq⟩ : ∃ wq, wq = wc := ⟨_, rfl⟩
                  have BQ := Lib.hid (show Below w4.heap.size w4 wq by rw [hwq]; exact BP.out.trans (Bc.out.mono BP.out.size))
                  rw [← hwq]
                  clear hwq DW Bc KS
                  have hO := OW2.out.on BQ.out
                  have hkO : k < O.length := by rw [← HN.out]; exact hkN
                  have TH := Lib.hid (hO.there hkO)
                  have BG := OBB.out b0 rfl
                  have N7 := Lib.hid (N2.out.kept BQ.out)
                  have GX : GoodV wq (some b0) X := by
                    rw [XC.out]
                    refine ⟨(G2.out.on BQ.out).rd, fun p e => ?_, fun e => by (cases e), G2.out.capOk⟩
                    cases e
                    exact ⟨fun e => by have e' : b0 = g := Option.some.inj e; have := Z7.out; omega, (G2.out.on BQ.out).lt.2⟩
                  have ST := hO.set k (y := X) GX
                  rw [← HN.out] at ST
                  have SA := Lib.hid ST.1
                  have SB := Lib.hid (Below.grown (below_on HB2.out BQ.out) ST.2 (below_on HB2.out BQ.out).size (fun k' hk' => (World.ownsRow.lt hO.row k' hk').1))
                  have MP := Lib.hid (show (O.set k X).map lnV = insL (keepR ((L.map lnV).take (t + 1))) by
                    rw [KN.out, insL_snoc, ← EO.out, OV.out, List.map_set]
                    congr 1
                    rw [XC.out]; rfl)
                  clear hO hkO BG GX ST
                  go_wp2_with (first | refine wpl_loadV rfl _ rfl _ rfl X N7.out.avAt ?_ | refine wpList_store_mid rfl _ _ _ rfl b0 (k * 3) X.cs rfl rfl TH.out av_size (by simp [AV.cs, AV.cells, Value.oneCell']) ?_)
                  go_roundw
                  case rel => exact ⟨t + 1, by go_num, by omega, FB, Lib.hid ⟨_, SA.out, MP.out, (by first | exact FO.out | exact fr_set FO.out FX.out | exact fr_ins FO.out FX.out)⟩, SB⟩
                  case measure => simp [intOf]; omega
                · by_cases g2 : x.b = z.b
                  · have e2 : (x.b == z.b) = true := by simpa using g2
                    obtain ⟨xs, hxs⟩ : ∃ xs, xs = x.s := ⟨_, rfl⟩
                    have HXS := Lib.hid hxs
                    have G1 := Lib.hid g1
                    have GG2 := Lib.hid g2
                    rw [← hxs] at f2 F2
                    clear hxs g2
                    cases xs
                    · have KS := Lib.hid (show ∀ W, Below wp.heap.size wp W → (W.cell? ⟨q7, 1, none⟩ = some (.int .i64 x.b) ∧ W.cell? ⟨q7, 2, none⟩ = some (.bool false) ∧ W.cell? ⟨b0, k * 3 + 1, none⟩ = some (.int .i64 z.b)) from fun W h => ⟨kept h (kept BP.out F1.out), kept h (kept BP.out F2.out), kept h (kept BP.out z1.out)⟩)
                      obtain ⟨wc, hwc⟩ : ∃ wc, wc = wp.drew := ⟨_, rfl⟩
                      have Bc := Lib.hid (show Below wp.heap.size wp wc by rw [hwc]; exact (Below.refl _ _).drew)
                      have DW := Lib.hid (show ∃ j, wc = w4.drewN j by obtain ⟨a, ha⟩ := DP.out; exact ⟨a + 1, by rw [hwc, ha]; exact World.drewN_drewN w4 a 1⟩)
                      refine wp_region_held_drew (S := (fun W => (W.cell? ⟨q7, 1, none⟩ = some (.int .i64 x.b) ∧ W.cell? ⟨q7, 2, none⟩ = some (.bool false) ∧ W.cell? ⟨b0, k * 3 + 1, none⟩ = some (.int .i64 z.b)))) (by kernel_rfl) (by rw [← hwc]; exact KS.out _ Bc.out) (fun h0 => ?_)
                      rw [← hwc] at h0 ⊢
                      clear hwc
                      refine tkH (i := 0) (v := ?v51) rfl (Or.inl ⟨by rfl, ?hy51⟩) h0 ?rest51
                      case hy51 => (intro w' hS; (try dsimp only at hS); go_simp; try (with_reducible rfl))
                      simp only [Act.put, sA, sB, sD, sE, sF]
                      refine tkH (i := 1) (v := ?v52) rfl (Or.inl ⟨by rfl, ?hy52⟩) h0 ?rest52
                      case hy52 => (intro w' hS; (try dsimp only at hS); go_simp; try (with_reducible rfl))
                      simp only [Act.put, sZ]
                      refine tkH (i := 2) (v := ?v53) rfl (Or.inl ⟨by rfl, ?hy53⟩) h0 ?rest53
                      case hy53 => (intro w' hS; (try dsimp only at hS); go_simp; try (with_reducible rfl))
                      simp only [Act.put, sZ]
                      refine tkH (i := 3) (v := ?v54) rfl (Or.inl ⟨by rfl, ?hy54⟩) h0 ?rest54
                      case hy54 => (intro w' hS; (try dsimp only at hS); go_simp; try (with_reducible rfl))
                      simp only [Act.put, sZ]
                      refine tkH (i := 4) (v := ?v55) rfl (Or.inl ⟨by rfl, ?hy55⟩) h0 ?rest55
                      case hy55 => (intro w' hS; (try dsimp only at hS); go_simp; try (with_reducible rfl))
                      simp only [Act.put, sZ]
                      refine tkH (i := 5) (v := ?v56) rfl (Or.inl ⟨by rfl, ?hy56⟩) h0 ?rest56
                      case hy56 => (intro w' hS; (try dsimp only at hS); go_simp; try (with_reducible rfl))
                      simp only [Act.put, sZ]
                      refine tkH (i := 6) (v := ?v57) rfl (Or.inl ⟨by rfl, ?hy57⟩) h0 ?rest57
                      case hy57 => (intro w' hS; (try dsimp only at hS); go_simp; try (with_reducible rfl))
                      simp only [Act.put, sZ]
                      refine tkH (i := 7) (v := ?v58) rfl (Or.inl ⟨by rfl, ?hy58⟩) h0 ?rest58
                      case hy58 => (intro w' hS; (try dsimp only at hS); go_simp; try (with_reducible rfl))
                      simp only [Act.put, sZ]
                      refine tkH (i := 8) (v := ?v59) rfl (Or.inl ⟨by rfl, ?hy59⟩) h0 ?rest59
                      case hy59 => (intro w' hS; (try dsimp only at hS); go_simp; try (with_reducible rfl))
                      simp only [Act.put, sZ]
                      refine tkH (i := 9) (v := ?v60) rfl (Or.inl ⟨by rfl, ?hy60⟩) h0 ?rest60
                      case hy60 => (intro w' hS; (try dsimp only at hS); go_simp; try (with_reducible rfl))
                      simp only [Act.put, sZ]
                      refine tkH (i := 10) (v := ?v61) rfl (Or.inl ⟨by rfl, ?hy61⟩) h0 ?rest61
                      case hy61 => (intro w' hS; (try dsimp only at hS); go_simp; try (with_reducible rfl))
                      simp only [Act.put, sZ]
                      refine tkH (i := 11) (v := ?v62) rfl (Or.inl ⟨by rfl, ?hy62⟩) h0 ?rest62
                      case hy62 => (intro w' hS; (try dsimp only at hS); go_simp; try (with_reducible rfl))
                      simp only [Act.put, sZ]
                      refine tkH (i := 12) (v := ?v63) rfl (Or.inl ⟨by rfl, ?hy63⟩) h0 ?rest63
                      case hy63 => (intro w' hS; (try dsimp only at hS); go_simp; try (with_reducible rfl))
                      simp only [Act.put, sZ]
                      refine tkH (i := 13) (v := ?v64) rfl (Or.inl ⟨by rfl, ?hy64⟩) h0 ?rest64
                      case hy64 => (intro w' hS; (try dsimp only at hS); go_simp; try (with_reducible rfl))
                      simp only [Act.put, sZ]
                      refine tkH (i := 14) (v := ?v65) rfl (Or.inl ⟨by rfl, ?hy65⟩) h0 ?rest65
                      case hy65 => (intro w' hS; (try dsimp only at hS); go_simp; try (with_reducible rfl))
                      simp only [Act.put, sZ]
                      refine tkH (i := 15) (v := ?v66) rfl (Or.inl ⟨by rfl, ?hy66⟩) h0 ?rest66
                      case hy66 => (intro w' hS; (try dsimp only at hS); go_simp; try (with_reducible rfl))
                      simp only [Act.put, sZ]
                      refine tkH (i := 16) (v := ?v67) rfl (Or.inl ⟨by rfl, ?hy67⟩) h0 ?rest67
                      case hy67 => (intro w' hS; (try dsimp only at hS); go_simp; try (with_reducible rfl))
                      simp only [Act.put, sZ]
                      refine tkH (i := 17) (v := ?v68) rfl (Or.inl ⟨by rfl, ?hy68⟩) h0 ?rest68
                      case hy68 => (intro w' hS; (try dsimp only at hS); go_simp; try (with_reducible rfl))
                      simp only [Act.put, sZ]
                      refine tkH (i := 18) (v := ?v69) rfl (Or.inl ⟨by rfl, ?hy69⟩) h0 ?rest69
                      case hy69 => (intro w' hS; (try dsimp only at hS); go_simp; try (with_reducible rfl))
                      simp only [Act.put, sZ]
                      refine tkH (i := 19) (v := ?v70) rfl (Or.inl ⟨by rfl, ?hy70⟩) h0 ?rest70
                      case hy70 => (intro w' hS; (try dsimp only at hS); go_simp; try (with_reducible rfl))
                      simp only [Act.put, sZ]
                      refine tkH (i := 20) (v := ?v71) rfl (Or.inl ⟨by rfl, ?hy71⟩) h0 ?rest71
                      case hy71 => (intro w' hS; (try dsimp only at hS); go_simp; try (with_reducible rfl))
                      simp only [Act.put, sZ]
                      refine tkH (i := 21) (v := ?v72) rfl (Or.inl ⟨by rfl, ?hy72⟩) h0 ?rest72
                      case hy72 => (intro w' hS; (try dsimp only at hS); go_simp; try (with_reducible rfl))
                      simp only [Act.put, sA, sB, sC, sD]
                      try simp only [sF]
                      try simp only [sE]
                      refine wpAnyH_done (by kernel_rfl) ?_ _
                      have OV := Lib.hid (INS0.out (over_no G1.out (fun _ => HXS.out.symm)))
                      have SA := Lib.hid (show OwnV wc w.heap.size (.slice (some ⟨b0, 0, none⟩) N cp2) O by rw [HN.out]; exact OW2.out.on (BP.out.trans (Bc.out.mono BP.out.size)))
                      have SB := Lib.hid (show Below w.heap.size w wc from below_on HB2.out (BP.out.trans (Bc.out.mono BP.out.size)))
                      have MP := Lib.hid (show O.map lnV = insL (keepR ((L.map lnV).take (t + 1))) by
                        rw [KN.out, insL_snoc, ← EO.out, OV.out])
                      clear DW Bc KS
                      go_wp2_with fail
                      go_roundw
                      case rel => exact ⟨t + 1, by go_num, by omega, FB, Lib.hid ⟨_, SA.out, MP.out, (by first | exact FO.out | exact fr_set FO.out FX.out | exact fr_ins FO.out FX.out)⟩, SB⟩
                      case measure => simp [intOf]; omega
                    · have KS := Lib.hid (show ∀ W, Below wp.heap.size wp W → (W.cell? ⟨q7, 1, none⟩ = some (.int .i64 x.b) ∧ W.cell? ⟨q7, 2, none⟩ = some (.bool true) ∧ W.cell? ⟨b0, k * 3 + 1, none⟩ = some (.int .i64 z.b)) from fun W h => ⟨kept h (kept BP.out F1.out), kept h (kept BP.out F2.out), kept h (kept BP.out z1.out)⟩)
                      obtain ⟨wc, hwc⟩ : ∃ wc, wc = wp.drew := ⟨_, rfl⟩
                      have Bc := Lib.hid (show Below wp.heap.size wp wc by rw [hwc]; exact (Below.refl _ _).drew)
                      have DW := Lib.hid (show ∃ j, wc = w4.drewN j by obtain ⟨a, ha⟩ := DP.out; exact ⟨a + 1, by rw [hwc, ha]; exact World.drewN_drewN w4 a 1⟩)
                      refine wp_region_held_drew (S := (fun W => (W.cell? ⟨q7, 1, none⟩ = some (.int .i64 x.b) ∧ W.cell? ⟨q7, 2, none⟩ = some (.bool true) ∧ W.cell? ⟨b0, k * 3 + 1, none⟩ = some (.int .i64 z.b)))) (by kernel_rfl) (by rw [← hwc]; exact KS.out _ Bc.out) (fun h0 => ?_)
                      rw [← hwc] at h0 ⊢
                      clear hwc
                      refine tkH (i := 0) (v := ?v73) rfl (Or.inl ⟨by rfl, ?hy73⟩) h0 ?rest73
                      case hy73 => (intro w' hS; (try dsimp only at hS); go_simp; try (with_reducible rfl))
                      simp only [Act.put, sA, sB, sD, sE, sF]
                      refine tkH (i := 1) (v := ?v74) rfl (Or.inl ⟨by rfl, ?hy74⟩) h0 ?rest74
                      case hy74 => (intro w' hS; (try dsimp only at hS); go_simp; try (with_reducible rfl))
                      simp only [Act.put, sZ]
                      refine tkH (i := 2) (v := ?v75) rfl (Or.inl ⟨by rfl, ?hy75⟩) h0 ?rest75
                      case hy75 => (intro w' hS; (try dsimp only at hS); go_simp; try (with_reducible rfl))
                      simp only [Act.put, sZ]
                      refine tkH (i := 3) (v := ?v76) rfl (Or.inl ⟨by rfl, ?hy76⟩) h0 ?rest76
                      case hy76 => (intro w' hS; (try dsimp only at hS); go_simp; try (with_reducible rfl))
                      simp only [Act.put, sZ]
                      refine tkH (i := 4) (v := ?v77) rfl (Or.inl ⟨by rfl, ?hy77⟩) h0 ?rest77
                      case hy77 => (intro w' hS; (try dsimp only at hS); go_simp; try (with_reducible rfl))
                      simp only [Act.put, sZ]
                      refine tkH (i := 5) (v := ?v78) rfl (Or.inl ⟨by rfl, ?hy78⟩) h0 ?rest78
                      case hy78 => (intro w' hS; (try dsimp only at hS); go_simp; try (with_reducible rfl))
                      simp only [Act.put, sZ]
                      refine tkH (i := 6) (v := ?v79) rfl (Or.inl ⟨by rfl, ?hy79⟩) h0 ?rest79
                      case hy79 => (intro w' hS; (try dsimp only at hS); go_simp; try (with_reducible rfl))
                      simp only [Act.put, sZ]
                      refine tkH (i := 7) (v := ?v80) rfl (Or.inl ⟨by rfl, ?hy80⟩) h0 ?rest80
                      case hy80 => (intro w' hS; (try dsimp only at hS); go_simp; try (with_reducible rfl))
                      simp only [Act.put, sZ]
                      refine tkH (i := 8) (v := ?v81) rfl (Or.inl ⟨by rfl, ?hy81⟩) h0 ?rest81
                      case hy81 => (intro w' hS; (try dsimp only at hS); go_simp; try (with_reducible rfl))
                      simp only [Act.put, sZ]
                      refine tkH (i := 9) (v := ?v82) rfl (Or.inl ⟨by rfl, ?hy82⟩) h0 ?rest82
                      case hy82 => (intro w' hS; (try dsimp only at hS); go_simp; try (with_reducible rfl))
                      simp only [Act.put, sZ]
                      refine tkH (i := 10) (v := ?v83) rfl (Or.inl ⟨by rfl, ?hy83⟩) h0 ?rest83
                      case hy83 => (intro w' hS; (try dsimp only at hS); go_simp; try (with_reducible rfl))
                      simp only [Act.put, sZ]
                      refine tkH (i := 11) (v := ?v84) rfl (Or.inl ⟨by rfl, ?hy84⟩) h0 ?rest84
                      case hy84 => (intro w' hS; (try dsimp only at hS); go_simp; try (with_reducible rfl))
                      simp only [Act.put, sZ]
                      refine tkH (i := 12) (v := ?v85) rfl (Or.inl ⟨by rfl, ?hy85⟩) h0 ?rest85
                      case hy85 => (intro w' hS; (try dsimp only at hS); go_simp; try (with_reducible rfl))
                      simp only [Act.put, sZ]
                      refine tkH (i := 13) (v := ?v86) rfl (Or.inl ⟨by rfl, ?hy86⟩) h0 ?rest86
                      case hy86 => (intro w' hS; (try dsimp only at hS); go_simp; try (with_reducible rfl))
                      simp only [Act.put, sZ]
                      refine tkH (i := 14) (v := ?v87) rfl (Or.inl ⟨by rfl, ?hy87⟩) h0 ?rest87
                      case hy87 => (intro w' hS; (try dsimp only at hS); go_simp; try (with_reducible rfl))
                      simp only [Act.put, sZ]
                      refine tkH (i := 15) (v := ?v88) rfl (Or.inl ⟨by rfl, ?hy88⟩) h0 ?rest88
                      case hy88 => (intro w' hS; (try dsimp only at hS); go_simp; try (with_reducible rfl))
                      simp only [Act.put, sZ]
                      refine tkH (i := 16) (v := ?v89) rfl (Or.inl ⟨by rfl, ?hy89⟩) h0 ?rest89
                      case hy89 => (intro w' hS; (try dsimp only at hS); go_simp; try (with_reducible rfl))
                      simp only [Act.put, sZ]
                      refine tkH (i := 17) (v := ?v90) rfl (Or.inl ⟨by rfl, ?hy90⟩) h0 ?rest90
                      case hy90 => (intro w' hS; (try dsimp only at hS); go_simp; try (with_reducible rfl))
                      simp only [Act.put, sZ]
                      refine tkH (i := 18) (v := ?v91) rfl (Or.inl ⟨by rfl, ?hy91⟩) h0 ?rest91
                      case hy91 => (intro w' hS; (try dsimp only at hS); go_simp; try (with_reducible rfl))
                      simp only [Act.put, sZ]
                      refine tkH (i := 19) (v := ?v92) rfl (Or.inl ⟨by rfl, ?hy92⟩) h0 ?rest92
                      case hy92 => (intro w' hS; (try dsimp only at hS); go_simp; try (with_reducible rfl))
                      simp only [Act.put, sZ]
                      refine tkH (i := 20) (v := ?v93) rfl (Or.inl ⟨by rfl, ?hy93⟩) h0 ?rest93
                      case hy93 => (intro w' hS; (try dsimp only at hS); go_simp; try (with_reducible rfl))
                      simp only [Act.put, sZ]
                      refine tkH (i := 21) (v := ?v94) rfl (Or.inl ⟨by rfl, ?hy94⟩) h0 ?rest94
                      case hy94 => (intro w' hS; (try dsimp only at hS); go_simp; try (with_reducible rfl))
                      simp only [Act.put, sA, sB, sC, sD]
                      try simp only [sF]
                      try simp only [sE]
                      refine wpAnyH_done (by kernel_rfl) ?_ _
                      have OV := Lib.hid (INS1.out (by have := GG2.out; simp [Ln.over, lnV, ← HXS.out, this]))
                      obtain ⟨wq, hwq⟩ : ∃ wq, wq = wc := ⟨_, rfl⟩
                      have BQ := Lib.hid (show Below w4.heap.size w4 wq by rw [hwq]; exact BP.out.trans (Bc.out.mono BP.out.size))
                      rw [← hwq]
                      clear hwq DW Bc KS
                      have hO := OW2.out.on BQ.out
                      have hkO : k < O.length := by rw [← HN.out]; exact hkN
                      have TH := Lib.hid (hO.there hkO)
                      have BG := OBB.out b0 rfl
                      have N7 := Lib.hid (N2.out.kept BQ.out)
                      have GX : GoodV wq (some b0) X := by
                        rw [XC.out]
                        refine ⟨(G2.out.on BQ.out).rd, fun p e => ?_, fun e => by (cases e), G2.out.capOk⟩
                        cases e
                        exact ⟨fun e => by have e' : b0 = g := Option.some.inj e; have := Z7.out; omega, (G2.out.on BQ.out).lt.2⟩
                      have ST := hO.set k (y := X) GX
                      rw [← HN.out] at ST
                      have SA := Lib.hid ST.1
                      have SB := Lib.hid (Below.grown (below_on HB2.out BQ.out) ST.2 (below_on HB2.out BQ.out).size (fun k' hk' => (World.ownsRow.lt hO.row k' hk').1))
                      have MP := Lib.hid (show (O.set k X).map lnV = insL (keepR ((L.map lnV).take (t + 1))) by
                        rw [KN.out, insL_snoc, ← EO.out, OV.out, List.map_set]
                        congr 1
                        rw [XC.out]; rfl)
                      clear hO hkO BG GX ST
                      go_wp2_with (first | refine wpl_loadV rfl _ rfl _ rfl X N7.out.avAt ?_ | refine wpList_store_mid rfl _ _ _ rfl b0 (k * 3) X.cs rfl rfl TH.out av_size (by simp [AV.cs, AV.cells, Value.oneCell']) ?_)
                      go_roundw
                      case rel => exact ⟨t + 1, by go_num, by omega, FB, Lib.hid ⟨_, SA.out, MP.out, (by first | exact FO.out | exact fr_set FO.out FX.out | exact fr_ins FO.out FX.out)⟩, SB⟩
                      case measure => simp [intOf]; omega
                  · have e2 : (x.b == z.b) = false := by simpa using g2
                    have G1 := Lib.hid g1
                    have GG2 := Lib.hid g2
                    clear g2
                    have KS := Lib.hid (show ∀ W, Below wp.heap.size wp W → (W.cell? ⟨q7, 1, none⟩ = some (.int .i64 x.b) ∧ W.cell? ⟨q7, 2, none⟩ = some (.bool x.s) ∧ W.cell? ⟨b0, k * 3 + 1, none⟩ = some (.int .i64 z.b)) from fun W h => ⟨kept h (kept BP.out F1.out), kept h (kept BP.out F2.out), kept h (kept BP.out z1.out)⟩)
                    obtain ⟨wc, hwc⟩ : ∃ wc, wc = wp.drew := ⟨_, rfl⟩
                    have Bc := Lib.hid (show Below wp.heap.size wp wc by rw [hwc]; exact (Below.refl _ _).drew)
                    have DW := Lib.hid (show ∃ j, wc = w4.drewN j by obtain ⟨a, ha⟩ := DP.out; exact ⟨a + 1, by rw [hwc, ha]; exact World.drewN_drewN w4 a 1⟩)
                    refine wp_region_held_drew (S := (fun W => (W.cell? ⟨q7, 1, none⟩ = some (.int .i64 x.b) ∧ W.cell? ⟨q7, 2, none⟩ = some (.bool x.s) ∧ W.cell? ⟨b0, k * 3 + 1, none⟩ = some (.int .i64 z.b)))) (by kernel_rfl) (by rw [← hwc]; exact KS.out _ Bc.out) (fun h0 => ?_)
                    rw [← hwc] at h0 ⊢
                    clear hwc
                    refine tkH (i := 0) (v := ?v95) rfl (Or.inl ⟨by rfl, ?hy95⟩) h0 ?rest95
                    case hy95 => (intro w' hS; (try dsimp only at hS); go_simp; try (with_reducible rfl))
                    simp only [Act.put, sA, sB, sD, sE, sF]
                    refine tkH (i := 1) (v := ?v96) rfl (Or.inl ⟨by rfl, ?hy96⟩) h0 ?rest96
                    case hy96 => (intro w' hS; (try dsimp only at hS); go_simp; try (with_reducible rfl))
                    simp only [Act.put, sZ]
                    refine tkH (i := 2) (v := ?v97) rfl (Or.inl ⟨by rfl, ?hy97⟩) h0 ?rest97
                    case hy97 => (intro w' hS; (try dsimp only at hS); go_simp; try (with_reducible rfl))
                    simp only [Act.put, sZ]
                    refine tkH (i := 3) (v := ?v98) rfl (Or.inl ⟨by rfl, ?hy98⟩) h0 ?rest98
                    case hy98 => (intro w' hS; (try dsimp only at hS); go_simp; try (with_reducible rfl))
                    simp only [Act.put, sZ]
                    refine tkH (i := 4) (v := ?v99) rfl (Or.inl ⟨by rfl, ?hy99⟩) h0 ?rest99
                    case hy99 => (intro w' hS; (try dsimp only at hS); go_simp; try (with_reducible rfl))
                    simp only [Act.put, sZ]
                    refine tkH (i := 5) (v := ?v100) rfl (Or.inl ⟨by rfl, ?hy100⟩) h0 ?rest100
                    case hy100 => (intro w' hS; (try dsimp only at hS); go_simp; try (with_reducible rfl))
                    simp only [Act.put, sZ]
                    refine tkH (i := 6) (v := ?v101) rfl (Or.inl ⟨by rfl, ?hy101⟩) h0 ?rest101
                    case hy101 => (intro w' hS; (try dsimp only at hS); go_simp; try (with_reducible rfl))
                    simp only [Act.put, sZ]
                    refine tkH (i := 7) (v := ?v102) rfl (Or.inl ⟨by rfl, ?hy102⟩) h0 ?rest102
                    case hy102 => (intro w' hS; (try dsimp only at hS); go_simp; try (with_reducible rfl))
                    simp only [Act.put, sZ]
                    refine tkH (i := 8) (v := ?v103) rfl (Or.inl ⟨by rfl, ?hy103⟩) h0 ?rest103
                    case hy103 => (intro w' hS; (try dsimp only at hS); go_simp; try (with_reducible rfl))
                    simp only [Act.put, sZ]
                    refine tkH (i := 9) (v := ?v104) rfl (Or.inl ⟨by rfl, ?hy104⟩) h0 ?rest104
                    case hy104 => (intro w' hS; (try dsimp only at hS); go_simp; try (with_reducible rfl))
                    simp only [Act.put, sZ]
                    refine tkH (i := 10) (v := ?v105) rfl (Or.inl ⟨by rfl, ?hy105⟩) h0 ?rest105
                    case hy105 => (intro w' hS; (try dsimp only at hS); go_simp; try (with_reducible rfl))
                    simp only [Act.put, sZ]
                    refine tkH (i := 11) (v := ?v106) rfl (Or.inl ⟨by rfl, ?hy106⟩) h0 ?rest106
                    case hy106 => (intro w' hS; (try dsimp only at hS); go_simp; try (with_reducible rfl))
                    simp only [Act.put, sZ]
                    refine tkH (i := 12) (v := ?v107) rfl (Or.inl ⟨by rfl, ?hy107⟩) h0 ?rest107
                    case hy107 => (intro w' hS; (try dsimp only at hS); go_simp; try (with_reducible rfl))
                    simp only [Act.put, sZ]
                    refine tkH (i := 13) (v := ?v108) rfl (Or.inl ⟨by rfl, ?hy108⟩) h0 ?rest108
                    case hy108 => (intro w' hS; (try dsimp only at hS); go_simp; try (with_reducible rfl))
                    simp only [Act.put, sZ]
                    refine tkH (i := 14) (v := ?v109) rfl (Or.inl ⟨by rfl, ?hy109⟩) h0 ?rest109
                    case hy109 => (intro w' hS; (try dsimp only at hS); go_simp; try (with_reducible rfl))
                    simp only [Act.put, sZ]
                    refine tkH (i := 15) (v := ?v110) rfl (Or.inl ⟨by rfl, ?hy110⟩) h0 ?rest110
                    case hy110 => (intro w' hS; (try dsimp only at hS); go_simp; try (with_reducible rfl))
                    simp only [Act.put, sZ]
                    refine tkH (i := 16) (v := ?v111) rfl (Or.inl ⟨by rfl, ?hy111⟩) h0 ?rest111
                    case hy111 => (intro w' hS; (try dsimp only at hS); go_simp; try (with_reducible rfl))
                    simp only [Act.put, sZ]
                    refine tkH (i := 17) (v := ?v112) rfl (Or.inl ⟨by rfl, ?hy112⟩) h0 ?rest112
                    case hy112 => (intro w' hS; (try dsimp only at hS); go_simp; try (with_reducible rfl))
                    simp only [Act.put, sZ]
                    refine tkH (i := 18) (v := undef) rfl (Or.inr ⟨by rfl, rfl⟩) h0 ?_
                    simp only [Act.put, sZ]
                    refine tkH (i := 19) (v := undef) rfl (Or.inr ⟨by rfl, rfl⟩) h0 ?_
                    simp only [Act.put, sZ]
                    refine tkH (i := 20) (v := ?v113) rfl (Or.inl ⟨by rfl, ?hy113⟩) h0 ?rest113
                    case hy113 => (intro w' hS; (try dsimp only at hS); go_simp; try (with_reducible rfl))
                    simp only [Act.put, sZ]
                    refine tkH (i := 21) (v := ?v114) rfl (Or.inl ⟨by rfl, ?hy114⟩) h0 ?rest114
                    case hy114 => (intro w' hS; (try dsimp only at hS); go_simp; try (with_reducible rfl))
                    simp only [Act.put, sA, sB, sC, sD]
                    try simp only [sF]
                    try simp only [sE]
                    refine wpAnyH_done (by kernel_rfl) ?_ _
                    have OV := Lib.hid (INS0.out (over_no G1.out (fun e => absurd e GG2.out)))
                    have SA := Lib.hid (show OwnV wc w.heap.size (.slice (some ⟨b0, 0, none⟩) N cp2) O by rw [HN.out]; exact OW2.out.on (BP.out.trans (Bc.out.mono BP.out.size)))
                    have SB := Lib.hid (show Below w.heap.size w wc from below_on HB2.out (BP.out.trans (Bc.out.mono BP.out.size)))
                    have MP := Lib.hid (show O.map lnV = insL (keepR ((L.map lnV).take (t + 1))) by
                      rw [KN.out, insL_snoc, ← EO.out, OV.out])
                    clear DW Bc KS
                    go_wp2_with fail
                    go_roundw
                    case rel => exact ⟨t + 1, by go_num, by omega, FB, Lib.hid ⟨_, SA.out, MP.out, (by first | exact FO.out | exact fr_set FO.out FX.out | exact fr_ins FO.out FX.out)⟩, SB⟩
                    case measure => simp [intOf]; omega
              · have INSEQ := Lib.hid (show insN x (O.map lnV) = (O.map lnV).take k ++ x :: (O.map lnV).drop k by
                  have hl : k < (O.map lnV).length := by rw [List.length_map, ← HN.out]; exact hkN
                  have hz2 : ((O.map lnV)[k]).a = z.a := by simp [lnV, ZE.out (by simpa using hl)]
                  rw [ins_at (x := x) (l := O.map lnV) (k := k) (by omega) (fun i h hi => by have := HK.out i (by simpa using h) hi; simpa [lnV] using this) (fun h => by rw [hz2, ← RR.out]; have := HR.out; omega)]
                  rw [if_neg (fun h => by
                    obtain ⟨_, e⟩ := h
                    rw [hz2] at e
                    exact hr0 (by rw [RR.out]; exact cmp_eq.2 e))])
                have e0 : (r == 0) = false := by simpa using hr0
                clear hr hr0
                go_upto_region 15 with (fail)
                obtain ⟨wp, hwp⟩ : ∃ wp, wp = wc := ⟨_, rfl⟩
                have DP := Lib.hid (show ∃ j, wp = w4.drewN j by rw [hwp]; exact DW.out)
                have BP := Lib.hid (show Below w4.heap.size w4 wp by obtain ⟨a, ha⟩ := DP.out; rw [ha]; exact below_drewN (Below.refl _ _) a)
                rw [← hwp]
                clear hwp
                have BX := Lib.hid (show Below w4.heap.size w4 wp from BP.out)
                have OW5 := Lib.hid ((OW2.out.on BX.out).on (one_more (.cells av0.cs 25)))
                have HB5 := Lib.hid (below_on (below_on HB2.out BX.out) (one_more (.cells av0.cs 25)))
                have A5 := Lib.hid ((BkV.made wp av0).avAt)
                have N5 := Lib.hid ((N2.out.kept BX.out).kept (one_more (.cells av0.cs 25)))
                have G5 := Lib.hid ((G2.out.on BX.out).on (one_more (.cells av0.cs 25)))
                have z5 := HB5.out.size
                have ZS := Lib.hid (show q7 < (wp.alloc (.cells av0.cs 25)).heap.size from N5.out.lt)
                have GV := Lib.hid (show GoodV (wp.alloc (.cells av0.cs 25)) (Value.slice (some ⟨b0, 0, none⟩) O.length cp2).ownBlock av0 from ⟨fun t ht => by simp [av0] at ht, fun p e => by simp [av0] at e, fun _ => ⟨rfl, rfl⟩, Nat.le_refl _, Nat.zero_le _⟩)
                rw [← HN.out] at OW5 GV
                have OB5 := Lib.hid (show ∀ b, (Value.slice (some ⟨b0, 0, none⟩) N cp2).ownBlock = some b → b < wr.heap.size by rw [HN.out]; exact OBB.out)
                go_wp2_with (first | refine wpl_bv1 rfl _ rfl av0 (by first | rfl | simp [Act.eval, av0, AV.cs, AV.cells]) ?_ | (at_builtin; refine wpl_appV rfl _ _ rfl w.heap.size _ O av0 rfl OW5.out _ _ rfl A5.out GV.out (by have := NL.out; have := HN.out; omega) z5 ?_))
                intro v' w6 o6 g6 f6
                obtain ⟨g5, c5, rfl, hB5, hlt5, _⟩ := o6.form (by simp)
                have LL := Lib.hid (show (O ++ [av0]).length = N + 1 by rw [HN.out]; simp)
                have BB5 := Lib.hid (show g5 ≠ q7 ∧ g5 ≠ g ∧ w.heap.size ≤ g5 by
                  have h1 := Z7.out
                  have h2 := ZS.out
                  have h3 := hB5
                  have h5 : (wp.alloc (.cells av0.cs 25)).heap.size = wp.heap.size + 1 := by simp
                  have f7 : (Value.slice (some ⟨g5, 0, none⟩) (O ++ [av0]).length c5).ownBlock = some g5 := rfl
                  rw [f7] at f6
                  rcases f6 with h | h
                  · have := OB5.out g5 h.symm; refine ⟨?_, ?_, ?_⟩ <;> omega
                  · have h4 := Option.some.inj h; (try simp only [World.size_alloc] at h4); refine ⟨?_, ?_, ?_⟩ <;> omega)
                have N6 := Lib.hid (show BkV w6 q7 X from (g6.block q7 N5.out.lt (fun e => by have := OB5.out q7 e.symm; have := Z7.out; omega)).trans N5.out)
                have G6 := Lib.hid (show OwnI w6 wr.heap.size g cg x.a from World.ownsRow.kept G5.out g6 (Or.inr (fun e => by have := OB5.out g (by simpa [Value.ownBlock] using e.symm); have := Z7.out; omega)))
                have B6 := Lib.hid (Below.grown HB5.out g6 HB5.out.size (fun k hk => (World.ownsRow.lt OW5.out.row k hk).1))
                have hk' : k ≤ O.length := by rw [← HN.out]; omega
                have P6 := Lib.hid (show OwnV w6 w.heap.size (.slice (some ⟨g5, 0, none⟩) (N + 1) c5) (O.take N ++ av0 :: O.drop N) by rw [← LL.out, HN.out, List.take_length, List.drop_length]; exact o6)
                have KO := Lib.hid hk'
                rw [LL.out]
                clear o6 g6 f6 hB5 hlt5 z5 OW5 HB5 A5 N5 G5 GV hk'
                have hwN : wrap64 (N : Int) = N := by have := NL.out; unfold wrap64; omega
                have HWN := Lib.hid hwN
                go_wp2_with fail
                clear hwN
                generalize wr = wo at *
                go_loopw [9] (fun s wr => ∃ jj : Nat, s = .int .i64 jj ∧ k ≤ jj ∧ jj ≤ N ∧ Hid (∃ z, OwnV wr w.heap.size (.slice (some ⟨g5, 0, none⟩) (N + 1) c5) (O.take jj ++ z :: O.drop jj)) ∧ Hid (w6.grownBy wr (some g5))) (fun s _ => (intOf s).toNat - k)
                case atStart => exact ⟨N, by first | rfl | rw [HWN.out], by omega, by omega, Lib.hid ⟨av0, P6.out⟩, Lib.hid (World.grownBy.refl _ _)⟩
                case round =>
                  clear P6
                  obtain ⟨jj, rfl, hk1, hk2, HP, HGr⟩ := hrel
                  obtain ⟨z2, hz2⟩ := HP.out
                  by_cases hjk : k < jj
                  · obtain ⟨i, rfl⟩ : ∃ i, jj = i + 1 := ⟨jj - 1, by omega⟩
                    have hi : i < O.length := by have := HN.out; omega
                    have LZ : (O.take (i + 1) ++ z2 :: O.drop (i + 1)).length = N + 1 := by have := HN.out; simp; omega
                    have hz3 : OwnV wr w.heap.size (.slice (some ⟨g5, 0, none⟩) (O.take (i + 1) ++ z2 :: O.drop (i + 1)).length c5) (O.take (i + 1) ++ z2 :: O.drop (i + 1)) := by rw [LZ]; exact hz2
                    have hq : i < (O.take (i + 1) ++ z2 :: O.drop (i + 1)).length := by rw [LZ]; omega
                    have A := hz3.avAt hq
                    rw [shift_at hi z2 hq] at A
                    have TH := hz3.there (i := i + 1) (by rw [LZ]; omega)
                    have ST := hz3.set (i + 1) (y := O[i]) (hz3.good (by have := List.getElem_mem hq; rwa [shift_at hi z2 hq] at this))
                    rw [shift_set hi, LZ] at ST
                    obtain ⟨Z, hZ⟩ : ∃ Z, Z = O[i] := ⟨_, rfl⟩
                    rw [← hZ] at A ST
                    have AH := Lib.hid A
                    have THH := Lib.hid TH
                    have SA := Lib.hid ST.1
                    have SG := Lib.hid (grownT HGr.out ST.2)
                    have hw : wrap64 ((i : Int) + 1 - 1) = i := by have := NL.out; unfold wrap64; omega
                    clear hz2 HP hz3 A TH ST hZ LZ hq hi HGr
                    go_wp2_with (first | refine wpl_loadV rfl _ rfl _ rfl Z AH.out ?_ | refine wpList_store_mid rfl _ _ _ rfl g5 ((i + 1) * 3) Z.cs rfl rfl THH.out av_size (by simp [AV.cs, AV.cells, Value.oneCell']) ?_)
                    go_roundw
                    case rel => exact ⟨i, by go_num, by omega, by omega, Lib.hid ⟨Z, SA.out⟩, SG⟩
                    case measure => first | (simp [intOf]; done) | (simp [intOf]; omega)
                  · obtain rfl : k = jj := by omega
                    have hi : k ≤ O.length := KO.out
                    have LZ : (O.take k ++ z2 :: O.drop k).length = N + 1 := by have := HN.out; simp; omega
                    have hz3 : OwnV wr w.heap.size (.slice (some ⟨g5, 0, none⟩) (O.take k ++ z2 :: O.drop k).length c5) (O.take k ++ z2 :: O.drop k) := by rw [LZ]; exact hz2
                    have TH := hz3.there (i := k) (by rw [LZ]; omega)
                    have N7 := Lib.hid (show BkV wr q7 X from N6.out.grown HGr.out (Ne.symm BB5.out.1))
                    have G7 := G6.out.grown HGr.out (Ne.symm BB5.out.2.1)
                    have GX : GoodV wr (some g5) X := by
                      rw [XC.out]
                      refine ⟨G7.rd, fun p e => ?_, fun e => by (cases e), G7.capOk⟩
                      cases e
                      exact ⟨fun e => by injection e with e; exact BB5.out.2.1 e, G7.lt.2⟩
                    have ST := hz3.set k (y := X) GX
                    rw [shift_last hi, LZ] at ST
                    have THH := Lib.hid TH
                    have SA := Lib.hid ST.1
                    have SB := Lib.hid (Below.grown B6.out (grownT HGr.out ST.2) B6.out.size (fun k' hk => by have := BB5.out.2.2; injection hk with hk; omega))
                    have MP := Lib.hid (show (O.take k ++ X :: O.drop k).map lnV = insL (keepR ((L.map lnV).take (t + 1))) by
                      rw [KN.out, insL_snoc, ← EO.out, INSEQ.out, List.map_append, List.map_cons, List.map_take, List.map_drop]
                      congr 2
                      rw [XC.out]; rfl)
                    clear hz2 HP hz3 TH ST LZ hi HGr G7 GX
                    go_wp2_with (first | refine wpl_loadV rfl _ rfl _ rfl X N7.out.avAt ?_ | refine wpList_store_mid rfl _ _ _ rfl g5 (k * 3) X.cs rfl rfl THH.out av_size (by simp [AV.cs, AV.cells, Value.oneCell']) ?_)
                    go_roundw
                    case rel => exact ⟨t + 1, by go_num, by omega, FB, Lib.hid ⟨_, SA.out, MP.out, (by first | exact FO.out | exact fr_set FO.out FX.out | exact fr_ins FO.out FX.out)⟩, SB⟩
                    case measure => simp [intOf]; omega
          · have INSEQ := Lib.hid (show insN x (O.map lnV) = (O.map lnV).take k ++ x :: (O.map lnV).drop k by
              have hkO : ¬ k < (O.map lnV).length := by rw [List.length_map, ← HN.out]; exact hkN
              rw [ins_at (x := x) (l := O.map lnV) (k := k) (by rw [List.length_map, ← HN.out]; omega) (fun i h hi => by have := HK.out i (by simpa using h) hi; simpa [lnV] using this) (fun h => absurd h hkO)]
              rw [if_neg (fun h => hkO h.1)])
            obtain ⟨wp, hwp⟩ : ∃ wp, wp = w4.drewN j := ⟨_, rfl⟩
            have DP := Lib.hid (show ∃ j, wp = w4.drewN j by rw [hwp]; exact ⟨j, rfl⟩)
            have BP := Lib.hid (show Below w4.heap.size w4 wp by obtain ⟨a, ha⟩ := DP.out; rw [ha]; exact below_drewN (Below.refl _ _) a)
            rw [← hwp]
            clear hwp
            go_wp2_with fail
            have KS := Lib.hid (show ∀ W, Below wp.heap.size wp W → (W.cell? ⟨q7, 0, none⟩ = some (.slice (some ⟨g, 0, none⟩) n cg) ∧ True) from fun W h => ⟨kept h (kept BP.out F0.out), trivial⟩)
            obtain ⟨wc, hwc⟩ : ∃ wc, wc = wp.drew := ⟨_, rfl⟩
            have Bc := Lib.hid (show Below wp.heap.size wp wc by rw [hwc]; exact (Below.refl _ _).drew)
            have DW := Lib.hid (show ∃ j, wc = w4.drewN j by obtain ⟨a, ha⟩ := DP.out; exact ⟨a + 1, by rw [hwc, ha]; exact World.drewN_drewN w4 a 1⟩)
            refine wp_region_held_drew (S := (fun W => (W.cell? ⟨q7, 0, none⟩ = some (.slice (some ⟨g, 0, none⟩) n cg) ∧ True))) (by kernel_rfl) (by rw [← hwc]; exact KS.out _ Bc.out) (fun h0 => ?_)
            rw [← hwc] at h0 ⊢
            clear hwc
            refine tkH (i := 0) (v := ?v1) rfl (Or.inl ⟨by rfl, ?hy1⟩) h0 ?rest1
            case hy1 => (intro w' hS; (try dsimp only at hS); go_simp; try (with_reducible rfl))
            simp only [Act.put, sA, sB, sD, sE, sF]
            refine tkH (i := 1) (v := ?v2) rfl (Or.inl ⟨by rfl, ?hy2⟩) h0 ?rest2
            case hy2 => (intro w' hS; (try dsimp only at hS); go_simp; try (with_reducible rfl))
            simp only [Act.put, sZ]
            refine tkH (i := 2) (v := ?v3) rfl (Or.inl ⟨by rfl, ?hy3⟩) h0 ?rest3
            case hy3 => (intro w' hS; (try dsimp only at hS); go_simp; try (with_reducible rfl))
            simp only [Act.put, sZ]
            refine tkH (i := 3) (v := ?v4) rfl (Or.inl ⟨by rfl, ?hy4⟩) h0 ?rest4
            case hy4 => (intro w' hS; (try dsimp only at hS); go_simp; try (with_reducible rfl))
            simp only [Act.put, sZ]
            refine tkH (i := 4) (v := ?v5) rfl (Or.inl ⟨by rfl, ?hy5⟩) h0 ?rest5
            case hy5 => (intro w' hS; (try dsimp only at hS); go_simp; try (with_reducible rfl))
            simp only [Act.put, sZ]
            refine tkH (i := 5) (v := undef) rfl (Or.inr ⟨by rfl, rfl⟩) h0 ?_
            simp only [Act.put, sZ]
            refine tkH (i := 6) (v := undef) rfl (Or.inr ⟨by rfl, rfl⟩) h0 ?_
            simp only [Act.put, sZ]
            refine tkH (i := 7) (v := undef) rfl (Or.inr ⟨by rfl, rfl⟩) h0 ?_
            simp only [Act.put, sZ]
            refine tkH (i := 8) (v := undef) rfl (Or.inr ⟨by rfl, rfl⟩) h0 ?_
            simp only [Act.put, sZ]
            refine tkH (i := 9) (v := undef) rfl (Or.inr ⟨by rfl, rfl⟩) h0 ?_
            simp only [Act.put, sZ]
            refine tkH (i := 10) (v := undef) rfl (Or.inr ⟨by rfl, rfl⟩) h0 ?_
            simp only [Act.put, sZ]
            refine tkH (i := 11) (v := undef) rfl (Or.inr ⟨by rfl, rfl⟩) h0 ?_
            simp only [Act.put, sZ]
            refine tkH (i := 12) (v := undef) rfl (Or.inr ⟨by rfl, rfl⟩) h0 ?_
            simp only [Act.put, sZ]
            refine tkH (i := 13) (v := undef) rfl (Or.inr ⟨by rfl, rfl⟩) h0 ?_
            simp only [Act.put, sZ]
            refine tkH (i := 14) (v := ?v6) rfl (Or.inl ⟨by rfl, ?hy6⟩) h0 ?rest6
            case hy6 => (intro w' hS; (try dsimp only at hS); go_simp; try (with_reducible rfl))
            simp only [Act.put, sA, sB, sC, sD]
            try simp only [sF]
            try simp only [sE]
            refine wpAnyH_done (by kernel_rfl) ?_ _
            obtain ⟨wp, hwp⟩ : ∃ wp, wp = wc := ⟨_, rfl⟩
            have DP := Lib.hid (show ∃ j, wp = w4.drewN j by rw [hwp]; exact DW.out)
            have BP := Lib.hid (show Below w4.heap.size w4 wp by obtain ⟨a, ha⟩ := DP.out; rw [ha]; exact below_drewN (Below.refl _ _) a)
            rw [← hwp]
            clear hwp
            go_wp2_with fail
            have KS := Lib.hid (show ∀ W, Below wp.heap.size wp W → (W.cell? ⟨q7, 0, none⟩ = some (.slice (some ⟨g, 0, none⟩) n cg) ∧ True) from fun W h => ⟨kept h (kept BP.out F0.out), trivial⟩)
            obtain ⟨wc, hwc⟩ : ∃ wc, wc = wp.drew := ⟨_, rfl⟩
            have Bc := Lib.hid (show Below wp.heap.size wp wc by rw [hwc]; exact (Below.refl _ _).drew)
            have DW := Lib.hid (show ∃ j, wc = w4.drewN j by obtain ⟨a, ha⟩ := DP.out; exact ⟨a + 1, by rw [hwc, ha]; exact World.drewN_drewN w4 a 1⟩)
            refine wp_region_held_drew (S := (fun W => (W.cell? ⟨q7, 0, none⟩ = some (.slice (some ⟨g, 0, none⟩) n cg) ∧ True))) (by kernel_rfl) (by rw [← hwc]; exact KS.out _ Bc.out) (fun h0 => ?_)
            rw [← hwc] at h0 ⊢
            clear hwc
            refine tkH (i := 0) (v := ?v7) rfl (Or.inl ⟨by rfl, ?hy7⟩) h0 ?rest7
            case hy7 => (intro w' hS; (try dsimp only at hS); go_simp; try (with_reducible rfl))
            simp only [Act.put, sA, sB, sD, sE, sF]
            refine tkH (i := 1) (v := ?v8) rfl (Or.inl ⟨by rfl, ?hy8⟩) h0 ?rest8
            case hy8 => (intro w' hS; (try dsimp only at hS); go_simp; try (with_reducible rfl))
            simp only [Act.put, sZ]
            refine tkH (i := 2) (v := ?v9) rfl (Or.inl ⟨by rfl, ?hy9⟩) h0 ?rest9
            case hy9 => (intro w' hS; (try dsimp only at hS); go_simp; try (with_reducible rfl))
            simp only [Act.put, sZ]
            refine tkH (i := 3) (v := ?v10) rfl (Or.inl ⟨by rfl, ?hy10⟩) h0 ?rest10
            case hy10 => (intro w' hS; (try dsimp only at hS); go_simp; try (with_reducible rfl))
            simp only [Act.put, sZ]
            refine tkH (i := 4) (v := ?v11) rfl (Or.inl ⟨by rfl, ?hy11⟩) h0 ?rest11
            case hy11 => (intro w' hS; (try dsimp only at hS); go_simp; try (with_reducible rfl))
            simp only [Act.put, sZ]
            refine tkH (i := 5) (v := undef) rfl (Or.inr ⟨by rfl, rfl⟩) h0 ?_
            simp only [Act.put, sZ]
            refine tkH (i := 6) (v := undef) rfl (Or.inr ⟨by rfl, rfl⟩) h0 ?_
            simp only [Act.put, sZ]
            refine tkH (i := 7) (v := undef) rfl (Or.inr ⟨by rfl, rfl⟩) h0 ?_
            simp only [Act.put, sZ]
            refine tkH (i := 8) (v := undef) rfl (Or.inr ⟨by rfl, rfl⟩) h0 ?_
            simp only [Act.put, sZ]
            refine tkH (i := 9) (v := undef) rfl (Or.inr ⟨by rfl, rfl⟩) h0 ?_
            simp only [Act.put, sZ]
            refine tkH (i := 10) (v := undef) rfl (Or.inr ⟨by rfl, rfl⟩) h0 ?_
            simp only [Act.put, sZ]
            refine tkH (i := 11) (v := undef) rfl (Or.inr ⟨by rfl, rfl⟩) h0 ?_
            simp only [Act.put, sZ]
            refine tkH (i := 12) (v := undef) rfl (Or.inr ⟨by rfl, rfl⟩) h0 ?_
            simp only [Act.put, sZ]
            refine tkH (i := 13) (v := undef) rfl (Or.inr ⟨by rfl, rfl⟩) h0 ?_
            simp only [Act.put, sZ]
            refine tkH (i := 14) (v := ?v12) rfl (Or.inl ⟨by rfl, ?hy12⟩) h0 ?rest12
            case hy12 => (intro w' hS; (try dsimp only at hS); go_simp; try (with_reducible rfl))
            simp only [Act.put, sA, sB, sC, sD]
            try simp only [sF]
            try simp only [sE]
            refine wpAnyH_done (by kernel_rfl) ?_ _
            go_upto_region 15 with (fail)
            obtain ⟨wp, hwp⟩ : ∃ wp, wp = wc := ⟨_, rfl⟩
            have DP := Lib.hid (show ∃ j, wp = w4.drewN j by rw [hwp]; exact DW.out)
            have BP := Lib.hid (show Below w4.heap.size w4 wp by obtain ⟨a, ha⟩ := DP.out; rw [ha]; exact below_drewN (Below.refl _ _) a)
            rw [← hwp]
            clear hwp
            have BX := Lib.hid (show Below w4.heap.size w4 wp from BP.out)
            have OW5 := Lib.hid ((OW2.out.on BX.out).on (one_more (.cells av0.cs 25)))
            have HB5 := Lib.hid (below_on (below_on HB2.out BX.out) (one_more (.cells av0.cs 25)))
            have A5 := Lib.hid ((BkV.made wp av0).avAt)
            have N5 := Lib.hid ((N2.out.kept BX.out).kept (one_more (.cells av0.cs 25)))
            have G5 := Lib.hid ((G2.out.on BX.out).on (one_more (.cells av0.cs 25)))
            have z5 := HB5.out.size
            have ZS := Lib.hid (show q7 < (wp.alloc (.cells av0.cs 25)).heap.size from N5.out.lt)
            have GV := Lib.hid (show GoodV (wp.alloc (.cells av0.cs 25)) (Value.slice ao2 O.length cp2).ownBlock av0 from ⟨fun t ht => by simp [av0] at ht, fun p e => by simp [av0] at e, fun _ => ⟨rfl, rfl⟩, Nat.le_refl _, Nat.zero_le _⟩)
            rw [← HN.out] at OW5 GV
            have OB5 := Lib.hid (show ∀ b, (Value.slice ao2 N cp2).ownBlock = some b → b < wr.heap.size by rw [HN.out]; exact OBB.out)
            go_wp2_with (first | refine wpl_bv1 rfl _ rfl av0 (by first | rfl | simp [Act.eval, av0, AV.cs, AV.cells]) ?_ | (at_builtin; refine wpl_appV rfl _ _ rfl w.heap.size _ O av0 rfl OW5.out _ _ rfl A5.out GV.out (by have := NL.out; have := HN.out; omega) z5 ?_))
            intro v' w6 o6 g6 f6
            obtain ⟨g5, c5, rfl, hB5, hlt5, _⟩ := o6.form (by simp)
            have LL := Lib.hid (show (O ++ [av0]).length = N + 1 by rw [HN.out]; simp)
            have BB5 := Lib.hid (show g5 ≠ q7 ∧ g5 ≠ g ∧ w.heap.size ≤ g5 by
              have h1 := Z7.out
              have h2 := ZS.out
              have h3 := hB5
              have h5 : (wp.alloc (.cells av0.cs 25)).heap.size = wp.heap.size + 1 := by simp
              have f7 : (Value.slice (some ⟨g5, 0, none⟩) (O ++ [av0]).length c5).ownBlock = some g5 := rfl
              rw [f7] at f6
              rcases f6 with h | h
              · have := OB5.out g5 h.symm; refine ⟨?_, ?_, ?_⟩ <;> omega
              · have h4 := Option.some.inj h; (try simp only [World.size_alloc] at h4); refine ⟨?_, ?_, ?_⟩ <;> omega)
            have N6 := Lib.hid (show BkV w6 q7 X from (g6.block q7 N5.out.lt (fun e => by have := OB5.out q7 e.symm; have := Z7.out; omega)).trans N5.out)
            have G6 := Lib.hid (show OwnI w6 wr.heap.size g cg x.a from World.ownsRow.kept G5.out g6 (Or.inr (fun e => by have := OB5.out g (by simpa [Value.ownBlock] using e.symm); have := Z7.out; omega)))
            have B6 := Lib.hid (Below.grown HB5.out g6 HB5.out.size (fun k hk => (World.ownsRow.lt OW5.out.row k hk).1))
            have hk' : k ≤ O.length := by rw [← HN.out]; omega
            have P6 := Lib.hid (show OwnV w6 w.heap.size (.slice (some ⟨g5, 0, none⟩) (N + 1) c5) (O.take N ++ av0 :: O.drop N) by rw [← LL.out, HN.out, List.take_length, List.drop_length]; exact o6)
            have KO := Lib.hid hk'
            rw [LL.out]
            clear o6 g6 f6 hB5 hlt5 z5 OW5 HB5 A5 N5 G5 GV hk'
            have hwN : wrap64 (N : Int) = N := by have := NL.out; unfold wrap64; omega
            have HWN := Lib.hid hwN
            go_wp2_with fail
            clear hwN
            generalize wr = wo at *
            go_loopw [9] (fun s wr => ∃ jj : Nat, s = .int .i64 jj ∧ k ≤ jj ∧ jj ≤ N ∧ Hid (∃ z, OwnV wr w.heap.size (.slice (some ⟨g5, 0, none⟩) (N + 1) c5) (O.take jj ++ z :: O.drop jj)) ∧ Hid (w6.grownBy wr (some g5))) (fun s _ => (intOf s).toNat - k)
            case atStart => exact ⟨N, by first | rfl | rw [HWN.out], by omega, by omega, Lib.hid ⟨av0, P6.out⟩, Lib.hid (World.grownBy.refl _ _)⟩
            case round =>
              clear P6
              obtain ⟨jj, rfl, hk1, hk2, HP, HGr⟩ := hrel
              obtain ⟨z2, hz2⟩ := HP.out
              by_cases hjk : k < jj
              · exact absurd hjk (by omega)
              · obtain rfl : k = jj := by omega
                have hi : k ≤ O.length := KO.out
                have LZ : (O.take k ++ z2 :: O.drop k).length = N + 1 := by have := HN.out; simp; omega
                have hz3 : OwnV wr w.heap.size (.slice (some ⟨g5, 0, none⟩) (O.take k ++ z2 :: O.drop k).length c5) (O.take k ++ z2 :: O.drop k) := by rw [LZ]; exact hz2
                have TH := hz3.there (i := k) (by rw [LZ]; omega)
                have N7 := Lib.hid (show BkV wr q7 X from N6.out.grown HGr.out (Ne.symm BB5.out.1))
                have G7 := G6.out.grown HGr.out (Ne.symm BB5.out.2.1)
                have GX : GoodV wr (some g5) X := by
                  rw [XC.out]
                  refine ⟨G7.rd, fun p e => ?_, fun e => by (cases e), G7.capOk⟩
                  cases e
                  exact ⟨fun e => by injection e with e; exact BB5.out.2.1 e, G7.lt.2⟩
                have ST := hz3.set k (y := X) GX
                rw [shift_last hi, LZ] at ST
                have THH := Lib.hid TH
                have SA := Lib.hid ST.1
                have SB := Lib.hid (Below.grown B6.out (grownT HGr.out ST.2) B6.out.size (fun k' hk => by have := BB5.out.2.2; injection hk with hk; omega))
                have MP := Lib.hid (show (O.take k ++ X :: O.drop k).map lnV = insL (keepR ((L.map lnV).take (t + 1))) by
                  rw [KN.out, insL_snoc, ← EO.out, INSEQ.out, List.map_append, List.map_cons, List.map_take, List.map_drop]
                  congr 2
                  rw [XC.out]; rfl)
                clear hz2 HP hz3 TH ST LZ hi HGr G7 GX
                go_wp2_with (first | refine wpl_loadV rfl _ rfl _ rfl X N7.out.avAt ?_ | refine wpList_store_mid rfl _ _ _ rfl g5 (k * 3) X.cs rfl rfl THH.out av_size (by simp [AV.cs, AV.cells, Value.oneCell']) ?_)
                go_roundw
                case rel => exact ⟨t + 1, by go_num, by omega, FB, Lib.hid ⟨_, SA.out, MP.out, (by first | exact FO.out | exact fr_set FO.out FX.out | exact fr_ins FO.out FX.out)⟩, SB⟩
                case measure => simp [intOf]; omega
    · have HE := Lib.hid (show T = insL (keepR (L.map lnV)) by
        have e : (L.map lnV).take t = L.map lnV := List.take_of_length_le (by have := HM.out; simp; omega)
        rw [HT.out]; unfold tidR
        have := HF.out
        rw [e] at this
        rw [this, if_neg (by simp)])
      obtain ⟨O, hO, eO, fO⟩ := HO.out
      have FO := Lib.hid fO
      have OW := Lib.hid hO
      have EO := Lib.hid (show O.map lnV = T by
        rw [HE.out, eO, List.take_of_length_le (by have := HM.out; simp; omega)])
      clear HO hO eO fO
      go_wp2_with fail
      go_ret
      exact ⟨_, O, rfl, OW.out, EO.out, FO.out, HB.out⟩
theorem rtidy_any (n : Nat) (L : List AV) (ao : Option Addr) (cap : Nat) (w : World) (hn : n ≤ 100) (hl : L.length ≤ 100000) (hR : RdV w ao L) (hY : ∀ y ∈ L, y.a.length = n ∧ NilOk y ∧ (∀ v ∈ y.a, A63 v) ∧ A63 y.b) :
    Calls Tryz.prog 73 #[.int .i64 n, .slice ao L.length cap] w (TRes w (tidR n (L.map lnV))) :=
  (rtidyF_any n L ao cap w hn hl hR hY).mono fun _ _ ⟨v, R, h1, h2, h3, _, h5⟩ => ⟨v, R, h1, h2, h3, h5⟩
end Go.Proofs.YtbhaoaobhgilkaaGreat
