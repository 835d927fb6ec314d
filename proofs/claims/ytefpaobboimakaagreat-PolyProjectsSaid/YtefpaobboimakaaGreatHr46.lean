/- The contract of Without of layer 7's reference, and that it is what the project's Without is told to return.; What the law PolyLeaves holds on to while it writes into its own copy.; The law PolyLeaves returns true. -/
import Derived.Test.YtefpaobboimakaaGreatHr43
import Derived.Test.YtefpaobboimakaaGreatHr44
import Derived.Test.YtefpaobboimakaaGreatHr45

namespace Go.Proofs.YtefpaobboimakaaGreat
open Go.RowKit Go.Sort Go.Shelf

def rwE (n : Int) (L : List AV) (I : Int) : Int := if chkP n L = 0 then (if 0 ≤ I ∧ I < n then leaveEr n.toNat (L.map lnV) I.toNat else 2) else chkP n L

theorem valid_fitV {n : Int} {y : AV} (h : validB n y = true) : FitV n.toNat y := by
  unfold validB at h
  simp only [Bool.and_eq_true, decide_eq_true_eq, List.all_eq_true] at h
  obtain ⟨⟨h1, h2⟩, h3⟩ := h
  refine ⟨by omega, fun v hv => ?_, ?_⟩
  · have := h2 v hv; unfold fitB at this; simpa using this
  · unfold fitB at h3; simpa using h3

set_option maxRecDepth 100000 in
set_option maxHeartbeats 4000000 in
theorem rwithout_any (n I : Int) (L : List AV) (ao : Option Addr) (cap : Nat) (w : World) (hR : RdV w ao L) (hY : ∀ y ∈ L, y.a.length ≤ 1000000 ∧ NilOk y) :
    Calls Tryz.prog 15 #[.int .i64 n, .slice ao L.length cap, .int .i64 I] w (LrRes w (rwE n L I) (leaveLr n.toNat (L.map lnV) I.toNat)) := by
  obtain ⟨m, hm⟩ : ∃ m, m = L.length := ⟨_, rfl⟩
  have HM := Lib.hid hm
  have CK := Lib.hid (rcheck_any n L ao cap w hR (fun y hy => (hY y hy).1))
  have HR := Lib.hid hR
  have HY := Lib.hid hY
  rw [← hm] at CK ⊢
  obtain ⟨c, hc⟩ : ∃ c, c = chkP n L := ⟨_, rfl⟩
  have HC := Lib.hid hc
  rw [← hc] at CK
  by_cases h0 : c = 0
  case neg =>
    have HE := Lib.hid (show rwE n L I = c by unfold rwE; rw [← HC.out, if_neg h0])
    have h0' : (c != 0) = true := by simpa using h0
    have HN := Lib.hid h0
    clear hR hY hm hc h0
    go_enter Tryz.func15, Tryz.ntmps15
    go_wp2_with fail
    refine CK.out.mono ?_
    rintro e w1 ⟨rfl, hb⟩
    have B1 := Lib.hid hb
    clear hb
    go_wp2_with fail
    refine bodyPost_ret (v := .tuple #[.slice none 0 0, .int .i64 c]) (by simp [results, Tryz.results15, go_sem]) rfl ?_
    exact Or.inr ⟨by rw [HE.out]; exact HN.out, by rw [HE.out], B1.out⟩
  subst h0
  by_cases h1 : 0 ≤ I ∧ I < n
  case neg =>
    have HE := Lib.hid (show rwE n L I = 2 by unfold rwE; rw [if_pos HC.out.symm, if_neg h1])
    clear hR hY hm hc
    by_cases h2 : I < 0
    · go_enter Tryz.func15, Tryz.ntmps15
      go_wp2_with fail
      refine CK.out.mono ?_
      rintro e w1 ⟨rfl, hb⟩
      have B1 := Lib.hid hb
      clear hb
      go_wp2_with fail
      refine bodyPost_ret (v := .tuple #[.slice none 0 0, .int .i64 2]) (by simp [results, Tryz.results15, go_sem]) rfl ?_
      exact Or.inr ⟨by rw [HE.out]; decide, by rw [HE.out], B1.out⟩
    · have h3 : n ≤ I := by omega
      go_enter Tryz.func15, Tryz.ntmps15
      go_wp2_with fail
      refine CK.out.mono ?_
      rintro e w1 ⟨rfl, hb⟩
      have B1 := Lib.hid hb
      clear hb
      go_wp2_with fail
      refine bodyPost_ret (v := .tuple #[.slice none 0 0, .int .i64 2]) (by simp [results, Tryz.results15, go_sem]) rfl ?_
      exact Or.inr ⟨by rw [HE.out]; decide, by rw [HE.out], B1.out⟩
  obtain ⟨⟨g1, g2⟩, g3, g4⟩ := chk_valid hc.symm
  obtain ⟨n', rfl⟩ : ∃ n' : Nat, n = n' := ⟨n.toNat, by omega⟩
  obtain ⟨i, rfl⟩ : ∃ i : Nat, I = i := ⟨I.toNat, by omega⟩
  have HE := Lib.hid (show rwE n' L i = leaveEr n' (L.map lnV) i by unfold rwE; rw [if_pos HC.out.symm, if_pos h1]; rfl)
  have LV := Lib.hid (fun W (h : Below w.heap.size w W) => rleave_any n' i L ao cap W (by omega) (by omega) (by omega) (hR.on h) (fun y hy => ⟨by have := valid_fitV (g4 y hy); simpa using this, (hY y hy).2⟩))
  rw [← hm] at LV
  obtain ⟨E, hE⟩ : ∃ E, E = leaveEr n' (L.map lnV) i := ⟨_, rfl⟩
  obtain ⟨T, hT⟩ : ∃ T, T = leaveLr n' (L.map lnV) i := ⟨_, rfl⟩
  rw [← hE, ← hT] at LV
  rw [← hE] at HE
  rw [HE.out]
  simp only [Int.toNat_natCast]
  rw [← hT]
  have i0 : ¬ (i : Int) < 0 := by omega
  have i1 : ¬ (n' : Int) ≤ i := by omega
  clear hR hY hm hc g1 g2 g3 g4 h1 hE hT HC
  go_enter Tryz.func15, Tryz.ntmps15
  go_wp2_with fail
  refine CK.out.mono ?_
  rintro e w1 ⟨rfl, hb⟩
  have B1 := Lib.hid hb
  clear hb
  go_wp2_with fail
  refine (LV.out _ B1.out).mono ?_
  rintro e w2 (⟨he, v, R, rfl, hO, hm, hb⟩ | ⟨he, rfl, hb⟩)
  · have X1 := Lib.hid (And.intro he (And.intro (hO.base B1.out.size) (And.intro hm (below_on B1.out hb))))
    clear he hO hm hb
    go_wp2_with fail
    refine bodyPost_ret (v := .tuple #[v, .int .i64 0]) (by simp [results, Tryz.results15, go_sem]) rfl ?_
    exact Or.inl ⟨X1.out.1, v, R, rfl, X1.out.2.1, X1.out.2.2.1, X1.out.2.2.2⟩
  · have X1 := Lib.hid (And.intro he (below_on B1.out hb))
    clear he hb
    go_wp2_with fail
    refine bodyPost_ret (v := .tuple #[.slice none 0 0, .int .i64 E]) (by simp [results, Tryz.results15, go_sem]) rfl ?_
    exact Or.inr ⟨X1.out.1, rfl, X1.out.2⟩

/-- What came in, as the project has it, and as the reference has it. -/
theorem tk_ofV {n : Nat} {y : AV} (h : FitV n y) (hn : n ≤ 6) : tk n (ofV y) = lnV y ∧ DomN n (ofV y) := by
  obtain ⟨h1, _, _⟩ := h
  refine ⟨?_, ?_, fun j hj => ?_⟩
  · unfold tk ofV lnV
    simp only [Ln.mk.injEq, and_true]
    rw [← h1, List.take_left']
    rfl
  · unfold ofV; simp; omega
  · unfold ofV gA
    rw [List.getD_eq_getElem?_getD, List.getElem?_append_right (by omega)]
    rw [List.getElem?_replicate]
    split <;> rfl

theorem ofV_map {L : List AV} {R : List AV} (h : R.map lnV = L.map lnV) : R.map ofV = L.map ofV := by
  have e : ∀ y : AV, ofV y = (fun x : Ln => (⟨x.a ++ List.replicate (6 - x.a.length) 0, x.b, x.s⟩ : Ln)) (lnV y) := fun _ => rfl
  have key : ∀ K : List AV, K.map ofV = (K.map lnV).map (fun x : Ln => (⟨x.a ++ List.replicate (6 - x.a.length) 0, x.b, x.s⟩ : Ln)) := fun K => by
    rw [List.map_map]; rfl
  rw [key, key, h]

theorem chkP_map {n : Int} {L R : List AV} (h : R.map lnV = L.map lnV) : chkP n R = chkP n L := by
  have hl : R.length = L.length := by have := congrArg List.length h; simpa using this
  have key : ∀ K : List AV, K.any (fun y => !validB n y) = (K.map lnV).any (fun x => !(decide ((x.a.length : Int) = n) && x.a.all fitB && fitB x.b)) := fun K => by
    rw [List.any_map]; rfl
  unfold chkP
  rw [hl, key, key, h]

theorem woE_rwE {n I : Int} {L R : List AV} (h : R.map lnV = L.map lnV) : witE n R I = rwE n L I := by
  unfold witE rwE
  rw [chkP_map h]
  by_cases hc : chkP n L = 0
  · rw [if_pos hc, if_pos hc]
    unfold woE
    by_cases h1 : 0 ≤ I ∧ I < n
    · rw [if_pos h1, if_pos h1, ofV_map h]
      obtain ⟨⟨g1, g2⟩, g3, g4⟩ := chk_valid hc
      have key : (L.map ofV).map (tk n.toNat) = L.map lnV := by
        rw [List.map_map]
        exact List.map_congr_left fun y hy => (tk_ofV (valid_fitV (g4 y hy)) (by omega)).1
      rw [← key, leaveE_tk (by omega) (by omega)]
      intro x hx
      obtain ⟨y, hy, rfl⟩ := List.mem_map.1 hx
      exact (tk_ofV (valid_fitV (g4 y hy)) (by omega)).2
    · rw [if_neg h1, if_neg h1]
  · rw [if_neg hc, if_neg hc]

theorem woL_rwL {n I : Int} {L R : List AV} (h : R.map lnV = L.map lnV) (hc : chkP n L = 0) (h1 : 0 ≤ I ∧ I < n) : (leaveL (R.map ofV) I.toNat).map (erL n.toNat I.toNat) = leaveLr n.toNat (L.map lnV) I.toNat := by
  rw [ofV_map h]
  obtain ⟨⟨g1, g2⟩, g3, g4⟩ := chk_valid hc
  have key : (L.map ofV).map (tk n.toNat) = L.map lnV := by
    rw [List.map_map]
    exact List.map_congr_left fun y hy => (tk_ofV (valid_fitV (g4 y hy)) (by omega)).1
  rw [← key, leaveL_tk (by omega) (by omega)]
  intro x hx
  obtain ⟨y, hy, rfl⟩ := List.mem_map.1 hx
  exact (tk_ofV (valid_fitV (g4 y hy)) (by omega)).2
end Go.Proofs.YtefpaobboimakaaGreat

namespace Go.Proofs.YtefpaobboimakaaGreat
open Go.RowKit Go.Sort Go.Shelf

/-- A list of lines that came back, in memory from W on. -/
def ResA (W A : World) (v : Value) (l : List Ln) : Prop := (v = .slice none 0 0 ∧ l = []) ∨ ∃ b n c Lr, v = .slice (some ⟨b, 0, none⟩) Lr.length c ∧ RowV A b n Lr ∧ Lr.map lnV = l ∧ W.heap.size ≤ b

theorem ResA.rd {W A : World} {v : Value} {l : List Ln} (h : ResA W A v l) : ∃ ao R c, v = .slice ao R.length c ∧ RdV A ao R ∧ R.map lnV = l := by
  rcases h with ⟨rfl, rfl⟩ | ⟨b, n, c, Lr, rfl, h, e, _⟩
  · exact ⟨none, [], 0, rfl, ⟨fun t ht => by simp at ht, fun y hy => by simp at hy⟩, rfl⟩
  · exact ⟨_, Lr, c, rfl, h.rd, e⟩

theorem ResA.on {W A B : World} {v : Value} {l : List Ln} (h : ResA W A v l) (hb : Below A.heap.size A B) : ResA W B v l := by
  rcases h with h | ⟨b, n, c, Lr, e, h, h2, h3⟩
  · exact Or.inl h
  · exact Or.inr ⟨b, n, c, Lr, e, h.on hb, h2, h3⟩

theorem RowV.asideJ {w : World} {b n : Nat} {L : List AV} (h : RowV w b n L) {k : Nat} (hk : k < b) (j : Nat) (v : Value) : RowV (w.setCell ⟨k, j, none⟩ v) b n L := by
  have far : ∀ p : Addr, p.block ≠ k → (w.setCell ⟨k, j, none⟩ v).cell? p = w.cell? p := fun p hp => World.cell?_setCell_other w ⟨k, j, none⟩ p v (fun e => hp (by rw [← e]))
  refine ⟨fun t ht j u hu => ?_, fun j hj => ?_, fun y hy => ?_, ?_⟩
  · have := h.at_ t ht j u hu
    rw [far _ (by rw [addr_add]; show b ≠ k; omega)]; exact this
  · rw [World.frozen?_setCell, far _ (by show b ≠ k; omega)]; exact h.there j hj
  · obtain ⟨g, e, hg, r⟩ := h.nums y hy
    refine ⟨g, e, hg, fun t ht => ?_⟩
    obtain ⟨p, e2, c⟩ := r t ht
    refine ⟨p, e2, ?_⟩
    have e3 : p = ⟨g, 0, none⟩ := by rw [e] at e2; injection e2 with e2; exact e2.symm
    rw [far _ (by rw [e3, addr_add]; show g ≠ k; omega)]; exact c
  · have := h.lt; simpa using this

theorem ResA.aside {W A : World} {v : Value} {l : List Ln} (h : ResA W A v l) {k : Nat} (hk : k < W.heap.size) (j : Nat) (y : Value) : ResA W (A.setCell ⟨k, j, none⟩ y) v l := by
  rcases h with h | ⟨b, n, c, Lr, e, h, h2, h3⟩
  · exact Or.inl h
  · exact Or.inr ⟨b, n, c, Lr, e, h.asideJ (by omega) j y, h2, h3⟩

def leftL (n I : Int) (L : List AV) : List Ln := if rwE n L I = 0 then leaveLr n.toNat (L.map lnV) I.toNat else []

theorem without_res {n I : Int} {L R : List AV} (ro : Option Addr) (rc : Nat) (w : World) (hR : RdV w ro R) (h : R.map lnV = L.map lnV) :
    Calls Tryz.prog 13 #[.int .i64 n, .slice ro R.length rc, .int .i64 I] w (fun e w' => ∃ v, e = .returned (.tuple #[v, .int .i64 (rwE n L I)]) ∧ ResA w w' v (leftL n I L) ∧ Below w.heap.size w w') := by
  refine (without_any n I R ro rc w hR).mono ?_
  rintro e w' ⟨hb, (⟨he, W, v, hW, rfl, hv⟩ | ⟨he, rfl⟩)⟩
  · rw [woE_rwE h] at he
    refine ⟨v, by rw [he], ?_, hb⟩
    obtain ⟨b, Lr, rfl, h1, h2, h3⟩ := hv
    have hc : chkP n L = 0 := by
      unfold rwE at he
      by_cases q : chkP n L = 0
      · exact q
      · rw [if_neg q] at he; exact absurd he q
    have hi : 0 ≤ I ∧ I < n := by
      unfold rwE at he
      rw [if_pos hc] at he
      by_cases q : 0 ≤ I ∧ I < n
      · exact q
      · rw [if_neg q] at he; cases he
    have hm := isCh_map h1
    rw [woL_rwL h hc hi] at hm
    have hl : Lr.length = (leaveL (R.map ofV) I.toNat).length := by have := congrArg List.length h1; simpa using this
    refine Or.inr ⟨b, _, _, Lr, by rw [hl], h2, ?_, ?_⟩
    · rw [hm]; unfold leftL; rw [if_pos he]
    · exact Nat.le_trans hW.size h3
  · rw [woE_rwE h] at he ⊢
    exact ⟨_, rfl, Or.inl ⟨rfl, by unfold leftL; rw [if_neg he]⟩, hb⟩

theorem rwithout_res (n I : Int) (L : List AV) (ao : Option Addr) (cap : Nat) (w : World) (hR : RdV w ao L) (hY : ∀ y ∈ L, y.a.length ≤ 1000000 ∧ NilOk y) :
    Calls Tryz.prog 15 #[.int .i64 n, .slice ao L.length cap, .int .i64 I] w (fun e w' => ∃ bo Lb cb, e = .returned (.tuple #[.slice bo Lb.length cb, .int .i64 (rwE n L I)]) ∧ RdV w' bo Lb ∧ Lb.map lnV = leftL n I L ∧ Below w.heap.size w w') := by
  refine (rwithout_any n I L ao cap w hR hY).mono ?_
  rintro e w' (⟨he, v, R, rfl, hO, hm, hb⟩ | ⟨he, rfl, hb⟩)
  · obtain ⟨bo, cb, rfl, h1, _⟩ := hO.read
    exact ⟨bo, R, cb, by rw [he], h1, by rw [hm]; unfold leftL; rw [if_pos he], hb⟩
  · exact ⟨none, [], 0, rfl, ⟨fun t ht => by simp at ht, fun y hy => by simp at hy⟩, by unfold leftL; rw [if_neg he]; rfl, hb⟩

/-- While the law writes into its own copy R (at ro): what lay in memory at first; the headers; the numbers that are written; what came back. -/
structure LoopI (w W wr : World) (ro : Option Addr) (R : List AV) (v : Value) (l : List Ln) : Prop where
  be : Below w.heap.size w wr
  hd : ∀ t, ∀ h : t < R.length, ∃ p, ro = some p ∧ AvAt wr (p.add (t * 3)) R[t]
  wt : ∀ y ∈ R, ∃ g, y.q = some ⟨g, 0, none⟩ ∧ w.heap.size ≤ g ∧ g < W.heap.size ∧ (∀ p, ro = some p → p.block ≠ g) ∧ ∀ j, j < y.a.length → (wr.cell? ⟨g, j, none⟩).isSome = true ∧ wr.frozen? ⟨g, j, none⟩ = false
  res : ResA W wr v l

theorem AvAt.aside {w : World} {p : Addr} {y : AV} (h : AvAt w p y) {g j : Nat} (hne : p.block ≠ g) (v : Value) : AvAt (w.setCell ⟨g, j, none⟩ v) p y := fun i u hu => by
  have := h i u hu
  rw [World.cell?_setCell_other w ⟨g, j, none⟩ _ v (fun e => hne (by have := congrArg Addr.block e; rw [add_block] at this; exact this.symm))]
  exact this

theorem LoopI.put {w W wr : World} {ro : Option Addr} {R : List AV} {v : Value} {l : List Ln} (h : LoopI w W wr ro R v l) {y : AV} (hy : y ∈ R) {g : Nat} (hg : y.q = some ⟨g, 0, none⟩) (j : Nat) (x : Value) : LoopI w W (wr.setCell ⟨g, j, none⟩ x) ro R v l := by
  obtain ⟨g', e, h1, h2, h3, _⟩ := h.wt y hy
  rw [hg] at e
  cases e
  refine ⟨h.be.setCell (p := ⟨g, j, none⟩) h1 _, fun t ht => ?_, fun z hz => ?_, h.res.aside h2 j x⟩
  · obtain ⟨p, e, c⟩ := h.hd t ht
    exact ⟨p, e, c.aside (by rw [add_block]; exact h3 p e) x⟩
  · obtain ⟨g', e, k1, k2, k3, k4⟩ := h.wt z hz
    refine ⟨g', e, k1, k2, k3, fun i hi => ?_⟩
    rw [World.frozen?_setCell]
    exact ⟨World.isSome_setCells g [x] j wr _ (k4 i hi).1, (k4 i hi).2⟩

theorem LoopI.start {w W W' : World} {B : Nat} {ro : Option Addr} {rc : Nat} {R : List AV} {v : Value} {l : List Ln} (hO : OwnV W B (.slice ro R.length rc) R) (hN : OwnN W B R) (hB : w.heap.size ≤ B) (hb : Below w.heap.size w W) (hW : Below W.heap.size W W') (hr : ResA W W' v l) : LoopI w W W' ro R v l := by
  refine ⟨below_on hb hW, fun t ht => ?_, fun y hy => ?_, hr⟩
  · obtain ⟨ao, cap, e, rd, _⟩ := hO.read
    cases e
    obtain ⟨p, e, c⟩ := rd.at_ t ht
    exact ⟨p, e, c.on hW⟩
  · obtain ⟨g, e, o⟩ := hN y hy
    have := o.lt
    refine ⟨g, e, by omega, this.2, fun p ep q => ?_, fun j hj => ?_⟩
    · have hf := (hO.far y hy _ e).1
      subst ep
      exact hf (by simpa [Value.ownBlock] using q)
    · have o2 := o.on hW
      exact ⟨by rw [o2.at hj]; rfl, o2.free j⟩
end Go.Proofs.YtefpaobboimakaaGreat

namespace Go.Proofs.YtefpaobboimakaaGreat
open Go.RowKit Go.Sort Go.Shelf

theorem case_agg (w : World) : (isAgg 28).run Tryz.prog w = .ok true w := by
  unfold isAgg; rw [Sem.run_bind, run_underlying Tryz.underlying28 w]; simp

theorem case_size : (Tryz.prog.info? 28).map (·.size) = some 9 := by kernel_rfl

theorem wpl_loadC {t : TypeId} {cs : List Value} (ha : ∀ w, (isAgg t).run Tryz.prog w = .ok true w) (hz : (Tryz.prog.info? t).map (·.size) = some cs.length) {w : World} {ops : Array Oper} {rest : List Oper} {o : Oper} {a : Act} {Q : Exit → Act → World → Prop} (hgd : o.guard = none) (s : Operand) (ho : o.op = .load t s) (p : Addr) (hs : a.eval s = .pointer (some p)) (hx : CsAt w p cs)
    (h : wpList Tryz.prog ops Q rest (a.put o.dst (.agg ⟨cs⟩)) w) : wpList Tryz.prog ops Q (o :: rest) a w :=
  wpList_plain hgd fun K hK => by
    have hv := cs_loadP (cs := cs) ha hz hx
    unfold Oper.wp execOp
    simp only [ho, hs, Instr.loadAt, Instr.sureAddr, Sem.run_bind, Sem.run_pure, Result.andThen_ok, hv]
    exact hK _ _ h

theorem rwE_zero {n I : Int} {L : List AV} (h : rwE n L I = 0) : chkP n L = 0 ∧ (0 ≤ I ∧ I < n) ∧ leaveEr n.toNat (L.map lnV) I.toNat = 0 := by
  unfold rwE at h
  by_cases q : chkP n L = 0
  · rw [if_pos q] at h
    by_cases q2 : 0 ≤ I ∧ I < n
    · rw [if_pos q2] at h; exact ⟨q, q2, h⟩
    · rw [if_neg q2] at h; cases h
  · rw [if_neg q] at h; exact absurd h q

theorem leftL_ok {n I : Int} {L : List AV} (hL : ∀ y ∈ L, y.a.length ≤ 20) : (leftL n I L).length ≤ 100000 ∧ ∀ x ∈ leftL n I L, x.a.length ≤ 1000000 := by
  unfold leftL
  by_cases h : rwE n L I = 0
  · rw [if_pos h]
    obtain ⟨hc, hi, he⟩ := rwE_zero h
    obtain ⟨⟨_, n5⟩, _, _⟩ := chk_valid hc
    have hk : ∀ x ∈ L.map lnV, x.a.length ≤ 20 := fun x hx => by
      obtain ⟨y, hy, rfl⟩ := List.mem_map.1 hx
      exact hL y hy
    have h1 : (zrs (L.map lnV) I.toNat).length + (ups (L.map lnV) I.toNat).length * (dns (L.map lnV) I.toNat).length ≤ 1000 := by
      unfold leaveEr at he
      by_cases q : 1000 < (zrs (L.map lnV) I.toNat).length + (ups (L.map lnV) I.toNat).length * (dns (L.map lnV) I.toNat).length
      · rw [if_pos q] at he; cases he
      · omega
    unfold leaveLr
    have hall : ∀ x ∈ (zrs (L.map lnV) I.toNat).map (shR I.toNat) ++ sumsR (L.map lnV) I.toNat, x.a.length ≤ 20 := fun x hx => by
      rcases List.mem_append.1 hx with q | q
      · obtain ⟨z, hz, rfl⟩ := List.mem_map.1 q
        have := hk z (List.mem_filter.1 hz).1
        exact Nat.le_trans (List.length_eraseIdx_le _ _) this
      · unfold sumsR at q
        obtain ⟨pr, hp, rfl⟩ := List.mem_map.1 q
        obtain ⟨p1, p2⟩ := mem_prs hp
        have := hk pr.1 (List.mem_filter.1 p1).1
        unfold sumRf
        rw [lowR_len]
        refine Nat.le_trans (List.length_eraseIdx_le _ _) ?_
        unfold combR
        simp; omega
    have hlen : ((zrs (L.map lnV) I.toNat).map (shR I.toNat) ++ sumsR (L.map lnV) I.toNat).length ≤ 1000 := by
      rw [List.length_append, List.length_map]
      unfold sumsR
      rw [List.length_map, prs_len]; exact h1
    generalize (zrs (L.map lnV) I.toNat).map (shR I.toNat) ++ sumsR (L.map lnV) I.toNat = K at *
    unfold tidR
    split
    · refine ⟨by simp, fun x hx => ?_⟩
      rw [List.mem_singleton] at hx
      subst hx
      simp; omega
    · refine ⟨?_, fun x hx => ?_⟩
      · refine Nat.le_trans (insL_len _) ?_
        unfold keepR
        refine Nat.le_trans (List.length_filter_le _ _) ?_
        simp; omega
      · have hx2 := (((insL_ok (keepR K)).2 x).1 hx).1
        unfold keepR at hx2
        obtain ⟨z, hz, rfl⟩ := List.mem_map.1 (List.mem_filter.1 hx2).1
        rw [lowR_len]
        have := hall z hz
        omega
  · rw [if_neg h]
    exact ⟨by simp, fun x hx => by simp at hx⟩

set_option maxRecDepth 100000 in
set_option maxHeartbeats 8000000 in
theorem leaves_any (N I xb : Int) (xs : Bool) (L M : List AV) (xa aa : List Int) (P : List Pq) (la ma xq pa aq : Option Addr) (lc mc xc pc ac : Nat) (w : World) (hR : RdV w la L) (hS : RdV w ma M) (hL : ∀ y ∈ L, NilOk y) :
    Calls Tryz.prog 3 #[.agg #[.int .i64 N, .slice la L.length lc, .slice ma M.length mc, .slice xq xa.length xc, .int .i64 xb, .bool xs, .int .i64 I, .slice pa P.length pc, .slice aq aa.length ac]] w (Made (.bool true) w) := by
  obtain ⟨l1, e1⟩ : ∃ n, n = L.length := ⟨_, rfl⟩
  obtain ⟨l2, e2⟩ : ∃ n, n = M.length := ⟨_, rfl⟩
  obtain ⟨l3, e3⟩ : ∃ n, n = xa.length := ⟨_, rfl⟩
  obtain ⟨l4, e4⟩ : ∃ n, n = P.length := ⟨_, rfl⟩
  obtain ⟨l5, e5⟩ : ∃ n, n = aa.length := ⟨_, rfl⟩
  obtain ⟨w0, hw0⟩ : ∃ w0, w0 = w.alloc (.cells #[.int .i64 N, .slice la l1 lc, .slice ma l2 mc, .slice xq l3 xc, .int .i64 xb, .bool xs, .int .i64 I, .slice pa l4 pc, .slice aq l5 ac] 28) := ⟨_, rfl⟩
  have E0 := Lib.hid (show Below w.heap.size w w0 by rw [hw0]; exact one_more _)
  have hq := heap_alloc_last w (.cells #[.int .i64 N, .slice la l1 lc, .slice ma l2 mc, .slice xq l3 xc, .int .i64 xb, .bool xs, .int .i64 I, .slice pa l4 pc, .slice aq l5 ac] 28)
  rw [← hw0] at hq
  have D0 := Lib.hid (show w0.cell? ⟨w.heap.size, 0, none⟩ = some (.int .i64 N) by rw [cell_of_row w0 _ 0 _ _ _ hq]; rfl)
  have D1 := Lib.hid (show w0.cell? ⟨w.heap.size, 1, none⟩ = some (.slice la l1 lc) by rw [cell_of_row w0 _ 1 _ _ _ hq]; rfl)
  have D6 := Lib.hid (show w0.cell? ⟨w.heap.size, 6, none⟩ = some (.int .i64 I) by rw [cell_of_row w0 _ 6 _ _ _ hq]; rfl)
  have C0 := Lib.hid (show CsAt w0 ⟨w.heap.size, 0, none⟩ [.int .i64 N, .slice la l1 lc, .slice ma l2 mc, .slice xq l3 xc, .int .i64 xb, .bool xs, .int .i64 I, .slice pa l4 pc, .slice aq l5 ac] from fun j v hv => by
    rw [addr_add, Nat.zero_add, cell_of_row w0 _ j _ _ _ hq]; simpa using hv)
  have BY := Lib.hid (beyond_any N I 60 xb xs L M xa aa P la ma xq pa aq lc mc xc pc ac w0 (hR.on E0.out) (hS.on E0.out))
  rw [← e1, ← e2, ← e3, ← e4, ← e5] at BY
  rw [← e1, ← e2, ← e3, ← e4, ← e5]
  have L1 := Lib.hid e1
  have HR := Lib.hid (hR.on E0.out)
  have HL := Lib.hid hL
  have LL := Lib.hid (show w.heap.size < w0.heap.size by rw [hw0]; simp)
  clear hR hS hL hq e1 e2 e3 e4 e5
  go_enter Tryz.func3, Tryz.ntmps3
  go_upto_region 1 with (fail)
  rw [← hw0]
  clear hw0
  go_wp2_with (refine wpl_loadC case_agg (by exact case_size) rfl _ rfl _ rfl C0.out ?_)
  refine BY.out.mono ?_
  rintro e w1 ⟨b, rfl, hb, hF⟩
  have B1 := Lib.hid hb
  have FK := Lib.hid hF
  clear hb hF BY C0
  cases b
  case true =>
    go_wp2_with fail
    refine (shown_any w1).mono ?_
    rintro e w2 ⟨rfl, hb⟩
    have B2 := Lib.hid (below_on E0.out (below_on B1.out hb))
    clear hb
    go_wp2_with fail
    go_ret
    exact ⟨rfl, B2.out⟩
  obtain ⟨⟨q1, q2, _⟩, _⟩ := FK.out (by first | rfl | trivial)
  have YL := Lib.hid q2
  have l2000 : l1 ≤ 2000 := by rw [L1.out]; exact q1
  have LT := Lib.hid (lent_any L la lc w1 (HR.out.on B1.out) (by omega) (fun y hy => ⟨by have := q2 y hy; omega, HL.out y hy⟩))
  rw [← L1.out] at LT
  have c1 := kept B1.out D1.out
  clear FK q1 q2
  go_wp2_with fail
  refine LT.out.mono ?_
  rintro e w2 ⟨v, R, rfl, hO, hm, hN, hb⟩
  obtain ⟨ro, rc, rfl, hr, _⟩ := hO.read
  obtain ⟨nr, hnr⟩ : ∃ nr, nr = R.length := ⟨_, rfl⟩
  have NR := Lib.hid hnr
  have NL := Lib.hid (show R.length = L.length by have := congrArg List.length hm; simpa using this)
  have HM := Lib.hid hm
  have HO := Lib.hid hO
  have HN := Lib.hid hN
  have RR := Lib.hid hr
  have B2 := Lib.hid (below_on B1.out hb)
  have ZB := Lib.hid B1.out.size
  have RY := Lib.hid (show ∀ y ∈ R, y.a.length ≤ 20 from fun y hy => by
    have h1 : lnV y ∈ L.map lnV := by rw [← hm]; exact List.mem_map.2 ⟨y, hy, rfl⟩
    obtain ⟨z, hz, e⟩ := List.mem_map.1 h1
    have h2 := (lnV_eq.1 e).1
    rw [← h2]; exact YL.out z hz)
  obtain ⟨kk, hkk⟩ : ∃ kk, kk = chkP N L := ⟨_, rfl⟩
  have CK := Lib.hid (check_any N R ro rc w2 hr)
  rw [chkP_map hm, ← hkk, ← hnr] at CK
  obtain ⟨er, her⟩ : ∃ er, er = rwE N L I := ⟨_, rfl⟩
  obtain ⟨lf, hlf⟩ : ∃ lf, lf = leftL N I L := ⟨_, rfl⟩
  have WO := Lib.hid (fun W (h : Below w2.heap.size w2 W) => without_res (n := N) (I := I) ro rc W (hr.on h) hm)
  rw [← her, ← hlf, ← hnr] at WO
  have RW := Lib.hid (fun W (h : Below w0.heap.size w0 W) => rwithout_res N I L la lc W (HR.out.on h) (fun y hy => ⟨by have := YL.out y hy; omega, HL.out y hy⟩))
  rw [← her, ← hlf, ← L1.out] at RW
  have LO := Lib.hid (show lf.length ≤ 100000 ∧ ∀ x ∈ lf, x.a.length ≤ 1000000 by rw [hlf]; exact leftL_ok YL.out)
  have RC := Lib.hid (fun W (h : Below w0.heap.size w0 W) => rcheck_any N L la lc W (HR.out.on h) (fun y hy => by have := YL.out y hy; omega))
  rw [← hkk, ← L1.out] at RC
  rw [← hnr]
  have c0 := kept B2.out D0.out
  clear hm hO hN hr hb hkk her hlf hnr c1
  go_wp2_with fail
  refine CK.out.mono ?_
  rintro e w3 ⟨rfl, hb⟩
  have B23 := Lib.hid hb
  have B3 := Lib.hid (below_on B2.out hb)
  have c0 := kept B3.out D0.out
  have c6 := kept B3.out D6.out
  clear hb CK
  go_wp2_with fail
  refine (WO.out w3 B23.out).mono ?_
  rintro e w4 ⟨v5, rfl, hA, hb⟩
  have HA := Lib.hid hA
  have B34 := Lib.hid hb
  have B4 := Lib.hid (below_on B3.out hb)
  have SA := Lib.hid (same_any R L ro la rc lc w4 ((RR.out.on B23.out).on hb) (HR.out.on B4.out) (by have := NL.out; have := L1.out; omega) (fun y hy => by have := RY.out y hy; omega))
  rw [decide_eq_true HM.out, ← NR.out, ← L1.out] at SA
  have c1 := kept B4.out D1.out
  clear hA hb WO c0 c6
  go_wp2_with fail
  refine SA.out.mono ?_
  rintro e w5 ⟨rfl, hb⟩
  have hO3 := HO.out.on B23.out
  have hN3 := HN.out.on B23.out
  have LI := Lib.hid (LoopI.start (w := w0) hO3 hN3 ZB.out B3.out (below_on B34.out hb) (HA.out.on hb))
  have nr2 : nr ≤ 2000 := by rw [NR.out, NL.out, ← L1.out]; exact l2000
  clear hb SA hO3 hN3 HO HN HA c1
  go_wp2_with fail
  go_loopw [7] (fun s wr => ∃ t : Nat, s = .int .i64 t ∧ t ≤ nr ∧ Hid (LoopI w0 w3 wr ro R v5 lf)) (fun s _ => nr - (intOf s).toNat)
  case atStart => exact ⟨0, rfl, by omega, LI⟩
  case round =>
    clear LI
    obtain ⟨t, rfl, ht, HI⟩ := hrel
    generalize wr = wo at *
    by_cases htn : t < nr
    · have hlt : t < R.length := by have := NR.out; omega
      obtain ⟨p, hp, zz1⟩ := HI.out.hd t hlt
      obtain ⟨g, yq, zz2⟩ := HI.out.wt _ (List.getElem_mem hlt)
      clear zz1 zz2
      have YQ := Lib.hid yq
      obtain ⟨m9, hm9⟩ : ∃ m9, m9 = R[t].a.length := ⟨_, rfl⟩
      have M9 := Lib.hid hm9
      have m20 : m9 ≤ 20 := by rw [hm9]; exact RY.out _ (List.getElem_mem hlt)
      obtain ⟨yc, hyc⟩ : ∃ yc, yc = R[t].c := ⟨_, rfl⟩
      have HDR := Lib.hid (show ∀ W, LoopI w0 w3 W (some p) R v5 lf → W.cell? (p.add (t * 3)) = some (.slice (some ⟨g, 0, none⟩) m9 yc) from fun W h => by
        obtain ⟨p', e, c⟩ := h.hd t hlt
        cases e
        rw [c.first, YQ.out, ← hm9, ← hyc])
      have WRT := Lib.hid (show ∀ W j, LoopI w0 w3 W (some p) R v5 lf → j < m9 → (∃ v, W.cell? ⟨g, j, none⟩ = some v) ∧ W.frozen? ⟨g, j, none⟩ = false from fun W j h hj => by
        obtain ⟨g', e, _, _, _, h5⟩ := h.wt _ (List.getElem_mem hlt)
        rw [YQ.out] at e
        cases e
        have := h5 j (by rw [← hm9]; exact hj)
        exact ⟨Option.isSome_iff_exists.1 this.1, this.2⟩)
      have PUT := Lib.hid (show ∀ W j x, LoopI w0 w3 W (some p) R v5 lf → LoopI w0 w3 (W.setCell ⟨g, j, none⟩ x) (some p) R v5 lf from fun W j x h => h.put (List.getElem_mem hlt) YQ.out j x)
      subst hp
      clear YQ M9 hm9 hyc yq hlt
      go_wp2_with fail
      go_loopw [8] (fun s wi => ∃ j : Nat, s = .int .i64 j ∧ j ≤ m9 ∧ Hid (LoopI w0 w3 wi (some p) R v5 lf)) (fun s _ => m9 - (intOf s).toNat)
      case atStart => exact ⟨0, rfl, by omega, HI⟩
      case round =>
        clear HI
        obtain ⟨j, rfl, hj, HJ⟩ := hrel
        have h0 := HDR.out _ HJ.out
        by_cases hjm : j < m9
        · obtain ⟨⟨x, s1⟩, s2⟩ := WRT.out _ j HJ.out hjm
          have H2 := Lib.hid (PUT.out _ j (.int .i64 99) HJ.out)
          go_wp2_with fail
          go_roundw
          case rel => exact ⟨j + 1, by go_num, by omega, H2⟩
          case measure => simp [intOf]; omega
        · go_wp2_with fail
          go_roundw
          case rel => exact ⟨t + 1, by go_num, by omega, HJ⟩
          case measure => simp [intOf]; omega
    · have B6 := Lib.hid HI.out.be
      obtain ⟨av, Lr, ca, e5, ra, em⟩ := HI.out.res.rd
      have c0 := kept B6.out D0.out
      have c1 := kept B6.out D1.out
      have c6 := kept B6.out D6.out
      have RA := Lib.hid ra
      have EM := Lib.hid em
      obtain ⟨n6, hn6⟩ : ∃ n6, n6 = Lr.length := ⟨_, rfl⟩
      have N6 := Lib.hid hn6
      rw [← hn6] at e5
      subst e5
      clear ra em hn6
      go_wp2_with fail
      refine (RW.out wo B6.out).mono ?_
      rintro e w7 ⟨bo, Lb, cb, rfl, rb, eb, hb⟩
      have RB := Lib.hid rb
      have EB := Lib.hid eb
      have B67 := Lib.hid hb
      have B7 := Lib.hid (below_on B6.out hb)
      have c0 := kept B7.out D0.out
      have c1 := kept B7.out D1.out
      obtain ⟨n7, hn7⟩ : ∃ n7, n7 = Lb.length := ⟨_, rfl⟩
      have N7 := Lib.hid hn7
      rw [← hn7]
      clear rb eb hb hn7 RW c6
      go_wp2_with fail
      refine (RC.out w7 B7.out).mono ?_
      rintro e w8 ⟨rfl, hb⟩
      have B8 := Lib.hid (below_on B7.out hb)
      have LB := Lib.hid (show Lr.map lnV = Lb.map lnV by rw [EM.out, EB.out])
      have SB := Lib.hid (same_any Lr Lb av bo ca cb w8 (RA.out.on (below_on B67.out hb)) (RB.out.on hb) (by have := congrArg List.length EM.out; rw [List.length_map] at this; rw [this]; exact LO.out.1) (fun y hy => LO.out.2 (lnV y) (by rw [← EM.out]; exact List.mem_map.2 ⟨y, hy, rfl⟩)))
      rw [decide_eq_true LB.out, ← N6.out, ← N7.out] at SB
      clear hb c0 c1 RC
      go_wp2_with fail
      refine SB.out.mono ?_
      rintro e w9 ⟨rfl, hb⟩
      have B9 := Lib.hid (below_on B8.out hb)
      clear hb SB
      go_wp2_with fail
      refine (shown_any w9).mono ?_
      rintro e w10 ⟨rfl, hb⟩
      have B10 := Lib.hid (below_on E0.out (below_on B9.out hb))
      clear hb
      go_wp2_with fail
      go_ret
      exact ⟨rfl, B10.out⟩
end Go.Proofs.YtefpaobboimakaaGreat
