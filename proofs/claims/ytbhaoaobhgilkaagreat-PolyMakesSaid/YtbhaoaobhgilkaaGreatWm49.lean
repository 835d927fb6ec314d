/- What the rows of layer 7 have in common: arguments that nothing has turned; the row's last step; the argument opened. -/
import Derived.Test.YtbhaoaobhgilkaaGreatWm19
import Derived.Test.YtbhaoaobhgilkaaGreatWm20
import Derived.ProofKit
import Derived.Lib.SmallJoins
import Derived.Deep.Slices

namespace Go.Proofs.YtbhaoaobhgilkaaGreat
open Go.ChangeShapes Go.WideShapes Go.ChangeAt Go.RowKit Go.Joins Go.Deep

theorem Tryz.own : ownKnob Tryz.prog.godebug = none := by kernel_rfl

theorem Tryz.laidOut : laidOutB Tryz.prog = true := by kernel_rfl

theorem trodAll_stays {H : Type} {enc : TypeId × Value → H} {W W' : World} {sp : Nat → Bool} : ∀ {ts : List TypeId} {vs : List Value} {ds : List (DataW H)} {ps : List MemPlace}, (∀ t ∈ ts, Tryz.prog.readableRec t = true ∧ t < Tryz.prog.types.size) →
    DataW.TrodAll enc Tryz.prog W 0 (fun _ => true) true ts vs ds ps → (∀ p ∈ ps, W.sameAt W' p) → (∀ p ∈ ps, sp p.block = true) → DataW.TrodAll enc Tryz.prog W' 0 sp true ts vs ds ps
  | [], [], [], _, _, h, _, _ => h
  | [], [], _ :: _, _, _, h, _, _ => h.elim
  | [], _ :: _, _, _, _, h, _, _ => h.elim
  | _ :: _, [], _, _, _, h, _, _ => h.elim
  | _ :: _, _ :: _, [], _, _, h, _, _ => h.elim
  | t :: ts, v :: vs, d :: ds, ps, ht, h, h1, h2 => by
    obtain ⟨p, q, ha, hb, rfl⟩ := h
    obtain ⟨r1, r2⟩ := ht t (List.mem_cons_self ..)
    exact ⟨p, q, WideElems.Trod_stays Tryz.laidOut r1 r2 ha (fun x hx => h1 x (List.mem_append_left _ hx)) (fun x hx => h2 x (List.mem_append_left _ hx)),
      trodAll_stays (fun t ht' => ht t (List.mem_cons_of_mem _ ht')) hb (fun x hx => h1 x (List.mem_append_right _ hx)) (fun x hx => h2 x (List.mem_append_right _ hx)), rfl⟩

set_option maxRecDepth 100000 in
theorem post_law {H : Type} {enc : TypeId × Value → H} {f : Func} {s : ChangeSpec} {apart fresh handsOn again : Bool} {W W' : World} {args : Array Value} {ds gs : List (DataW H)} {before : List MemPlace}
    (hW : DataW.Whole enc Tryz.prog f.params.toList s.vars apart W args.toList ds gs before) (hv : s.vars = []) (hb : Below W.heap.size W W')
    (ht : ∀ t ∈ f.params.toList, Tryz.prog.readableRec t = true ∧ t < Tryz.prog.types.size)
    (hr : f.resultTypes.toList = [4]) (hs : f.resultTypes.size = 1) (hs1 : f.resultTypes[0]? = some 4)
    (hres : (s.fn H ds).results = [.lit (.bool true)]) (hargs : (s.fn H ds).args = ds) (hvars : (s.fn H ds).vars = []) :
    s.post enc Tryz.prog f apart fresh handsOn again W args (.bool true) W' := by
  have hlt : ∀ p ∈ before, p.block < W.heap.size := fun p hp => hW.lt p hp
  have hW0 := hW
  obtain ⟨p, q, hA, hV, rfl, hz, hn⟩ := hW
  rw [hv] at hV
  obtain ⟨rfl, rfl⟩ := trodVars_none hV
  simp only [List.append_nil] at hlt hz hn hW0
  have key : ∀ sp : Nat → Bool, (∀ x ∈ p, sp x.block = true) → DataW.TrodAll enc Tryz.prog W' 0 sp true f.params.toList args.toList ds p := fun sp hsp =>
    trodAll_stays ht hA (fun x hx => hb.same (hlt x hx)) hsp
  have res : ∀ (b : Nat) (sp : Nat → Bool) (hd : Bool), DataW.TrodAll enc Tryz.prog W' b sp hd f.resultTypes.toList ((Value.bool true).resultList f.resultTypes.size) [.lit (.bool true)] [] := fun b sp hd => by
    rw [hr, hs]
    exact trodAll_mk1 (shut_bool Tryz.underlying4 _)
  have none : ∀ sp : Nat → Bool, DataW.TrodVars enc Tryz.prog W' sp s.vars (s.fn H (ds ++ [])).vars [] := fun sp => by
    rw [hv, List.append_nil, hvars]; rfl
  have kA : ∀ sp : Nat → Bool, (∀ x ∈ p, sp x.block = true) → DataW.TrodAll enc Tryz.prog W' 0 sp true f.params.toList args.toList (s.fn H (ds ++ [])).args p := fun sp hsp => by
    rw [List.append_nil, hargs]; exact key sp hsp
  have kR : ∀ (b : Nat) (sp : Nat → Bool) (hd : Bool), DataW.TrodAll enc Tryz.prog W' b sp hd f.resultTypes.toList ((Value.bool true).resultList f.resultTypes.size) (s.fn H (ds ++ [])).results [] := fun b sp hd => by
    rw [List.append_nil, hres]; exact res b sp hd
  refine ⟨ds, [], p, [], p, [], by simpa using hW0, kR _ _ _, ?_, none _, ?_, fun _ => ?_⟩
  · exact kA _ (fun x hx => by simpa using hlt x hx)
  · exact World.keptBut_mono (fun x hx => ⟨hx, by simpa using hx⟩) (hb.frame (· ∈ p))
  · refine ⟨?_, _, _, ([] ++ p) ++ [], ⟨[] ++ p, [], trodAll_append (kA _ (fun _ _ => rfl)) (kR _ _ _), none _, rfl, ?_, ?_⟩, ?_⟩
    · intro j t r h1 h2
      rw [hs] at h2
      cases j with
      | zero =>
        rw [hs1] at h1
        simp [Value.resultList] at h2
        subst h2
        have e := Option.some.inj h1
        rw [← e]
        exact okWide_bool_mk Tryz.underlying4 _
      | succ j => rw [Array.getElem?_eq_none (by omega)] at h1; cases h1
    · intro b off hp
      have hin : MemPlace.cell b off ∈ p := by simpa using hp
      rw [hb.frozen (hlt _ hin)]
      exact hz b off hin
    · intro ha
      simpa using hn ha
    · intro x hx _
      simpa using hx

theorem Tryz.cells3 : Tryz.prog.cellsOf 3 = 1 := by kernel_rfl

theorem Tryz.cells2 : Tryz.prog.cellsOf 2 = 1 := by kernel_rfl

theorem Tryz.cells4 : Tryz.prog.cellsOf 4 = 1 := by kernel_rfl

theorem Tryz.cells23 : Tryz.prog.cellsOf 23 = 1 := by kernel_rfl

theorem Tryz.cells25 : Tryz.prog.cellsOf 25 = 3 := by kernel_rfl

theorem Tryz.cells22 : Tryz.prog.cellsOf 22 = 1 := by kernel_rfl

theorem Tryz.cells26 : Tryz.prog.cellsOf 26 = 1 := by kernel_rfl

theorem Tryz.cells50 : Tryz.prog.cellsOf 50 = 2 := by kernel_rfl

theorem Tryz.cells28 : Tryz.prog.cellsOf 28 = 9 := by kernel_rfl

theorem wf_i64 {n : Int} (h : (Lit.int .i64 n).wf = true) : I64 n := by
  simp [Lit.wf, IntKind.min, IntKind.max, IntKind.signed, IntKind.bits] at h
  exact ⟨by omega, by omega⟩

theorem open_longs {H : Type} {enc : TypeId × Value → H} {W : World} {base fuel : Nat} {sp : Nat → Bool} {held : Bool} {c : Value} {y : DataW H × List MemPlace}
    (h : DataW.trod enc Tryz.prog W base sp held fuel 23 [c] = some y) : ∃ (q : Option Addr) (l : List Int) (cap : Nat), c = .slice q l.length cap ∧ Rd1 W q l ∧ (q = none → l = [] ∧ cap = 0) ∧ l.length ≤ cap ∧ cap ≤ maxLen ∧ ∀ v ∈ l, I64 v := by
  rcases open_ints Tryz.underlying23 Tryz.underlying2 Tryz.cells2 h with ⟨e, _⟩ | ⟨a, len, cap, zs, e, _, hl, hm, hz, _, hc, hwf⟩
  · simp at e
    exact ⟨none, [], 0, by simpa using e, fun t ht => by simp at ht, fun _ => ⟨rfl, rfl⟩, by simp, by simp, by simp⟩
  · simp at e
    have hlen : len ≤ zs.length := by rw [hz]; split <;> omega
    refine ⟨some a, zs.take len, cap, by rw [e]; simp [hlen], fun t ht => ⟨a, rfl, ?_⟩, fun q => by (cases q), by simp; omega, hm, fun v hv => wf_i64 (hwf v (List.mem_of_mem_take hv))⟩
    simp at ht
    rw [hc t (by omega)]
    simp [gA, show t < len by omega]

def LineIn (W : World) (y : AV) : Prop := Rd1 W y.q y.a ∧ NilOk y ∧ (∀ v ∈ y.a, I64 v) ∧ I64 y.b

set_option maxRecDepth 100000 in
theorem trod_line {H : Type} {enc : TypeId × Value → H} {W : World} {base fuel : Nat} {sp : Nat → Bool} {held : Bool} {cs : List Value} {y : DataW H × List MemPlace}
    (h : DataW.trod enc Tryz.prog W base sp held fuel 25 cs = some y) : ∃ x : AV, cs = x.cells ∧ LineIn W x := by
  obtain ⟨xs, n, _, _, hl, hx, hf⟩ := DataW.trod_struct Tryz.underlying25 h
  rw [Tryz.cells25] at hl
  match cs, hl with
  | [a, b, c], _ =>
    have g0 := hf 0 _ rfl
    have g1 := hf 1 _ rfl
    have g2 := hf 2 _ rfl
    match xs, hx with
    | [y0, y1, y2], _ =>
      simp [Tryz.cells23, Tryz.cells2, Tryz.cells4] at g0 g1 g2
      obtain ⟨q, l, cap, e0, hR, hN, hl1, hl2, hv⟩ := open_longs g0
      obtain ⟨j, e1, _, w1⟩ := DataW.trod_int Tryz.underlying2 g1
      obtain ⟨s, e2, _⟩ := DataW.trod_bool Tryz.underlying4 g2
      simp at e1 e2
      exact ⟨⟨q, cap, l, j, s⟩, by rw [e0, e1, e2]; rfl, hR, ⟨hN, hl1, hl2⟩, hv, wf_i64 w1⟩

theorem open_lines {H : Type} {enc : TypeId × Value → H} {W : World} {base fuel : Nat} {sp : Nat → Bool} {held : Bool} {c : Value} {y : DataW H × List MemPlace}
    (h : DataW.trod enc Tryz.prog W base sp held fuel 22 [c] = some y) :
    ∃ (ao : Option Addr) (L : List AV) (cap : Nat), c = .slice ao L.length cap ∧ RdV W ao L ∧ L.length ≤ maxLen ∧ (∀ y ∈ L, LineIn W y) ∧ (ao = none → L = [] ∧ cap = 0) := by
  rcases open_slice Tryz.underlying22 h with ⟨e, _⟩ | ⟨a, len, cap, m, n, D, Pl, e, _, hl, hm, hmm, _, hi⟩
  · simp at e
    exact ⟨none, [], 0, by simpa using e, ⟨fun t ht => by simp at ht, fun y hy => by simp at hy⟩, by simp, fun y hy => by simp at hy, fun _ => ⟨rfl, rfl⟩⟩
  · simp at e
    have hlen : len ≤ m := by rw [hmm]; split <;> omega
    have key : ∀ i, i < len → ∃ q : AV, AvAt W (a.add (i * 3)) q ∧ LineIn W q := fun i hil => by
      obtain ⟨cs', hc, ht⟩ := hi i (by omega)
      rw [Tryz.cells25] at hc
      obtain ⟨x, rfl, hx⟩ := trod_line ht
      obtain ⟨_, hcl, hat⟩ := World.cells?_some hc
      refine ⟨x, fun j v hv => ?_, hx⟩
      have hj : j < 3 := (List.getElem?_eq_some_iff.1 hv).1
      rw [hat j hj]; exact hv
    obtain ⟨F, hF⟩ : ∃ F : Nat → AV, ∀ i, i < len → AvAt W (a.add (i * 3)) (F i) ∧ LineIn W (F i) := by
      refine ⟨fun i => if h : i < len then (key i h).choose else av0, fun i hil => ?_⟩
      simp only [dif_pos hil]
      exact (key i hil).choose_spec
    have all : ∀ y ∈ (List.range len).map F, LineIn W y := fun y hy => by
      obtain ⟨i, hi, rfl⟩ := List.mem_map.1 hy
      exact (hF i (by simpa using hi)).2
    refine ⟨some a, (List.range len).map F, cap, by rw [e]; simp, ⟨fun t ht => ⟨a, rfl, ?_⟩, fun y hy => (all y hy).1⟩, by simp; omega, all, fun q => by (cases q)⟩
    simp at ht
    simp only [List.getElem_map, List.getElem_range]
    exact (hF t ht).1

set_option maxRecDepth 100000 in
theorem trod_rat {H : Type} {enc : TypeId × Value → H} {W : World} {base fuel : Nat} {sp : Nat → Bool} {held : Bool} {cs : List Value} {y : DataW H × List MemPlace}
    (h : DataW.trod enc Tryz.prog W base sp held fuel 50 cs = some y) : ∃ i j : Int, cs = [.int .i64 i, .int .i64 j] ∧ I64 i ∧ I64 j := by
  obtain ⟨xs, n, _, _, hl, hx, hf⟩ := DataW.trod_struct Tryz.underlying50 h
  rw [Tryz.cells50] at hl
  match cs, hl with
  | [a, b], _ =>
    have g0 := hf 0 _ rfl
    have g1 := hf 1 _ rfl
    match xs, hx with
    | [y0, y1], _ =>
      simp [Tryz.cells2] at g0 g1
      obtain ⟨i, e0, _, w0⟩ := DataW.trod_int Tryz.underlying2 g0
      obtain ⟨j, e1, _, w1⟩ := DataW.trod_int Tryz.underlying2 g1
      simp at e0 e1
      exact ⟨i, j, by rw [e0, e1], wf_i64 w0, wf_i64 w1⟩

theorem open_rats {H : Type} {enc : TypeId × Value → H} {W : World} {base fuel : Nat} {sp : Nat → Bool} {held : Bool} {c : Value} {y : DataW H × List MemPlace}
    (h : DataW.trod enc Tryz.prog W base sp held fuel 26 [c] = some y) :
    ∃ (ao : Option Addr) (ps : List Pq) (cap : Nat), c = .slice ao ps.length cap ∧ Rd2 W ao ps ∧ ps.length ≤ maxLen ∧ (∀ q ∈ ps, I64 q.1 ∧ I64 q.2) ∧ (ao = none → ps = [] ∧ cap = 0) ∧ ps.length ≤ cap := by
  rcases open_slice Tryz.underlying26 h with ⟨e, _⟩ | ⟨a, len, cap, m, n, D, Pl, e, _, hl, hm, hmm, _, hi⟩
  · simp at e
    exact ⟨none, [], 0, by simpa using e, fun t ht => by simp at ht, by simp, fun q hq => by simp at hq, fun _ => ⟨rfl, rfl⟩, by simp⟩
  · simp at e
    have hlen : len ≤ m := by rw [hmm]; split <;> omega
    have key : ∀ i, i < len → ∃ q : Pq, QAt W (a.add (i * 2)) q ∧ I64 q.1 ∧ I64 q.2 := fun i hil => by
      obtain ⟨cs', hc, ht⟩ := hi i (by omega)
      rw [Tryz.cells50] at hc
      obtain ⟨x, y, rfl, w0, w1⟩ := trod_rat ht
      obtain ⟨_, hcl, hat⟩ := World.cells?_some hc
      have c0 := hat 0 (by simp)
      have c1 := hat 1 (by simp)
      exact ⟨(x, y), ⟨by simpa using c0, by simpa using c1⟩, w0, w1⟩
    obtain ⟨F, hF⟩ : ∃ F : Nat → Pq, ∀ i, i < len → QAt W (a.add (i * 2)) (F i) ∧ I64 (F i).1 ∧ I64 (F i).2 := by
      refine ⟨fun i => if h : i < len then (key i h).choose else (0, 0), fun i hil => ?_⟩
      simp only [dif_pos hil]
      exact (key i hil).choose_spec
    have hg : ∀ i, i < len → gp ((List.range len).map F) i = F i := fun i hil => by simp [gp, hil]
    refine ⟨some a, (List.range len).map F, cap, by rw [e]; simp, fun t ht => ⟨a, rfl, ?_⟩, by simp; omega, fun q hq => ?_, fun q => by (cases q), by simp; omega⟩
    · simp at ht
      rw [hg t ht]
      exact (hF t ht).1
    · obtain ⟨i, hi, rfl⟩ := List.mem_map.1 hq
      exact (hF i (by simpa using hi)).2

set_option maxRecDepth 100000 in
theorem open_case {H : Type} {enc : TypeId × Value → H} {W : World} {base : Nat} {sp : Nat → Bool} {held : Bool} {r : Reach} {b0 : Nat} {v : Value} {d : DataW H} {p : List MemPlace}
    (hv : Value.okWide Tryz.prog W r b0 28 v) (h : DataW.Trod enc Tryz.prog W base sp held 28 v d p) :
    ∃ (N I : Int) (L M : List AV) (X : AV) (P : List Pq) (A : List Int) (la ma pa aq : Option Addr) (lc mc pc ac : Nat),
      v = .agg #[.int .i64 N, .slice la L.length lc, .slice ma M.length mc, .slice X.q X.a.length X.c, .int .i64 X.b, .bool X.s, .int .i64 I, .slice pa P.length pc, .slice aq A.length ac] ∧ I64 N ∧ I64 I ∧
      (RdV W la L ∧ L.length ≤ maxLen ∧ (∀ y ∈ L, LineIn W y) ∧ (la = none → L = [] ∧ lc = 0)) ∧ (RdV W ma M ∧ M.length ≤ maxLen ∧ (∀ y ∈ M, LineIn W y) ∧ (ma = none → M = [] ∧ mc = 0)) ∧ LineIn W X ∧
      (Rd2 W pa P ∧ P.length ≤ maxLen ∧ (∀ q ∈ P, I64 q.1 ∧ I64 q.2) ∧ (pa = none → P = [] ∧ pc = 0) ∧ P.length ≤ pc) ∧ (Rd1 W aq A ∧ (aq = none → A = [] ∧ ac = 0) ∧ A.length ≤ ac ∧ ac ≤ maxLen ∧ ∀ v ∈ A, I64 v) := by
  obtain ⟨xs0, rfl, hsz⟩ := okWide_struct Tryz.underlying28 hv
  obtain ⟨fuel, hf0⟩ := h
  obtain ⟨xs, n, _, _, hl, hx, hf⟩ := DataW.trod_struct Tryz.underlying28 hf0
  rw [Tryz.cells28] at hsz
  match xs0, hsz with
  | ⟨[c0, c1, c2, c3, c4, c5, c6, c7, c8]⟩, _ =>
    have g0 := hf 0 _ rfl
    have g1 := hf 1 _ rfl
    have g2 := hf 2 _ rfl
    have g3 := hf 3 _ rfl
    have g4 := hf 4 _ rfl
    have g5 := hf 5 _ rfl
    have g6 := hf 6 _ rfl
    match xs, hx with
    | [y0, y1, y2, y3, y4, y5, y6], _ =>
      simp [Value.cells, Tryz.cells3, Tryz.cells22, Tryz.cells25, Tryz.cells26, Tryz.cells23] at g0 g1 g2 g3 g4 g5 g6
      obtain ⟨N, e0, _, w0⟩ := DataW.trod_int Tryz.underlying3 g0
      obtain ⟨la, L, lc, e1, hL⟩ := open_lines g1
      obtain ⟨ma, M, mc, e2, hM⟩ := open_lines g2
      obtain ⟨X, e3, hX⟩ := trod_line g3
      obtain ⟨I, e4, _, w4⟩ := DataW.trod_int Tryz.underlying3 g4
      obtain ⟨pa, P, pc, e5, hP⟩ := open_rats g5
      obtain ⟨aq, A, ac, e6, hA⟩ := open_longs g6
      simp [AV.cells] at e0 e3 e4
      obtain ⟨e31, e32, e33⟩ := e3
      exact ⟨N, I, L, M, X, P, A, la, ma, pa, aq, lc, mc, pc, ac, by rw [e0, e1, e2, e31, e32, e33, e4, e5, e6], wf_i64 w0, wf_i64 w4, hL, hM, hX, hP, hA⟩
end Go.Proofs.YtbhaoaobhgilkaaGreat
