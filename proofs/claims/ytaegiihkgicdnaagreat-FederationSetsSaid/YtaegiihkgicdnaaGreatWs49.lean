/- What the rows of layers 3 and 4 have in common: arguments opened to what the walks ask; arguments that nothing has turned; the row's last step.; Arguments opened: a zone, constraints.; Arguments of the laws of layer 5, opened: lists of zones. -/
import Derived.Test.YtaegiihkgicdnaaGreatWs16
import Derived.ProofKit
import Derived.Lib.SmallJoins
import Derived.Deep.Slices
import Derived.Test.YtaegiihkgicdnaaGreatWs13
import Derived.Test.YtaegiihkgicdnaaGreatWs47

namespace Go.Proofs.YtaegiihkgicdnaaGreat
open Go.ChangeShapes Go.WideShapes Go.ChangeAt Go.RowKit Go.Joins Go.Deep

theorem Tryz.own : ownKnob Tryz.prog.godebug = none := by kernel_rfl

theorem Tryz.laidOut : laidOutB Tryz.prog = true := by kernel_rfl

theorem trodAll_stays {H : Type} {enc : TypeId × Value → H} {W W' : World} {sp : Nat → Bool} : ∀ {ts : List TypeId} {vs : List Value} {ds : List (DataW H)} {ps : List MemPlace}, (∀ t ∈ ts, Tryz.prog.readableRec t = true ∧ t < Tryz.prog.types.size) →
    DataW.TrodAll enc Tryz.prog W 0 (fun _ => true) true ts vs ds ps → (∀ p ∈ ps, W.sameAt W' p) → (∀ p ∈ ps, sp p.block = true) → DataW.TrodAll enc Tryz.prog W' 0 sp true ts vs ds ps
  | [], [], [], _, _, h, _, _ => h
  | [], [], _ :: _, _, _, h, _, _ => h.elim
  | [], _ :: _, _, _, _, h, _, _ => h.elim
  | _ :: _, [], _, _, _, h, _, _ => h.elim
  | _ :: _, _ :: _, [], _, _, h, _, _ => h.elim
  | t :: ts, v :: vs, d :: ds, ps, ht, h, h1, h2 => by
    obtain ⟨p, q, ha, hb, rfl⟩ := h
    obtain ⟨r1, r2⟩ := ht t (List.mem_cons_self ..)
    exact ⟨p, q, WideElems.Trod_stays Tryz.laidOut r1 r2 ha (fun x hx => h1 x (List.mem_append_left _ hx)) (fun x hx => h2 x (List.mem_append_left _ hx)),
      trodAll_stays (fun t ht' => ht t (List.mem_cons_of_mem _ ht')) hb (fun x hx => h1 x (List.mem_append_right _ hx)) (fun x hx => h2 x (List.mem_append_right _ hx)), rfl⟩

set_option maxRecDepth 100000 in
theorem post_law {H : Type} {enc : TypeId × Value → H} {f : Func} {s : ChangeSpec} {apart fresh handsOn again : Bool} {W W' : World} {args : Array Value} {ds gs : List (DataW H)} {before : List MemPlace}
    (hW : DataW.Whole enc Tryz.prog f.params.toList s.vars apart W args.toList ds gs before) (hv : s.vars = []) (hb : Below W.heap.size W W')
    (ht : ∀ t ∈ f.params.toList, Tryz.prog.readableRec t = true ∧ t < Tryz.prog.types.size)
    (hr : f.resultTypes.toList = [4]) (hs : f.resultTypes.size = 1) (hs1 : f.resultTypes[0]? = some 4)
    (hres : (s.fn H ds).results = [.lit (.bool true)]) (hargs : (s.fn H ds).args = ds) (hvars : (s.fn H ds).vars = []) :
    s.post enc Tryz.prog f apart fresh handsOn again W args (.bool true) W' := by
  have hlt : ∀ p ∈ before, p.block < W.heap.size := fun p hp => hW.lt p hp
  have hW0 := hW
  obtain ⟨p, q, hA, hV, rfl, hz, hn⟩ := hW
  rw [hv] at hV
  obtain ⟨rfl, rfl⟩ := trodVars_none hV
  simp only [List.append_nil] at hlt hz hn hW0
  have key : ∀ sp : Nat → Bool, (∀ x ∈ p, sp x.block = true) → DataW.TrodAll enc Tryz.prog W' 0 sp true f.params.toList args.toList ds p := fun sp hsp =>
    trodAll_stays ht hA (fun x hx => hb.same (hlt x hx)) hsp
  have res : ∀ (b : Nat) (sp : Nat → Bool) (hd : Bool), DataW.TrodAll enc Tryz.prog W' b sp hd f.resultTypes.toList ((Value.bool true).resultList f.resultTypes.size) [.lit (.bool true)] [] := fun b sp hd => by
    rw [hr, hs]
    exact trodAll_mk1 (shut_bool Tryz.underlying4 _)
  have none : ∀ sp : Nat → Bool, DataW.TrodVars enc Tryz.prog W' sp s.vars (s.fn H (ds ++ [])).vars [] := fun sp => by
    rw [hv, List.append_nil, hvars]; rfl
  have kA : ∀ sp : Nat → Bool, (∀ x ∈ p, sp x.block = true) → DataW.TrodAll enc Tryz.prog W' 0 sp true f.params.toList args.toList (s.fn H (ds ++ [])).args p := fun sp hsp => by
    rw [List.append_nil, hargs]; exact key sp hsp
  have kR : ∀ (b : Nat) (sp : Nat → Bool) (hd : Bool), DataW.TrodAll enc Tryz.prog W' b sp hd f.resultTypes.toList ((Value.bool true).resultList f.resultTypes.size) (s.fn H (ds ++ [])).results [] := fun b sp hd => by
    rw [List.append_nil, hres]; exact res b sp hd
  refine ⟨ds, [], p, [], p, [], by simpa using hW0, kR _ _ _, ?_, none _, ?_, fun _ => ?_⟩
  · exact kA _ (fun x hx => by simpa using hlt x hx)
  · exact World.keptBut_mono (fun x hx => ⟨hx, by simpa using hx⟩) (hb.frame (· ∈ p))
  · refine ⟨?_, _, _, ([] ++ p) ++ [], ⟨[] ++ p, [], trodAll_append (kA _ (fun _ _ => rfl)) (kR _ _ _), none _, rfl, ?_, ?_⟩, ?_⟩
    · intro j t r h1 h2
      rw [hs] at h2
      cases j with
      | zero =>
        rw [hs1] at h1
        simp [Value.resultList] at h2
        subst h2
        have e := Option.some.inj h1
        rw [← e]
        exact okWide_bool_mk Tryz.underlying4 _
      | succ j => rw [Array.getElem?_eq_none (by omega)] at h1; cases h1
    · intro b off hp
      have hin : MemPlace.cell b off ∈ p := by simpa using hp
      rw [hb.frozen (hlt _ hin)]
      exact hz b off hin
    · intro ha
      simpa using hn ha
    · intro x hx _
      simpa using hx
end Go.Proofs.YtaegiihkgicdnaaGreat

namespace Go.Proofs.YtaegiihkgicdnaaGreat
open Go.ChangeShapes Go.WideShapes Go.ChangeAt Go.RowKit Go.Joins Go.Deep

theorem Tryz.cells37 : Tryz.prog.cellsOf 37 = 1 := by kernel_rfl

theorem Tryz.cells34 : Tryz.prog.cellsOf 34 = 1 := by kernel_rfl

theorem Tryz.cells3 : Tryz.prog.cellsOf 3 = 1 := by kernel_rfl

theorem Tryz.cells36 : Tryz.prog.cellsOf 36 = 2 := by kernel_rfl

theorem add_two (a : Addr) (k j : Nat) (hj : 0 < j) : (a.add k).add j = ⟨(a.add k).block, (a.add k).off + j, none⟩ := by
  generalize a.add k = b
  unfold Addr.add
  rw [if_neg (by omega)]

set_option maxRecDepth 100000 in
theorem trod_slice1 {H : Type} {enc : TypeId × Value → H} {W : World} {base : Nat} {sp : Nat → Bool} {held : Bool} {r : Reach} {b0 : Nat} {t e : TypeId} {v : Value} {d : DataW H} {p : List MemPlace} (ht : Tryz.prog.underlying t = some (.slice e))
    (hv : Value.okWide Tryz.prog W r b0 t v) (h : DataW.Trod enc Tryz.prog W base sp held t v d p) : ∃ n, DataW.trod enc Tryz.prog W base sp held n t [v] = some (d, p) := by
  obtain ⟨n, hn⟩ := h
  obtain ⟨a, l, c, rfl⟩ := okWide_slice ht hv
  exact ⟨n, hn⟩

end Go.Proofs.YtaegiihkgicdnaaGreat

namespace Go.Proofs.YtaegiihkgicdnaaGreat
open Go.ChangeShapes Go.WideShapes Go.ChangeAt Go.RowKit Go.Joins Go.Deep

theorem open_limits0 {H : Type} {enc : TypeId × Value → H} {W : World} {base fuel : Nat} {sp : Nat → Bool} {held : Bool} {c : Value} {y : DataW H × List MemPlace}
    (h : DataW.trod enc Tryz.prog W base sp held fuel 34 [c] = some y) : ∃ (ao : Option Addr) (l : List Int) (cap : Nat), c = .slice ao l.length cap ∧ Arg W ao l ∧ l.length ≤ maxLen ∧ (ao = none → cap = 0) := by
  rcases open_ints Tryz.underlying34 Tryz.underlying37 Tryz.cells37 h with ⟨e, _⟩ | ⟨a, len, cap, zs, e, _, hl, hm, hz, _, hc, _⟩
  · simp at e
    exact ⟨none, [], 0, by simpa using e, fun q => absurd rfl q, by simp, fun _ => rfl⟩
  · simp at e
    have hlen : len ≤ zs.length := by rw [hz]; split <;> omega
    refine ⟨some a, zs.take len, cap, by rw [e]; simp [hlen], fun _ => ⟨a, rfl, fun j hj => ?_⟩, by simp; omega, fun q => by cases q⟩
    simp at hj
    rw [hc j (by omega)]
    simp [Zo.gt, show j < len by omega]

def ZIn (W : World) (z : ZV) : Prop := Arg W z.a z.l ∧ z.l.length ≤ maxLen ∧ (z.a = none → z.c = 0)

set_option maxRecDepth 100000 in
theorem trod_zone {H : Type} {enc : TypeId × Value → H} {W : World} {base fuel : Nat} {sp : Nat → Bool} {held : Bool} {cs : List Value} {y : DataW H × List MemPlace}
    (h : DataW.trod enc Tryz.prog W base sp held fuel 36 cs = some y) : ∃ z : ZV, cs = z.cs ∧ ZIn W z := by
  obtain ⟨xs, n, _, _, hl, hx, hf⟩ := DataW.trod_struct Tryz.underlying36 h
  rw [Tryz.cells36] at hl
  match cs, hl with
  | [a, b], _ =>
    have g0 := hf 0 _ rfl
    have g1 := hf 1 _ rfl
    match xs, hx with
    | [y0, y1], _ =>
      simp [Tryz.cells3, Tryz.cells34] at g0 g1
      obtain ⟨N, e0, _, _⟩ := DataW.trod_int Tryz.underlying3 g0
      obtain ⟨ao, l, cap, e1, hA, hl, hn⟩ := open_limits0 g1
      simp at e0
      exact ⟨⟨N, ao, cap, l⟩, by rw [e0, e1]; rfl, hA, hl, hn⟩

set_option maxRecDepth 100000 in
theorem open_zones {H : Type} {enc : TypeId × Value → H} {W : World} {base fuel : Nat} {sp : Nat → Bool} {held : Bool} {c : Value} {y : DataW H × List MemPlace}
    (h : DataW.trod enc Tryz.prog W base sp held fuel 22 [c] = some y) :
    ∃ (ao : Option Addr) (L : List ZV) (cap : Nat), c = .slice ao L.length cap ∧ RdW W ao L ∧ (ao = none → cap = 0) ∧ (L.length ≤ 9223372036854775807 ∧ ∀ z ∈ L, z.l.length ≤ 9223372036854775807) ∧ (∀ z ∈ L, z.a = none → z.c = 0) := by
  rcases open_slice Tryz.underlying22 h with ⟨e, _⟩ | ⟨a, len, cap, m, n, D, Pl, e, _, hl, hm, hmm, _, hi⟩
  · simp at e
    exact ⟨none, [], 0, by simpa using e, ⟨fun t ht => by simp at ht, fun y hy => by simp at hy⟩, fun _ => rfl, ⟨by simp, fun y hy => by simp at hy⟩, fun y hy => by simp at hy⟩
  · simp at e
    have hlen : len ≤ m := by rw [hmm]; split <;> omega
    have key : ∀ i, i < len → ∃ q : ZV, HdAt W a i q ∧ ZIn W q := fun i hil => by
      obtain ⟨cs', hc, ht⟩ := hi i (by omega)
      rw [Tryz.cells36] at hc
      obtain ⟨z, rfl, hz⟩ := trod_zone ht
      obtain ⟨_, hcl, hat⟩ := World.cells?_some hc
      have c0 := hat 0 (by simp [])
      have c1 := hat 1 (by simp [])
      have ez : (a.add (i * 2)).add 0 = a.add (i * 2) := add_nil2 (a.add (i * 2))
      refine ⟨z, ⟨by rw [← ez]; simpa [ZV.cs] using c0, ?_⟩, hz⟩
      have e := add_two a (i * 2) 1 (by omega)
      rw [← e]
      simpa [ZV.cs] using c1
    obtain ⟨F, hF⟩ : ∃ F : Nat → ZV, ∀ i, i < len → HdAt W a i (F i) ∧ ZIn W (F i) := by
      refine ⟨fun i => if h : i < len then (key i h).choose else ⟨0, none, 0, []⟩, fun i hil => ?_⟩
      simp only [dif_pos hil]
      exact (key i hil).choose_spec
    have all : ∀ y ∈ (List.range len).map F, ZIn W y := fun y hy => by
      obtain ⟨i, hi, rfl⟩ := List.mem_map.1 hy
      exact (hF i (by simpa using hi)).2
    refine ⟨some a, (List.range len).map F, cap, by rw [e]; simp, ⟨fun t ht => ⟨a, rfl, ?_⟩, fun y hy => ⟨(all y hy).1, trivial⟩⟩, fun q => by (cases q), ⟨by unfold maxLen at hm; simp; omega, fun y hy => by have := (all y hy).2.1; unfold maxLen at this; omega⟩, fun y hy => (all y hy).2.2⟩
    simp at ht
    simp only [List.getElem_map, List.getElem_range]
    exact (hF t ht).1

set_option maxRecDepth 100000 in
theorem open_zones_arg {H : Type} {enc : TypeId × Value → H} {W : World} {base : Nat} {sp : Nat → Bool} {held : Bool} {r : Reach} {b0 : Nat} {v : Value} {d : DataW H} {p : List MemPlace}
    (hv : Value.okWide Tryz.prog W r b0 22 v) (h : DataW.Trod enc Tryz.prog W base sp held 22 v d p) :
    ∃ (ao : Option Addr) (L : List ZV) (cap : Nat), v = .slice ao L.length cap ∧ RdW W ao L ∧ (ao = none → cap = 0) ∧ (L.length ≤ 9223372036854775807 ∧ ∀ z ∈ L, z.l.length ≤ 9223372036854775807) ∧ (∀ z ∈ L, z.a = none → z.c = 0) := by
  obtain ⟨n, hn⟩ := trod_slice1 Tryz.underlying22 hv h
  exact open_zones hn
end Go.Proofs.YtaegiihkgicdnaaGreat
