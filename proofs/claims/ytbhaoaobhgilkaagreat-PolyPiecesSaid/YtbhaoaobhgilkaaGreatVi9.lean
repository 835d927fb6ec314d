/- DERIVED: THE SHELF's CONTRACTS AT THIS DUMP, IN PLAIN WORDS (tools/lay-plain.mjs out of 'TryzShelf.lean', which tools/lay-shelf.mjs wrote): THE SAME DECLARATIONS UNDER THE SAME NAMES: 'import', 'namespace', 'open', 'def', 'theorem' AND NOTHING ELSE: no command of the shelf's: FOR A HAND-IN. Each laying: the table of numbers ('.._ren') and one theorem, a field a fact of the dump's own or the kernel's comparison; each contract: ONE APPLICATION.; slices.SortFunc at lines. -/
import Derived.Shelf.SlSortCmp.NoneTotal
import Derived.Shelf.SlicesE.Clone
import Derived.Ground.SlsfProg
import Derived.Ground.SlgnProg
import Derived.Test.YtbhaoaobhgilkaaGreatProg
import Derived.Test.YtbhaoaobhgilkaaGreatVi8

namespace Go.Proofs
open Go.Shelf
def Tryz.laysSort_ren : Go.Shelf.Ren := ⟨fun | 6 => 124 | 15 => 149 | 14 => 148 | 28 => 164 | 29 => 165 | 20 => 156 | 21 => 157 | 22 => 158 | 23 => 159 | 24 => 160 | 25 => 161 | 26 => 162 | 27 => 163 | 46 => 167 | 47 => 168 | 48 => 169 | 49 => 170 | 50 => 171 | 57 => 172 | n => n, fun | 22 => 66 | 24 => 82 | 25 => 142 | 3 => 3 | 39 => 158 | 0 => 0 | 53 => 169 | 55 => 125 | 4 => 4 | 46 => 162 | 45 => 161 | 50 => 166 | 5 => 5 | 9 => 9 | 66 => 171 | 70 => 175 | 76 => 177 | 77 => 178 | n => n, fun | n => n⟩
theorem Tryz.laysSort : Go.Proofs.SlLaysF0.n6 Tryz.prog Tryz.laysSort_ren := {
  mixed := by kernel_rfl
  f6 := ⟨Tryz.f124.name, by decide, Tryz.func124.trans (congrArg some (by kernel_rfl))⟩
  f14 := ⟨Tryz.f148.name, by decide, Tryz.func148.trans (congrArg some (by kernel_rfl))⟩
  f15 := Tryz.func149.trans (congrArg some (by kernel_rfl))
  f20 := ⟨Tryz.f156.name, by decide, Tryz.func156.trans (congrArg some (by kernel_rfl))⟩
  f21 := ⟨Tryz.f157.name, by decide, Tryz.func157.trans (congrArg some (by kernel_rfl))⟩
  f22 := ⟨Tryz.f158.name, by decide, Tryz.func158.trans (congrArg some (by kernel_rfl))⟩
  f23 := ⟨Tryz.f159.name, by decide, Tryz.func159.trans (congrArg some (by kernel_rfl))⟩
  f24 := ⟨Tryz.f160.name, by decide, Tryz.func160.trans (congrArg some (by kernel_rfl))⟩
  f25 := ⟨Tryz.f161.name, by decide, Tryz.func161.trans (congrArg some (by kernel_rfl))⟩
  f26 := ⟨Tryz.f162.name, by decide, Tryz.func162.trans (congrArg some (by kernel_rfl))⟩
  f27 := ⟨Tryz.f163.name, by decide, Tryz.func163.trans (congrArg some (by kernel_rfl))⟩
  f28 := Tryz.func164.trans (congrArg some (by kernel_rfl))
  f29 := Tryz.func165.trans (congrArg some (by kernel_rfl))
  f46 := ⟨Tryz.f167.name, by decide, Tryz.func167.trans (congrArg some (by kernel_rfl))⟩
  f47 := Tryz.func168.trans (congrArg some (by kernel_rfl))
  f48 := Tryz.func169.trans (congrArg some (by kernel_rfl))
  f49 := ⟨Tryz.f170.name, by decide, Tryz.func170.trans (congrArg some (by kernel_rfl))⟩
  f50 := ⟨Tryz.f171.name, by decide, Tryz.func171.trans (congrArg some (by kernel_rfl))⟩
  f57 := ⟨Tryz.f172.name, by decide, Tryz.func172.trans (congrArg some (by kernel_rfl))⟩
  t0 := Tryz.underlying0
  a0 := Tryz.isAgg0
  z0 := Tryz.sizeOf0
  v0 := Tryz.zeroValue0
  t3 := Tryz.underlying3
  a3 := Tryz.isAgg3
  z3 := Tryz.sizeOf3
  v3 := Tryz.zeroValue3
  t4 := Tryz.underlying4
  a4 := Tryz.isAgg4
  z4 := Tryz.sizeOf4
  v4 := Tryz.zeroValue4
  t5 := Tryz.underlying5
  a5 := Tryz.isAgg5
  z5 := Tryz.sizeOf5
  v5 := Tryz.zeroValue5
  t9 := Tryz.underlying9
  a9 := Tryz.isAgg9
  z9 := Tryz.sizeOf9
  v9 := Tryz.zeroValue9
  t22 := Tryz.underlying66
  a22 := Tryz.isAgg66
  z22 := Tryz.sizeOf66
  v22 := Tryz.zeroValue66
  t25 := Tryz.underlying142
  a25 := Tryz.isAgg142
  z25 := Tryz.sizeOf142
  v25 := Tryz.zeroValue142
  t39 := Tryz.underlying158
  a39 := Tryz.isAgg158
  z39 := Tryz.sizeOf158
  v39 := Tryz.zeroValue158
  t45 := Tryz.underlying161
  a45 := Tryz.isAgg161
  z45 := Tryz.sizeOf161
  v45 := Tryz.zeroValue161
  t46 := Tryz.underlying162
  a46 := Tryz.isAgg162
  z46 := Tryz.sizeOf162
  v46 := Tryz.zeroValue162
  t50 := Tryz.underlying166
  a50 := Tryz.isAgg166
  z50 := Tryz.sizeOf166
  v50 := Tryz.zeroValue166
  t53 := Tryz.underlying169
  a53 := Tryz.isAgg169
  z53 := Tryz.sizeOf169
  v53 := Tryz.zeroValue169
  t55 := Tryz.underlying125
  a55 := Tryz.isAgg125
  z55 := Tryz.sizeOf125
  v55 := Tryz.zeroValue125
  t66 := Tryz.underlying171
  a66 := Tryz.isAgg171
  z66 := Tryz.sizeOf171
  v66 := Tryz.zeroValue171
  t70 := Tryz.underlying175
  a70 := Tryz.isAgg175
  z70 := Tryz.sizeOf175
  v70 := Tryz.zeroValue175
  t76 := Tryz.underlying177
  a76 := Tryz.isAgg177
  z76 := Tryz.sizeOf177
  v76 := Tryz.zeroValue177
  t77 := Tryz.underlying178
  a77 := Tryz.isAgg178
  z77 := Tryz.sizeOf178
  v77 := Tryz.zeroValue178 }
def Tryz.laysCloneI_ren : Go.Shelf.Ren := ⟨fun | 41 => 86 | n => n, fun | 22 => 23 | 23 => 2 | 4 => 4 | n => n, fun | n => n⟩
theorem Tryz.laysCloneI : Go.Proofs.SlLaysE0.n41 Tryz.prog Tryz.laysCloneI_ren := {
  mixed := by kernel_rfl
  f41 := ⟨Tryz.f86.name, by decide, Tryz.func86.trans (congrArg some (by kernel_rfl))⟩
  t4 := Tryz.underlying4
  a4 := Tryz.isAgg4
  z4 := Tryz.sizeOf4
  v4 := Tryz.zeroValue4
  t22 := Tryz.underlying23
  a22 := Tryz.isAgg23
  z22 := Tryz.sizeOf23
  v22 := Tryz.zeroValue23 }
def Tryz.laysCloneL_ren : Go.Shelf.Ren := ⟨fun | 41 => 95 | n => n, fun | 22 => 66 | 23 => 82 | 4 => 4 | n => n, fun | n => n⟩
theorem Tryz.laysCloneL : Go.Proofs.SlLaysE0.n41 Tryz.prog Tryz.laysCloneL_ren := {
  mixed := by kernel_rfl
  f41 := ⟨Tryz.f95.name, by decide, Tryz.func95.trans (congrArg some (by kernel_rfl))⟩
  t4 := Tryz.underlying4
  a4 := Tryz.isAgg4
  z4 := Tryz.sizeOf4
  v4 := Tryz.zeroValue4
  t22 := Tryz.underlying66
  a22 := Tryz.isAgg66
  z22 := Tryz.sizeOf66
  v22 := Tryz.zeroValue66 }
end Go.Proofs

namespace Go.Proofs.YtbhaoaobhgilkaaGreat
open Go.RowKit Go.Sort Go.Shelf

theorem cmpL_lt : ∀ {l m : List Int}, cmpL l m < 0 ↔ l < m
  | [], [] => by simp [cmpL]
  | [], _ :: _ => by simp [cmpL]
  | _ :: _, [] => by simp [cmpL]
  | x :: xs, y :: ys => by
    rw [List.cons_lt_cons_iff, ← cmpL_lt (l := xs) (m := ys), show cmpL (x :: xs) (y :: ys) = if cmpI x y = 0 then cmpL xs ys else cmpI x y from rfl]
    split
    · rename_i h
      have := cmpI_zero.1 h
      constructor
      · exact fun q => Or.inr ⟨this, q⟩
      · rintro (q | ⟨_, q⟩)
        · omega
        · exact q
    · rename_i h
      rw [cmpI_less]
      constructor
      · exact Or.inl
      · rintro (q | ⟨q, _⟩)
        · exact q
        · exact absurd (cmpI_zero.2 q) h

theorem cmpN_lt {x y : Ln} : cmpN x y < 0 ↔ x.a < y.a ∨ (x.a = y.a ∧ x.lim < y.lim) := by
  unfold cmpN
  split
  · rename_i h
    have e := cmpL_zero.1 h
    rw [cmpI_less, e]
    constructor
    · exact fun q => Or.inr ⟨rfl, q⟩
    · rintro (q | ⟨_, q⟩)
      · exact absurd q (List.lt_irrefl _)
      · exact q
  · rename_i h
    rw [cmpL_lt]
    constructor
    · exact Or.inl
    · rintro (q | ⟨q, _⟩)
      · exact q
      · exact absurd (cmpL_zero.2 q) h

theorem list_tri (l m : List Int) : l < m ∨ l = m ∨ m < l := by
  rcases Classical.em (l < m) with h | h
  · exact Or.inl h
  · rcases Classical.em (m < l) with q | q
    · exact Or.inr (Or.inr q)
    · exact Or.inr (Or.inl (List.le_antisymm (List.not_lt.1 q) (List.not_lt.1 h)))

/-- Lines whose numbers fit. -/
abbrev FL := { x : Ln // Rg 2147483647 x }

instance : Inhabited FL := ⟨⟨ln0, ⟨rfl, by decide, by decide⟩⟩⟩

def cfL (x y : FL) : Int := cmpN x.1 y.1

theorem ltL {x y : FL} : ltOf cfL x y = true ↔ (x.1.a < y.1.a ∨ (x.1.a = y.1.a ∧ x.1.lim < y.1.lim)) := by
  unfold ltOf cfL
  rw [decide_eq_true_eq, cmpN_lt]

theorem swoL : SWO (ltOf cfL) where
  irrefl x := by
    rw [Bool.eq_false_iff]
    intro h
    rcases ltL.1 h with q | ⟨_, q⟩
    · exact List.lt_irrefl _ q
    · omega
  trans x y z h k := by
    rw [ltL] at *
    rcases h with h | ⟨h, h'⟩
    · rcases k with k | ⟨k, _⟩
      · exact Or.inl (List.lt_trans h k)
      · exact Or.inl (k ▸ h)
    · rcases k with k | ⟨k, k'⟩
      · exact Or.inl (h ▸ k)
      · exact Or.inr ⟨h.trans k, by omega⟩
  ntrans x y z h k := by
    rw [Bool.eq_false_iff] at *
    rw [Ne, ltL] at *
    intro q
    rcases list_tri x.1.a y.1.a with a | a | a
    · exact h (Or.inl a)
    · rcases list_tri y.1.a z.1.a with b | b | b
      · exact k (Or.inl b)
      · rcases q with q | ⟨_, q⟩
        · rw [a, b] at q; exact List.lt_irrefl _ q
        · have c1 : ¬ x.1.lim < y.1.lim := fun c => h (Or.inr ⟨a, c⟩)
          have c2 : ¬ y.1.lim < z.1.lim := fun c => k (Or.inr ⟨b, c⟩)
          omega
      · rcases q with q | ⟨q, _⟩
        · rw [a] at q; exact List.lt_irrefl _ (List.lt_trans q b)
        · rw [← a, q] at b; exact List.lt_irrefl _ b
    · rcases list_tri y.1.a z.1.a with b | b | b
      · exact k (Or.inl b)
      · rcases q with q | ⟨q, _⟩
        · rw [b] at a; exact List.lt_irrefl _ (List.lt_trans q a)
        · rw [b, q] at a; exact List.lt_irrefl _ a
      · have c := List.lt_trans b a
        rcases q with q | ⟨q, _⟩
        · exact List.lt_irrefl _ (List.lt_trans q c)
        · rw [q] at c; exact List.lt_irrefl _ c

theorem totL (x y : FL) (h : ltOf cfL x y = false) (k : ltOf cfL y x = false) : x = y := by
  rw [Bool.eq_false_iff, Ne, ltL] at h k
  have ha : x.1.a = y.1.a := by
    rcases list_tri x.1.a y.1.a with a | a | a
    · exact absurd (Or.inl a) h
    · exact a
    · exact absurd (Or.inl a) k
  have hl : x.1.lim = y.1.lim := by
    have c1 : ¬ x.1.lim < y.1.lim := fun c => h (Or.inr ⟨ha, c⟩)
    have c2 : ¬ y.1.lim < x.1.lim := fun c => k (Or.inr ⟨ha.symm, c⟩)
    omega
  have hs : x.1.s = y.1.s ∧ x.1.b = y.1.b := by
    unfold Ln.lim at hl
    cases h1 : x.1.s <;> cases h2 : y.1.s <;> rw [h1, h2] at hl <;> simp at hl ⊢ <;> omega
  apply Subtype.ext
  rcases x with ⟨⟨a, b, s⟩, hx⟩
  rcases y with ⟨⟨a', b', s'⟩, hy⟩
  simp only at ha hs
  show (⟨a, b, s⟩ : Ln) = ⟨a', b', s'⟩
  rw [ha, hs.1, hs.2]

def encL (x : FL) : List Value := x.1.cells

theorem encL_len (x : FL) : (encL x).length = 8 := Ln.cells_len x.2.len

theorem layL (b n : Nat) (w : World) : CmpLays Tryz.prog 125 #[] encL 8 cfL b 0 n w := fun m os dk _ x y => by
  refine (tidy1_any x.1 y.1 (sortWorldK encL 8 w b 0 m dk os) x.2 y.2).mono ?_
  rintro e w' ⟨rfl, q, os', h⟩
  exact ⟨rfl, q, os', h⟩

theorem holdsL {w : World} {b : Nat} {d : Array FL} : HoldsK encL 8 w b 0 d ↔ Rw w b (d.toList.map Subtype.val) := by
  have key : ∀ i, ∀ hi : i < d.size, ∀ c, c < 8 → (encL d[i]!)[c]! = (d[i].1.cells[c]?).getD default := fun i hi c hc => by
    rw [getElem!_pos d i hi]
    unfold encL
    rw [List.getElem!_eq_getElem?_getD]
  constructor
  · intro h
    refine ⟨fun i hi => ?_, fun j hj => ?_⟩
    · have hi' : i < d.size := by simpa using hi
      have he : (d.toList.map Subtype.val)[i] = d[i].1 := by simp
      rw [he]
      refine ⟨d[i].2.len, fun c v hv => ?_⟩
      have hc : c < 8 := by
        by_cases q : c < 8
        · exact q
        · rw [List.getElem?_eq_none (by rw [Ln.cells_len d[i].2.len]; omega)] at hv; cases hv
      have := (HoldsK.cell h hi' hc).1
      rw [addr_add]
      rw [Nat.zero_add] at this
      rw [this, key i hi' c hc, hv]; rfl
    · have hj' : j < d.size * 8 := by simpa using hj
      have := h j (by simpa using hj')
      rw [Nat.zero_add] at this
      exact ⟨by rw [this.1]; rfl, this.2⟩
  · intro h j hj
    have hj' : j < d.size * 8 := by simpa using hj
    have hd : j / 8 < d.size := by omega
    have h1 := h.1 (j / 8) (by simpa using hd)
    have he : (d.toList.map Subtype.val)[j / 8]'(by simpa using hd) = d[j / 8].1 := by simp
    rw [he] at h1
    have h2 := h.2 j (by simpa using hj')
    have hl := Ln.cells_len d[j / 8].2.len
    have h3 := h1.2 (j % 8) _ (List.getElem?_eq_getElem (show j % 8 < d[j / 8].1.cells.length by omega))
    rw [addr_add, show j / 8 * 8 + j % 8 = j by omega] at h3
    rw [Nat.zero_add]
    refine ⟨?_, h2.2⟩
    rw [h3, get_flatK encL 8 d j hj', key _ hd _ (by omega), List.getElem?_eq_getElem (show j % 8 < d[j / 8].1.cells.length by omega)]
    rfl

/-- The lines in their order. -/
def srtF (d : List FL) : List FL := d.mergeSort fun x y => !(ltOf cfL y x)

theorem sort_any (d : List FL) (b cap : Nat) (w : World) (hl : d.length ≤ 1000000) (hb : b < w.heap.size) (hR : Rw w b (d.map Subtype.val)) :
    Calls Tryz.prog 124 #[.slice (some ⟨b, 0, none⟩) d.length cap, .func (.func 125) #[] #[]] w
      (fun e w' => e = .returned (.tuple #[]) ∧ Rw w' b ((srtF d).map Subtype.val) ∧ Below b w w') := by
  have hH : HoldsK encL 8 w b 0 d.toArray := holdsL.2 (by simpa using hR)
  have hle : (srtF d).length = d.length := List.length_mergeSort _
  have h := AnyQ.slices_SortFunc_total Tryz.laysSort 8 (fun w => by
      show (isAgg 82).run Tryz.prog w = .ok true w
      unfold isAgg; rw [Sem.run_bind, run_underlying Tryz.underlying82 w]; simp) (fun w => size_of ln_size w) encL encL_len (fun x v hv => cells_one x.1 v hv) cfL swoL 125 #[] b 0 cap d.toArray w
    (enters_of Tryz.func125 (by kernel_rfl) rfl) (layL b d.toArray.size w) hH hb (by simp; omega) totL
  change Calls Tryz.prog 124 _ _ _ at h
  rw [List.size_toArray] at h
  refine h.mono ?_
  rintro e w' ⟨he, n, os, rfl⟩
  have h1 : HoldsK encL 8 (sortWorldK encL 8 w b 0 n (srtF d).toArray os) b 0 (srtF d).toArray := by
    unfold sortWorldK
    exact holdsK_grow encL 8 _ _ _ _ _ (by simpa [putRowK, Sort.ahead] using hb) (holdsK_putRowK encL 8 (Sort.ahead w n) b 0 d.toArray _ (holdsK_ahead encL 8 w n b 0 d.toArray hH) (by simp [hle]))
  refine ⟨he, ?_, ?_⟩
  · have := holdsL.1 h1
    simpa [srtF] using this
  · unfold sortWorldK grow putRowK putRow mapBlock Sort.ahead
    refine ⟨rfl, rfl, rfl, by simp, fun k hk => ?_⟩
    have hk' : k < w.heap.size := by omega
    simp only
    rw [Array.getElem?_append_left (by simpa using hk'), Array.getElem?_modify, if_neg (by omega)]
end Go.Proofs.YtbhaoaobhgilkaaGreat
