/- DERIVED: THE SHELF's CONTRACTS AT THIS DUMP, IN PLAIN WORDS (tools/lay-plain.mjs out of 'TryzShelf.lean', which tools/lay-shelf.mjs wrote): THE SAME DECLARATIONS UNDER THE SAME NAMES: 'import', 'namespace', 'open', 'def', 'theorem' AND NOTHING ELSE: no command of the shelf's: FOR A HAND-IN. Each laying: the table of numbers ('.._ren') and one theorem, a field a fact of the dump's own or the kernel's comparison; each contract: ONE APPLICATION.; slices.SortFunc at lines.; Contracts of package poly: tidy. -/
import Derived.Shelf.SlSortCmp.NoneTotal
import Derived.Shelf.SlicesE.Clone
import Derived.Ground.SlsfProg
import Derived.Ground.SlgnProg
import Derived.Test.YtbhaoaobhgilkaaGreatProg
import Derived.Test.YtbhaoaobhgilkaaGreatWm5

namespace Go.Proofs
open Go.Shelf
def Tryz.laysSort_ren : Go.Shelf.Ren := ⟨fun | 6 => 124 | 15 => 149 | 14 => 148 | 28 => 164 | 29 => 165 | 20 => 156 | 21 => 157 | 22 => 158 | 23 => 159 | 24 => 160 | 25 => 161 | 26 => 162 | 27 => 163 | 46 => 167 | 47 => 168 | 48 => 169 | 49 => 170 | 50 => 171 | 57 => 172 | n => n, fun | 22 => 66 | 24 => 82 | 25 => 142 | 3 => 3 | 39 => 158 | 0 => 0 | 53 => 169 | 55 => 125 | 4 => 4 | 46 => 162 | 45 => 161 | 50 => 166 | 5 => 5 | 9 => 9 | 66 => 171 | 70 => 175 | 76 => 177 | 77 => 178 | n => n, fun | n => n⟩
theorem Tryz.laysSort : Go.Proofs.SlLaysF0.n6 Tryz.prog Tryz.laysSort_ren := {
  mixed := by kernel_rfl
  f6 := ⟨Tryz.f124.name, by decide, Tryz.func124.trans (congrArg some (by kernel_rfl))⟩
  f14 := ⟨Tryz.f148.name, by decide, Tryz.func148.trans (congrArg some (by kernel_rfl))⟩
  f15 := Tryz.func149.trans (congrArg some (by kernel_rfl))
  f20 := ⟨Tryz.f156.name, by decide, Tryz.func156.trans (congrArg some (by kernel_rfl))⟩
  f21 := ⟨Tryz.f157.name, by decide, Tryz.func157.trans (congrArg some (by kernel_rfl))⟩
  f22 := ⟨Tryz.f158.name, by decide, Tryz.func158.trans (congrArg some (by kernel_rfl))⟩
  f23 := ⟨Tryz.f159.name, by decide, Tryz.func159.trans (congrArg some (by kernel_rfl))⟩
  f24 := ⟨Tryz.f160.name, by decide, Tryz.func160.trans (congrArg some (by kernel_rfl))⟩
  f25 := ⟨Tryz.f161.name, by decide, Tryz.func161.trans (congrArg some (by kernel_rfl))⟩
  f26 := ⟨Tryz.f162.name, by decide, Tryz.func162.trans (congrArg some (by kernel_rfl))⟩
  f27 := ⟨Tryz.f163.name, by decide, Tryz.func163.trans (congrArg some (by kernel_rfl))⟩
  f28 := Tryz.func164.trans (congrArg some (by kernel_rfl))
  f29 := Tryz.func165.trans (congrArg some (by kernel_rfl))
  f46 := ⟨Tryz.f167.name, by decide, Tryz.func167.trans (congrArg some (by kernel_rfl))⟩
  f47 := Tryz.func168.trans (congrArg some (by kernel_rfl))
  f48 := Tryz.func169.trans (congrArg some (by kernel_rfl))
  f49 := ⟨Tryz.f170.name, by decide, Tryz.func170.trans (congrArg some (by kernel_rfl))⟩
  f50 := ⟨Tryz.f171.name, by decide, Tryz.func171.trans (congrArg some (by kernel_rfl))⟩
  f57 := ⟨Tryz.f172.name, by decide, Tryz.func172.trans (congrArg some (by kernel_rfl))⟩
  t0 := Tryz.underlying0
  a0 := Tryz.isAgg0
  z0 := Tryz.sizeOf0
  v0 := Tryz.zeroValue0
  t3 := Tryz.underlying3
  a3 := Tryz.isAgg3
  z3 := Tryz.sizeOf3
  v3 := Tryz.zeroValue3
  t4 := Tryz.underlying4
  a4 := Tryz.isAgg4
  z4 := Tryz.sizeOf4
  v4 := Tryz.zeroValue4
  t5 := Tryz.underlying5
  a5 := Tryz.isAgg5
  z5 := Tryz.sizeOf5
  v5 := Tryz.zeroValue5
  t9 := Tryz.underlying9
  a9 := Tryz.isAgg9
  z9 := Tryz.sizeOf9
  v9 := Tryz.zeroValue9
  t22 := Tryz.underlying66
  a22 := Tryz.isAgg66
  z22 := Tryz.sizeOf66
  v22 := Tryz.zeroValue66
  t25 := Tryz.underlying142
  a25 := Tryz.isAgg142
  z25 := Tryz.sizeOf142
  v25 := Tryz.zeroValue142
  t39 := Tryz.underlying158
  a39 := Tryz.isAgg158
  z39 := Tryz.sizeOf158
  v39 := Tryz.zeroValue158
  t45 := Tryz.underlying161
  a45 := Tryz.isAgg161
  z45 := Tryz.sizeOf161
  v45 := Tryz.zeroValue161
  t46 := Tryz.underlying162
  a46 := Tryz.isAgg162
  z46 := Tryz.sizeOf162
  v46 := Tryz.zeroValue162
  t50 := Tryz.underlying166
  a50 := Tryz.isAgg166
  z50 := Tryz.sizeOf166
  v50 := Tryz.zeroValue166
  t53 := Tryz.underlying169
  a53 := Tryz.isAgg169
  z53 := Tryz.sizeOf169
  v53 := Tryz.zeroValue169
  t55 := Tryz.underlying125
  a55 := Tryz.isAgg125
  z55 := Tryz.sizeOf125
  v55 := Tryz.zeroValue125
  t66 := Tryz.underlying171
  a66 := Tryz.isAgg171
  z66 := Tryz.sizeOf171
  v66 := Tryz.zeroValue171
  t70 := Tryz.underlying175
  a70 := Tryz.isAgg175
  z70 := Tryz.sizeOf175
  v70 := Tryz.zeroValue175
  t76 := Tryz.underlying177
  a76 := Tryz.isAgg177
  z76 := Tryz.sizeOf177
  v76 := Tryz.zeroValue177
  t77 := Tryz.underlying178
  a77 := Tryz.isAgg178
  z77 := Tryz.sizeOf178
  v77 := Tryz.zeroValue178 }
def Tryz.laysCloneI_ren : Go.Shelf.Ren := ⟨fun | 41 => 86 | n => n, fun | 22 => 23 | 23 => 2 | 4 => 4 | n => n, fun | n => n⟩
theorem Tryz.laysCloneI : Go.Proofs.SlLaysE0.n41 Tryz.prog Tryz.laysCloneI_ren := {
  mixed := by kernel_rfl
  f41 := ⟨Tryz.f86.name, by decide, Tryz.func86.trans (congrArg some (by kernel_rfl))⟩
  t4 := Tryz.underlying4
  a4 := Tryz.isAgg4
  z4 := Tryz.sizeOf4
  v4 := Tryz.zeroValue4
  t22 := Tryz.underlying23
  a22 := Tryz.isAgg23
  z22 := Tryz.sizeOf23
  v22 := Tryz.zeroValue23 }
def Tryz.laysCloneL_ren : Go.Shelf.Ren := ⟨fun | 41 => 95 | n => n, fun | 22 => 66 | 23 => 82 | 4 => 4 | n => n, fun | n => n⟩
theorem Tryz.laysCloneL : Go.Proofs.SlLaysE0.n41 Tryz.prog Tryz.laysCloneL_ren := {
  mixed := by kernel_rfl
  f41 := ⟨Tryz.f95.name, by decide, Tryz.func95.trans (congrArg some (by kernel_rfl))⟩
  t4 := Tryz.underlying4
  a4 := Tryz.isAgg4
  z4 := Tryz.sizeOf4
  v4 := Tryz.zeroValue4
  t22 := Tryz.underlying66
  a22 := Tryz.isAgg66
  z22 := Tryz.sizeOf66
  v22 := Tryz.zeroValue66 }
end Go.Proofs

namespace Go.Proofs.YtbhaoaobhgilkaaGreat
open Go.RowKit Go.Sort Go.Shelf

theorem cmpL_lt : ∀ {l m : List Int}, cmpL l m < 0 ↔ l < m
  | [], [] => by simp [cmpL]
  | [], _ :: _ => by simp [cmpL]
  | _ :: _, [] => by simp [cmpL]
  | x :: xs, y :: ys => by
    rw [List.cons_lt_cons_iff, ← cmpL_lt (l := xs) (m := ys), show cmpL (x :: xs) (y :: ys) = if cmpI x y = 0 then cmpL xs ys else cmpI x y from rfl]
    split
    · rename_i h
      have := cmpI_zero.1 h
      constructor
      · exact fun q => Or.inr ⟨this, q⟩
      · rintro (q | ⟨_, q⟩)
        · omega
        · exact q
    · rename_i h
      rw [cmpI_less]
      constructor
      · exact Or.inl
      · rintro (q | ⟨q, _⟩)
        · exact q
        · exact absurd (cmpI_zero.2 q) h

theorem cmpN_lt {x y : Ln} : cmpN x y < 0 ↔ x.a < y.a ∨ (x.a = y.a ∧ x.lim < y.lim) := by
  unfold cmpN
  split
  · rename_i h
    have e := cmpL_zero.1 h
    rw [cmpI_less, e]
    constructor
    · exact fun q => Or.inr ⟨rfl, q⟩
    · rintro (q | ⟨_, q⟩)
      · exact absurd q (List.lt_irrefl _)
      · exact q
  · rename_i h
    rw [cmpL_lt]
    constructor
    · exact Or.inl
    · rintro (q | ⟨q, _⟩)
      · exact q
      · exact absurd (cmpL_zero.2 q) h

theorem list_tri (l m : List Int) : l < m ∨ l = m ∨ m < l := by
  rcases Classical.em (l < m) with h | h
  · exact Or.inl h
  · rcases Classical.em (m < l) with q | q
    · exact Or.inr (Or.inr q)
    · exact Or.inr (Or.inl (List.le_antisymm (List.not_lt.1 q) (List.not_lt.1 h)))

abbrev FL := { x : Ln // Rg 2147483647 x }

instance : Inhabited FL := ⟨⟨ln0, ⟨rfl, by decide, by decide⟩⟩⟩

def cfL (x y : FL) : Int := cmpN x.1 y.1

theorem ltL {x y : FL} : ltOf cfL x y = true ↔ (x.1.a < y.1.a ∨ (x.1.a = y.1.a ∧ x.1.lim < y.1.lim)) := by
  unfold ltOf cfL
  rw [decide_eq_true_eq, cmpN_lt]

theorem swoL : SWO (ltOf cfL) where
  irrefl x := by
    rw [Bool.eq_false_iff]
    intro h
    rcases ltL.1 h with q | ⟨_, q⟩
    · exact List.lt_irrefl _ q
    · omega
  trans x y z h k := by
    rw [ltL] at *
    rcases h with h | ⟨h, h'⟩
    · rcases k with k | ⟨k, _⟩
      · exact Or.inl (List.lt_trans h k)
      · exact Or.inl (k ▸ h)
    · rcases k with k | ⟨k, k'⟩
      · exact Or.inl (h ▸ k)
      · exact Or.inr ⟨h.trans k, by omega⟩
  ntrans x y z h k := by
    rw [Bool.eq_false_iff] at *
    rw [Ne, ltL] at *
    intro q
    rcases list_tri x.1.a y.1.a with a | a | a
    · exact h (Or.inl a)
    · rcases list_tri y.1.a z.1.a with b | b | b
      · exact k (Or.inl b)
      · rcases q with q | ⟨_, q⟩
        · rw [a, b] at q; exact List.lt_irrefl _ q
        · have c1 : ¬ x.1.lim < y.1.lim := fun c => h (Or.inr ⟨a, c⟩)
          have c2 : ¬ y.1.lim < z.1.lim := fun c => k (Or.inr ⟨b, c⟩)
          omega
      · rcases q with q | ⟨q, _⟩
        · rw [a] at q; exact List.lt_irrefl _ (List.lt_trans q b)
        · rw [← a, q] at b; exact List.lt_irrefl _ b
    · rcases list_tri y.1.a z.1.a with b | b | b
      · exact k (Or.inl b)
      · rcases q with q | ⟨q, _⟩
        · rw [b] at a; exact List.lt_irrefl _ (List.lt_trans q a)
        · rw [b, q] at a; exact List.lt_irrefl _ a
      · have c := List.lt_trans b a
        rcases q with q | ⟨q, _⟩
        · exact List.lt_irrefl _ (List.lt_trans q c)
        · rw [q] at c; exact List.lt_irrefl _ c

theorem totL (x y : FL) (h : ltOf cfL x y = false) (k : ltOf cfL y x = false) : x = y := by
  rw [Bool.eq_false_iff, Ne, ltL] at h k
  have ha : x.1.a = y.1.a := by
    rcases list_tri x.1.a y.1.a with a | a | a
    · exact absurd (Or.inl a) h
    · exact a
    · exact absurd (Or.inl a) k
  have hl : x.1.lim = y.1.lim := by
    have c1 : ¬ x.1.lim < y.1.lim := fun c => h (Or.inr ⟨ha, c⟩)
    have c2 : ¬ y.1.lim < x.1.lim := fun c => k (Or.inr ⟨ha.symm, c⟩)
    omega
  have hs : x.1.s = y.1.s ∧ x.1.b = y.1.b := by
    unfold Ln.lim at hl
    cases h1 : x.1.s <;> cases h2 : y.1.s <;> rw [h1, h2] at hl <;> simp at hl ⊢ <;> omega
  apply Subtype.ext
  rcases x with ⟨⟨a, b, s⟩, hx⟩
  rcases y with ⟨⟨a', b', s'⟩, hy⟩
  simp only at ha hs
  show (⟨a, b, s⟩ : Ln) = ⟨a', b', s'⟩
  rw [ha, hs.1, hs.2]

def encL (x : FL) : List Value := x.1.cells

theorem encL_len (x : FL) : (encL x).length = 8 := Ln.cells_len x.2.len

theorem layL (b n : Nat) (w : World) : CmpLays Tryz.prog 125 #[] encL 8 cfL b 0 n w := fun m os dk _ x y => by
  refine (tidy1_any x.1 y.1 (sortWorldK encL 8 w b 0 m dk os) x.2 y.2).mono ?_
  rintro e w' ⟨rfl, q, os', h⟩
  exact ⟨rfl, q, os', h⟩

theorem holdsL {w : World} {b : Nat} {d : Array FL} : HoldsK encL 8 w b 0 d ↔ Rw w b (d.toList.map Subtype.val) := by
  have key : ∀ i, ∀ hi : i < d.size, ∀ c, c < 8 → (encL d[i]!)[c]! = (d[i].1.cells[c]?).getD default := fun i hi c hc => by
    rw [getElem!_pos d i hi]
    unfold encL
    rw [List.getElem!_eq_getElem?_getD]
  constructor
  · intro h
    refine ⟨fun i hi => ?_, fun j hj => ?_⟩
    · have hi' : i < d.size := by simpa using hi
      have he : (d.toList.map Subtype.val)[i] = d[i].1 := by simp
      rw [he]
      refine ⟨d[i].2.len, fun c v hv => ?_⟩
      have hc : c < 8 := by
        by_cases q : c < 8
        · exact q
        · rw [List.getElem?_eq_none (by rw [Ln.cells_len d[i].2.len]; omega)] at hv; cases hv
      have := (HoldsK.cell h hi' hc).1
      rw [addr_add]
      rw [Nat.zero_add] at this
      rw [this, key i hi' c hc, hv]; rfl
    · have hj' : j < d.size * 8 := by simpa using hj
      have := h j (by simpa using hj')
      rw [Nat.zero_add] at this
      exact ⟨by rw [this.1]; rfl, this.2⟩
  · intro h j hj
    have hj' : j < d.size * 8 := by simpa using hj
    have hd : j / 8 < d.size := by omega
    have h1 := h.1 (j / 8) (by simpa using hd)
    have he : (d.toList.map Subtype.val)[j / 8]'(by simpa using hd) = d[j / 8].1 := by simp
    rw [he] at h1
    have h2 := h.2 j (by simpa using hj')
    have hl := Ln.cells_len d[j / 8].2.len
    have h3 := h1.2 (j % 8) _ (List.getElem?_eq_getElem (show j % 8 < d[j / 8].1.cells.length by omega))
    rw [addr_add, show j / 8 * 8 + j % 8 = j by omega] at h3
    rw [Nat.zero_add]
    refine ⟨?_, h2.2⟩
    rw [h3, get_flatK encL 8 d j hj', key _ hd _ (by omega), List.getElem?_eq_getElem (show j % 8 < d[j / 8].1.cells.length by omega)]
    rfl

def srtF (d : List FL) : List FL := d.mergeSort fun x y => !(ltOf cfL y x)

theorem sort_any (d : List FL) (b cap : Nat) (w : World) (hl : d.length ≤ 1000000) (hb : b < w.heap.size) (hR : Rw w b (d.map Subtype.val)) :
    Calls Tryz.prog 124 #[.slice (some ⟨b, 0, none⟩) d.length cap, .func (.func 125) #[] #[]] w
      (fun e w' => e = .returned (.tuple #[]) ∧ Rw w' b ((srtF d).map Subtype.val) ∧ Below b w w') := by
  have hH : HoldsK encL 8 w b 0 d.toArray := holdsL.2 (by simpa using hR)
  have hle : (srtF d).length = d.length := List.length_mergeSort _
  have h := AnyQ.slices_SortFunc_total Tryz.laysSort 8 (fun w => by
      show (isAgg 82).run Tryz.prog w = .ok true w
      unfold isAgg; rw [Sem.run_bind, run_underlying Tryz.underlying82 w]; simp) (fun w => size_of ln_size w) encL encL_len (fun x v hv => cells_one x.1 v hv) cfL swoL 125 #[] b 0 cap d.toArray w
    (enters_of Tryz.func125 (by kernel_rfl) rfl) (layL b d.toArray.size w) hH hb (by simp; omega) totL
  change Calls Tryz.prog 124 _ _ _ at h
  rw [List.size_toArray] at h
  refine h.mono ?_
  rintro e w' ⟨he, n, os, rfl⟩
  have h1 : HoldsK encL 8 (sortWorldK encL 8 w b 0 n (srtF d).toArray os) b 0 (srtF d).toArray := by
    unfold sortWorldK
    exact holdsK_grow encL 8 _ _ _ _ _ (by simpa [putRowK, Sort.ahead] using hb) (holdsK_putRowK encL 8 (Sort.ahead w n) b 0 d.toArray _ (holdsK_ahead encL 8 w n b 0 d.toArray hH) (by simp [hle]))
  refine ⟨he, ?_, ?_⟩
  · have := holdsL.1 h1
    simpa [srtF] using this
  · unfold sortWorldK grow putRowK putRow mapBlock Sort.ahead
    refine ⟨rfl, rfl, rfl, by simp, fun k hk => ?_⟩
    have hk' : k < w.heap.size := by omega
    simp only
    rw [Array.getElem?_append_left (by simpa using hk'), Array.getElem?_modify, if_neg (by omega)]
end Go.Proofs.YtbhaoaobhgilkaaGreat

namespace Go.Proofs.YtbhaoaobhgilkaaGreat
open Go.RowKit Go.Sort Go.Shelf

def z6 : List Int := [0, 0, 0, 0, 0, 0]

def bad0 : Ln := ⟨z6, 0, true⟩

def badB (l : List Ln) : Bool := l.any fun x => decide (x.low.a = z6) && decide (x.low.lim ≤ 0)

def keepL (l : List Ln) : List Ln := (l.map Ln.low).filter fun x => decide (x.a ≠ z6)

def srtL (l : List Ln) : List Ln := l.mergeSort fun x y => !decide (cmpN y x < 0)

def cptL (l : List Ln) : List Ln := cptN l l.length

def tidyL (l : List Ln) : List Ln := if badB l then [bad0] else cptL (srtL (keepL l))

theorem srtF_val (d : List FL) : (srtF d).map Subtype.val = srtL (d.map Subtype.val) := by
  unfold srtF srtL
  exact List.map_mergeSort (fun a _ b _ => rfl)

theorem keepL_snoc {l : List Ln} {t : Nat} (h : t < l.length) : keepL (l.take (t + 1)) = keepL (l.take t) ++ (if (l[t]).low.a = z6 then [] else [(l[t]).low]) := by
  unfold keepL
  rw [List.take_succ_eq_append_getElem h, List.map_append, List.filter_append]
  congr 1
  by_cases e : (l[t]).low.a = z6 <;> simp [e]

theorem cptN_mem {l : List Ln} : ∀ {t : Nat} {x : Ln}, x ∈ cptN l t → x ∈ l
  | 0, x, h => by simp [cptN] at h
  | t + 1, x, h => by
    simp only [cptN, List.mem_append] at h
    rcases h with h | h
    · exact cptN_mem h
    · split at h
      · split at h
        · simp at h
        · simp only [List.mem_singleton] at h; rw [h]; exact List.getElem_mem _
      · simp at h

theorem cptL_mem {l : List Ln} {x : Ln} (h : x ∈ cptL l) : x ∈ l := cptN_mem h

theorem srtL_mem {l : List Ln} {x : Ln} : x ∈ srtL l ↔ x ∈ l := List.mem_mergeSort

theorem keepL_mem {l : List Ln} {x : Ln} (h : x ∈ keepL l) : ∃ y ∈ l, y.low = x := by
  simp only [keepL, List.mem_filter, List.mem_map] at h
  exact h.1

theorem tidyL_rg {m : Int} {l : List Ln} (hm : 0 ≤ m) (h : ∀ x ∈ l, Rg m x) : ∀ x ∈ tidyL l, Rg m x := by
  intro x hx
  unfold tidyL at hx
  split at hx
  · simp only [List.mem_singleton] at hx
    rw [hx]
    exact ⟨rfl, by intro v hv; simp [bad0, z6] at hv; omega, by simp [bad0]; omega⟩
  · obtain ⟨y, hy, rfl⟩ := keepL_mem (srtL_mem.1 (cptL_mem hx))
    exact (h y hy).low

theorem ln_info3 : (Tryz.prog.info? 82).map (fun i => (i.zero, i.size, i.bytes)) = some (some (.agg ln0.cs), 8, 64) := by kernel_rfl

theorem ln_build2 (w : World) : (Instr.build 82 #[(2, .bool true)]).run Tryz.prog w = .ok (.agg bad0.cs) w := run_build w _ _ _ (by kernel_rfl)

theorem coef_build (w : World) : (Instr.build 80 #[]).run Tryz.prog w = .ok (.agg (avs z6)) w := run_build w _ _ _ (by kernel_rfl)

theorem grown_row (w : World) (b : Nat) (cs : Array Value) : w.grownBy (w.setRow b cs) (some b) := ⟨rfl, rfl, rfl, by simp, fun k _ hk => setRow_other w b k cs (fun e => hk (by rw [e]))⟩

theorem OwnL.row {w : World} {B : Nat} {v : Value} {l : List Ln} (h : OwnL w B v l) {q : Nat} (hq : ∀ k, v.ownBlock = some k → k ≠ q) (cs : Array Value) : OwnL (w.setRow q cs) B v l :=
  ⟨World.ownsRow.kept h.1 (grown_row w q cs) (by
    cases e : v.ownBlock with
    | none => exact Or.inl rfl
    | some k => exact Or.inr (fun h' => hq k e (by injection h'))), h.2⟩

theorem OwnL.lt {w : World} {B : Nat} {v : Value} {l : List Ln} (h : OwnL w B v l) : ∀ k, v.ownBlock = some k → k < w.heap.size := fun k hk => (World.ownsRow.lt h.1 k hk).2

theorem OwnL.rw' {w : World} {B : Nat} {g cap : Nat} {l : List Ln} (h : OwnL w B (.slice (some ⟨g, 0, none⟩) l.length cap) l) : Rw w g l := by
  refine ⟨fun i hi => ⟨h.2 _ (List.getElem_mem hi), fun j v hv => ?_⟩, fun j hj => ?_⟩
  · have hj : j < 8 := by
      by_cases q : j < 8
      · exact q
      · rw [List.getElem?_eq_none (by rw [Ln.cells_len (h.2 _ (List.getElem_mem hi))]; omega)] at hv; cases hv
    rw [addr_add]
    exact (World.ownsRow.cellAt h.1 (i * 8 + j) (by omega)).trans ((flat_at h.2 hi hj).trans hv)
  · refine ⟨?_, World.ownsRow.frozenAt h.1 j⟩
    rw [World.ownsRow.cellAt h.1 j hj, List.getElem?_eq_getElem (by rw [flat_len h.2]; exact hj)]
    rfl

theorem Rw.rd {w : World} {b : Nat} {l : List Ln} (h : Rw w b l) : RdL w (some ⟨b, 0, none⟩) l := fun t ht => ⟨_, rfl, by rw [addr_add, Nat.zero_add]; exact h.1 t ht⟩

theorem run_bs1 (x : Ln) (hx : x.a.length = 6) (w : World) : (Instr.buildSlice 66 1 #[(0, .agg x.cs)]).run Tryz.prog w = .ok (.slice (some ⟨w.heap.size, 0, none⟩) 1 1) (w.alloc (.cells x.cs 82)) := by
  have hz := (zero_of_info ln_info).1 w
  have hs := size_of ln_size w
  obtain ⟨a, b, s⟩ := x
  match a, hx with
  | [a0, a1, a2, a3, a4, a5], _ =>
    simp [go_sem, Instr.buildSlice, run_underlying Tryz.underlying66, hs, Ln.cs, Ln.cells, Instr.fill]

theorem wp_bs1 {w : World} {o : Oper} {a : Act} {K : Act → World → Prop} {Q : Exit → Act → World → Prop} (s : Operand) (ho : o.op = .buildSlice 66 1 #[(0, s)]) (x : Ln) (hs : a.eval s = .agg x.cs) (hx : x.a.length = 6)
    (h : K (a.put o.dst (.slice (some ⟨w.heap.size, 0, none⟩) 1 1)) (w.alloc (.cells x.cs 82))) : o.wp Tryz.prog a w K Q := by
  have hv := run_bs1 x hx w
  generalize x.cs = V at *
  unfold Oper.wp execOp
  simp only [ho, List.map_toArray, List.map_cons, List.map_nil, hs, Sem.run_bind, Sem.run_pure, hv, Result.andThen_ok]
  exact h

theorem wpl_bs1 {w : World} {ops : Array Oper} {rest : List Oper} {o : Oper} {a : Act} {Q : Exit → Act → World → Prop} (hgd : o.guard = none) (s : Operand) (ho : o.op = .buildSlice 66 1 #[(0, s)]) (x : Ln) (hs : a.eval s = .agg x.cs) (hx : x.a.length = 6)
    (h : wpList Tryz.prog ops Q rest (a.put o.dst (.slice (some ⟨w.heap.size, 0, none⟩) 1 1)) (w.alloc (.cells x.cs 82))) : wpList Tryz.prog ops Q (o :: rest) a w :=
  wpList_plain hgd fun _ hK => wp_bs1 s ho x hs hx (hK _ _ h)

def LRes (w : World) (l : List Ln) (e : Ending) (w' : World) : Prop := ∃ ao cap, e = .returned (.slice ao l.length cap) ∧ RdL w' ao l ∧ Below w.heap.size w w'

set_option maxRecDepth 20000 in
set_option maxHeartbeats 4000000 in
theorem tidy_any (l : List Ln) (ao : Option Addr) (cap : Nat) (w : World) (hl : l.length ≤ 100000) (hR : RdL w ao l) (hg : ∀ x ∈ l, Rg 2147483647 x) :
    Calls Tryz.prog 90 #[.slice ao l.length cap] w (LRes w (tidyL l)) := by
  obtain ⟨i0, hi, hz0, hz1, hz2⟩ := info_parts ln_info3
  have hz := ln_zero
  have h0 := coef_build
  have hb2 := ln_build2
  have LO := Lib.hid (fun (x : Ln) W (h : Rg 2147483647 x) => lowest_any x W h.len (fun v hv => by have := h.a v hv; unfold A63; omega) (by have := h.b; unfold A63; omega))
  have LM := Lib.hid (fun (x : Ln) W (h : Rg 2147483647 x) => lim_any x W (h.mono (by omega)))
  have HG := Lib.hid hg
  have HR := Lib.hid hR
  obtain ⟨n, hn⟩ : ∃ n, n = l.length := ⟨_, rfl⟩
  have HN := Lib.hid hn
  have hle : n ≤ 100000 := by omega
  rw [← hn]
  clear hl hR hg hn
  go_enter Tryz.func90, Tryz.ntmps90
  go_wp2_with fail
  go_loopw [3, 8] (fun v s wr => ∃ t : Nat, s = .int .i64 t ∧ t ≤ n ∧ Hid (OwnL wr w.heap.size v (keepL (l.take t))) ∧ Hid (Below w.heap.size w wr) ∧ Hid (badB (l.take t) = false)) (fun _ s _ => n - (intOf s).toNat)
  case atStart => exact ⟨0, rfl, by omega, Lib.hid (by simpa [keepL] using OwnL.nil _ _), Lib.hid (Below.refl _ _), Lib.hid (by simp [badB])⟩
  case round =>
    obtain ⟨t, rfl, ht, HO, HB, HF⟩ := hrel
    by_cases htn : t < n
    · have hl1 : t < l.length := by have := HN.out; omega
      obtain ⟨a, ha, hla⟩ := HR.out.on HB.out t hl1
      obtain ⟨x, hx⟩ : ∃ x, x = l[t] := ⟨_, rfl⟩
      rw [← hx] at hla
      have LA := Lib.hid hla
      have GX := Lib.hid (show Rg 2147483647 x by rw [hx]; exact HG.out _ (List.getElem_mem _))
      have KS := Lib.hid (show keepL (l.take (t + 1)) = keepL (l.take t) ++ (if x.low.a = z6 then [] else [x.low]) by rw [hx]; exact keepL_snoc hl1)
      have BS := Lib.hid (show badB (l.take (t + 1)) = (decide (x.low.a = z6) && decide (x.low.lim ≤ 0)) by
        have := HF.out
        unfold badB at this ⊢
        rw [List.take_succ_eq_append_getElem hl1, List.any_append, this, ← hx]; simp)
      have BA := Lib.hid (show (decide (x.low.a = z6) && decide (x.low.lim ≤ 0)) = true → badB l = true from fun h => by
        unfold badB
        rw [List.any_eq_true]
        exact ⟨x, by rw [hx]; exact List.getElem_mem _, h⟩)
      have GL := Lib.hid GX.out.low
      clear hla hx hl1
      subst ha
      obtain ⟨q, hq⟩ : ∃ q, q = wr.heap.size := ⟨_, rfl⟩
      have N1 := Lib.hid (show Bk (wr.alloc (.cells ln0.cs 82)) wr.heap.size ln0 from Bk.made wr ln0 rfl)
      have N2 := Lib.hid (N1.out.setRow GX.out.len)
      have B2 := Lib.hid (Below.setRow ((Below.refl wr.heap.size wr).alloc (Nat.le_refl _) (.cells ln0.cs 82)) (b := wr.heap.size) (Nat.le_refl _) x.cs)
      have V2 := Lib.hid (fun k hk => show k ≠ wr.heap.size from by have := HO.out.lt k hk; omega)
      go_upto_region 5 with (first | refine wpl_loadP rfl _ rfl _ rfl x LA.out ?_ | refine wpl_store rfl _ _ rfl _ _ rfl rfl _ N1.out GX.out.len ?_)
      generalize (wr.alloc (.cells ln0.cs 82)).setRow wr.heap.size x.cs = w1 at *
      have O2 := Lib.hid (HO.out.on B2.out)
      have B1 := Lib.hid (below_on HB.out B2.out)
      rw [← hq] at N2 V2 B2 ⊢
      have q1 : q < w1.heap.size := N2.out.lt
      have q0 : w.heap.size ≤ q := by rw [hq]; exact HB.out.size
      clear N1 B2 hq LA
      go_wp2_with (refine wpl_load rfl _ rfl _ rfl x N2.out ?_)
      refine (LO.out x _ GX.out).mono ?_
      rintro e w2 ⟨rfl, hb⟩
      have N3 := Lib.hid (N2.out.kept hb)
      have O3 := Lib.hid (O2.out.on hb)
      have B3 := Lib.hid (below_on B1.out hb)
      clear hb
      have N4 := Lib.hid (N3.out.setRow GL.out.len)
      have O4 := Lib.hid (O3.out.row V2.out x.low.cs)
      have B4 := Lib.hid (Below.setRow B3.out (b := q) q0 x.low.cs)
      go_upto_region 6 with (refine wpl_store rfl _ _ rfl _ _ rfl rfl _ N3.out GL.out.len ?_)
      generalize w2.setRow q x.low.cs = w4 at *
      clear N2 O2 B1 N3 O3 B3
      by_cases hza : x.low.a = z6
      · have D : decide (x.low.a = z6) = true := by simpa using hza
        have KS' := Lib.hid (show keepL (l.take (t + 1)) = keepL (l.take t) by rw [KS.out, if_pos hza, List.append_nil])
        rw [D, Bool.true_and] at BS BA
        clear KS hza
        go_wp2_with (first | refine wpl_loadA rfl _ rfl _ rfl x.low N4.out ?_ | (refine wpl_neqA rfl _ _ _ rfl _ z6 rfl rfl GL.out.len rfl ?_; rw [D]) | refine wpl_load rfl _ rfl _ rfl x.low N4.out ?_)
        refine (LM.out x.low _ GL.out).mono ?_
        rintro e w5 ⟨rfl, hb⟩
        have O5 := Lib.hid (O4.out.on hb)
        have B5 := Lib.hid (below_on B4.out hb)
        clear hb
        generalize x.low.lim = L at *
        by_cases hL : L ≤ 0
        · have DL : decide (L ≤ 0) = true := by simpa using hL
          have HE := Lib.hid (show tidyL l = [bad0] by unfold tidyL; rw [BA.out DL, if_pos rfl])
          have M6 := Lib.hid (show Bk (w5.alloc (.cells bad0.cs 82)) w5.heap.size bad0 from Bk.made w5 bad0 rfl)
          have B6 := Lib.hid (B5.out.alloc B5.out.size (.cells bad0.cs 82))
          clear hL
          go_wp2_with (refine wpl_bs1 rfl _ rfl bad0 rfl rfl ?_)
          go_ret
          refine ⟨some ⟨w5.heap.size, 0, none⟩, 1, by rw [HE.out]; rfl, ?_, B6.out⟩
          rw [HE.out]
          intro j hj
          have : j = 0 := by simpa using hj
          subst this
          exact ⟨_, rfl, by rw [addr_add]; exact M6.out.lnAt⟩
        · have DL : decide (L ≤ 0) = false := by simpa using hL
          rw [DL] at BS
          clear hL
          go_wp2_with fail
          go_roundw
          case rel => exact ⟨t + 1, by go_num, by omega, Lib.hid (by rw [KS'.out]; exact O5.out), B5, BS⟩
          case measure => simp [intOf]; omega
      · have D : decide (x.low.a = z6) = false := by simpa using hza
        have KS' := Lib.hid (show keepL (l.take (t + 1)) = keepL (l.take t) ++ [x.low] by rw [KS.out, if_neg hza])
        rw [D, Bool.false_and] at BS
        have LN := Lib.hid (show (keepL (l.take t)).length ≤ n by
          unfold keepL
          refine Nat.le_trans (List.length_filter_le _ _) ?_
          simp; omega)
        clear KS BA hza
        go_wp2_with (first | refine wpl_loadA rfl _ rfl _ rfl x.low N4.out ?_ | (refine wpl_neqA rfl _ _ _ rfl _ z6 rfl rfl GL.out.len rfl ?_; rw [D]) | refine wpl_load rfl _ rfl _ rfl x.low N4.out ?_ | refine wpl_bs1 rfl _ rfl x.low rfl GL.out.len ?_ | (at_builtin; refine wpList_append_own _ rfl _ _ 66 rfl w.heap.size 82 i0 (.agg ln0.cs) 8 64 Tryz.underlying66 hi hz0 hz1 hz2 (by rfl) (by decide) _ _ _ rfl (World.ownsRow.alloc O4.out.1 _) ⟨w4.heap.size, 0, none⟩ 1 1 x.low.cells rfl (by rw [Ln.cells_len GL.out.len]) (fun j u hu => (Bk.made w4 x.low GL.out.len).lnAt.2 j u hu) (cells_one _) (by have := LN.out; unfold maxLen; omega) (by have := LN.out; omega) (by have := B4.out.size; simp; omega) ?_))
        intro v' w5 hown hgrow _
        have B5 := Lib.hid (show Below w.heap.size w w5 from Below.grown (B4.out.alloc B4.out.size _) hgrow (by have := B4.out.size; simp; omega) (fun k hk => (World.ownsRow.lt O4.out.1 k hk).1))
        have O5 := Lib.hid (show OwnL w5 w.heap.size v' (keepL (l.take (t + 1))) from by
          rw [KS'.out]
          refine ⟨?_, fun y hy => ?_⟩
          · rw [List.flatMap_append, List.length_append]; simpa using hown
          · rcases List.mem_append.1 hy with h | h
            · exact O4.out.2 y h
            · simp only [List.mem_singleton] at h; rw [h]; exact GL.out.len)
        clear hown hgrow
        go_wp2_with fail
        go_roundw
        case rel => exact ⟨t + 1, by go_num, by omega, O5, B5, BS⟩
        case measure => simp [intOf]; omega
    · have e : l.take t = l := List.take_of_length_le (by have := HN.out; omega)
      rw [e] at HO HF
      have HE := Lib.hid (show tidyL l = cptL (srtL (keepL l)) by unfold tidyL; rw [HF.out]; rfl)
      have LK := Lib.hid (show (keepL l).length ≤ 100000 by
        unfold keepL
        refine Nat.le_trans (List.length_filter_le _ _) ?_
        have := HN.out; simp; omega)
      have GK : ∀ x ∈ keepL l, Rg 2147483647 x := fun x hx => by
        obtain ⟨y, hy, rfl⟩ := keepL_mem hx
        exact (HG.out y hy).low
      obtain ⟨d, hd⟩ : ∃ d : List FL, d = (keepL l).pmap Subtype.mk GK := ⟨_, rfl⟩
      have hv : d.map Subtype.val = keepL l := by rw [hd]; simp [List.map_pmap]
      have hdl : d.length = (keepL l).length := by rw [← hv]; simp
      have HV := Lib.hid (show (srtF d).map Subtype.val = srtL (keepL l) by rw [srtF_val, hv])
      have LS := Lib.hid (show (srtL (keepL l)).length = (keepL l).length from List.length_mergeSort _)
      have h6 := Lib.hid (show ∀ x ∈ srtL (keepL l), x.a.length = 6 from fun x hx => (GK x (srtL_mem.1 hx)).len)
      rcases hO : HO.out.1.2 with ⟨rfl, hn0⟩ | ⟨g, cp, cur, rfl, hgb, hgh, hgc, hgm, _, _⟩
      · have hk : keepL l = [] := List.eq_nil_of_length_eq_zero hn0
        have HE' := Lib.hid (show tidyL l = [] by rw [HE.out, hk]; unfold cptL srtL; simp [cptN])
        have SN := Lib.hid (fun W => show Calls Tryz.prog 124 #[.slice none 0 0, .func (.func 125) #[] #[]] W (fun e w' => e = .returned (.tuple #[]) ∧ w' = W) from AnyF.slices_SortFunc_none { Tryz.laysSort with } none 0 _ W)
        have CN := Lib.hid (fun W => compact_nil W)
        clear hO hn0 hk
        go_wp2_with fail
        refine (SN.out _).mono ?_
        rintro e1 w1 ⟨rfl, rfl⟩
        go_wp2_with fail
        refine (CN.out _).mono ?_
        rintro e2 w2 ⟨rfl, rfl⟩
        go_wp2_with fail
        go_ret
        exact ⟨none, 0, by rw [HE'.out]; rfl, by rw [HE'.out]; exact RdL.nil _ _, HB.out⟩
      · have hlt : g < wr.heap.size := by
          by_cases q : g < wr.heap.size
          · exact q
          · rw [Array.getElem?_eq_none (by omega)] at hgh; cases hgh
        have SA := Lib.hid (show Calls Tryz.prog 124 #[.slice (some ⟨g, 0, none⟩) (keepL l).length cp, .func (.func 125) #[] #[]] wr (fun e w' => e = .returned (.tuple #[]) ∧ Rw w' g (srtL (keepL l)) ∧ Below g wr w') from by
          have := sort_any d g cp wr (by rw [hdl]; exact Nat.le_trans LK.out (by omega)) hlt (by rw [hv]; exact HO.out.rw')
          rw [hdl, HV.out] at this
          exact this)
        have CA := Lib.hid (fun W (hr : Rw W g (srtL (keepL l))) (hb : g < W.heap.size) => compact_any (srtL (keepL l)) g cp W (by rw [LS.out]; exact LK.out) (by rw [LS.out]; exact hgc) (by unfold maxLen at hgm; omega) hr hb h6.out)
        rw [LS.out] at CA
        have HE' := Lib.hid (show tidyL l = cptN (srtL (keepL l)) (keepL l).length by rw [HE.out]; unfold cptL; rw [LS.out])
        have HB' := Lib.hid HB.out
        have HG' := Lib.hid hgb
        have HL' := Lib.hid hlt
        clear hO hgh hgc hgm hgb hlt hv hdl hd HV GK LK
        generalize cptN (srtL (keepL l)) (keepL l).length = R at *
        generalize (keepL l).length = m at *
        go_wp2_with fail
        refine SA.out.mono ?_
        rintro e1 w1 ⟨rfl, hr1, hb1⟩
        have R1 := Lib.hid hr1
        have B1 := Lib.hid hb1
        clear hr1 hb1
        go_wp2_with fail
        refine (CA.out w1 R1.out (Nat.lt_of_lt_of_le HL'.out B1.out.size)).mono ?_
        rintro e2 w2 ⟨rfl, hr2, hb2⟩
        have R2 := Lib.hid hr2
        have B2 := Lib.hid hb2
        clear hr2 hb2
        go_wp2_with fail
        go_ret
        refine ⟨_, _, by rw [HE'.out]; rfl, by rw [HE'.out]; exact R2.out.rd, ?_⟩
        have k1 := B1.out
        have k2 := B2.out
        exact ⟨k2.os.trans (k1.os.trans HB'.out.os), k2.tape.trans (k1.tape.trans HB'.out.tape), k2.output.trans (k1.output.trans HB'.out.output), Nat.le_trans HB'.out.size (Nat.le_trans k1.size k2.size), fun i hi => (k2.block i (by have := HG'.out; omega)).trans ((k1.block i (by have := HG'.out; omega)).trans (HB'.out.block i hi))⟩
end Go.Proofs.YtbhaoaobhgilkaaGreat
