/- A part. -/
import Derived.RangeFuncNested
import Derived.RangeFuncCalls
import Derived.RangeFuncLeaves
import Derived.RangeFuncBound
import Derived.Shelf.Abstract
import Derived.Shelf.RegionOpen
import Derived.OwnWalkIn
import Derived.TacticsInMore
import Derived.LoopNIn
import Derived.LoopIn
import Derived.Test.YthjapmdfcbngmaaGreatProg
namespace Go.Proofs.YthjapmdfcbngmaaGreat
open Go.RowKit
variable {F : Fence} {n : Nat} {P : Program}
def WpAt (f : FuncId) (F : Fence) (n : Nat) (P : Program) (c : Code) (Q : Exit → Act → World → Prop) (a : Act) (w : World) : Prop :=
 ∀ (b : Frame) (k : List Item) (cs : List Frame), b.fn = f → b.roundOf = F.round → F.fn f → F.room (cs.length + 1 + n) →
  ∃ e a' w', Q e a' w' ∧ ArrivesIn (Machine.fenced P F) P (lone (b.atR a (.code c :: k)) cs w) b k cs e a' w'
theorem wpAt_of_wpIn {f : FuncId} {c : Code} {Q : Exit → Act → World → Prop} {a : Act} {w : World} (h : c.wpIn F n P Q a w) : WpAt f F n P c Q a w :=
 fun b k cs hf hro hb hr => h b k cs hro (hf ▸ hb) hr
theorem wpAt_seq {f : FuncId} {x y : Code} {Q : Exit → Act → World → Prop} {a : Act} {w : World} (h : WpAt f F n P x (Exit.then (fun a w => WpAt f F n P y Q a w) Q) a w) : WpAt f F n P (.seq x y) Q a w := by
 intro b k cs hf hro hb hr
 have s0 : StepsIn (Machine.fenced P F) P (lone (b.atR a (.code (.seq x y) :: k)) cs w) (lone (b.atR a (.code x :: .code y :: k)) cs w) := .one (fenced_calm (by show F.fn b.fn; rw [hf]; exact hb) hr rfl) stepR_seq
 obtain ⟨e, a₁, w₁, hq, harr⟩ := h b (.code y :: k) cs hf hro hb hr
 cases e
 case normal =>
  obtain ⟨e₂, a₂, w₂, hq₂, harr₂⟩ := hq b k cs hf hro hb hr
  exact ⟨e₂, a₂, w₂, hq₂, .of_steps (StepsIn.trans s0 harr) harr₂⟩
 all_goals exact ⟨_, a₁, w₁, hq, .of_steps s0 (.pass (x := .code y) rfl (fun _ _ => .inl (by simp)) harr)⟩
theorem callsIn_of_wpAt {f : FuncId} {fn : Func} {c : Code} {args : Array Value} {w : World} {R : Ending → World → Prop} (hf : P.funcs[f]? = some fn) (hb : fn.body = some c) (hF : F.fn f) (hro : F.round = none)
  (h : WpAt f F n P c (bodyPostM F n P fn R) { tmps := args ++ Array.replicate (fn.ntmps - args.size) undef, defers := [] } w) : CallsIn F n P f args w R := by
 refine ⟨hF, fun cs hr => ?_⟩
 obtain ⟨b, hb1, hb2, hb3⟩ : ∃ b : Frame, b.fn = f ∧ b.roundOf = none ∧ b.kind = .normal := ⟨{ (default : Frame) with fn := f, kind := .normal, roundOf := none }, rfl, rfl, rfl⟩
 have hen : Frame.enter P f args .normal = b.atR { tmps := args ++ Array.replicate (fn.ntmps - args.size) undef, defers := [] } [.code c] := by
  simp [Frame.enter, Frame.atR, hf, hb, hb1, hb2, hb3]
 have hFb : F.fn b.fn := by rw [hb1]; exact hF
 obtain ⟨e, a', w', hq, harr⟩ := h b [] cs hb1 (hb2.trans hro.symm) hF hr
 rw [← hen] at harr
 have out : ∀ (u : FrameMode) (todo : List Item), StepsIn (Machine.fenced P F) P (lone (Frame.enter P f args .normal) cs w) (lone { b.atR a' todo with mode := u } cs w') → LeavesInM F n P fn a'.tmps R a'.defers u w' →
   ∃ e w' fr, R e w' ∧ ComesIn (Machine.fenced P F) P (lone (Frame.enter P f args .normal) cs w) (lone fr cs w') e ∧ fr.fn = f ∧ fr.leaving P w' e := by
  intro u todo hs hl
  obtain ⟨e', w'', fr', r1, r2, r3, r4⟩ := leaves_stepsInM a'.defers u w' { b.atR a' todo with mode := u } cs rfl rfl rfl (by show P.funcs[b.fn]? = _; rw [hb1]; exact hf) hb3 hFb hr hl
  exact ⟨e', w'', fr', r1, ComesIn.of_steps hs r2, r3.trans hb1, r4⟩
 cases e with
 | normal => exact out .returning [] (StepsIn.trans harr (.one (fenced_calm (fr := b.atR a' []) hFb hr rfl) (stepR_end hb2))) hq
 | ret =>
  obtain ⟨todo, hs⟩ := harr.1 hb2
  exact out .returning todo hs hq
 | panic chain =>
  obtain ⟨todo, hs⟩ := harr
  exact out (.panicking chain) todo hs hq
 | exit id => exact hq.elim
 | goto l => exact hq.elim
 | outgrown => exact ⟨.outgrown, w', b, hq, harr.resolve_left (by simp [hb3]), hb1, trivial⟩
def roundP (P : Program) (l : Nat) (R : Ending → World → Prop) : Exit → Act → World → Prop
 | .normal, _, w => ∃ v w', (Instr.endRound l none).run P w = .ok v w' ∧ R (.returned v) w'
 | .panic chain, a, w => a.defers = [] ∧ R (.panicked chain) w
 | _, _, _ => False
theorem round_of {l : Nat} {f : FuncId} {fn : Func} {tmps : Array Value} {assign body : Code} {w : World} {R : Ending → World → Prop} (hf : P.funcs[f]? = some fn) (hF : F.fn f)
  (h : assign.wpIn (F.inRound l) n P (Exit.then (fun a₁ w₁ => ∃ w₂, (Instr.beginRound l).run P w₁ = .ok () w₂ ∧ body.wpIn (F.inRound l) n P (roundP P l R) a₁ w₂) (fun _ _ _ => False)) { tmps := tmps, defers := [] } w) :
  RoundIn F n P l f tmps assign body w R := by
 refine ⟨hF, fun c cs hr => ?_⟩
 obtain ⟨b, hb1, hb2, hb3⟩ : ∃ b : Frame, b.fn = f ∧ b.roundOf = some l ∧ b.kind = .normal := ⟨{ (default : Frame) with fn := f, kind := .normal, roundOf := some l }, rfl, rfl, rfl⟩
 have hFb : (F.inRound l).fn b.fn := by rw [hb1]; exact hF
 have hr' : (F.inRound l).room ((c :: cs).length + 1 + n) := hr
 have st : Frame.round l f tmps assign body .normal = b.atR { tmps := tmps, defers := [] } [.code assign, .beginRound, .code body] := by simp [Frame.round, Frame.atR, hb1, hb2, hb3]
 obtain ⟨e, a₁, w₁, hq, harr⟩ := h b [.beginRound, .code body] (c :: cs) hb2 hFb hr'
 rw [← st] at harr
 cases e
 case normal =>
  obtain ⟨w₂, hbr, hbody⟩ := hq
  have s1 : StepsIn (Machine.fenced P (F.inRound l)) P (lone (Frame.round l f tmps assign body .normal) (c :: cs) w) (lone (b.atR a₁ [.code body]) (c :: cs) w₂) :=
   StepsIn.trans harr (.one (fenced_calm (fr := b.atR a₁ [.beginRound, .code body]) hFb hr' rfl) (stepR_beginRound hb2 hbr))
  obtain ⟨e₂, a₂, w₃, hq₂, harr₂⟩ := hbody b [] (c :: cs) hb2 hFb hr'
  cases e₂
  case normal =>
   obtain ⟨v, w₄, hend, hR⟩ := hq₂
   exact ⟨.returned v, w₄, hR, StepsIn.trans s1 (StepsIn.trans harr₂ (.one (fenced_calm (fr := b.atR a₂ []) hFb hr' rfl) (stepR_round_end hb2 hb3 hend)))⟩
  case panic chain =>
   obtain ⟨hd, hR⟩ := hq₂
   obtain ⟨todo, hs⟩ := harr₂
   have hl : ({ b.atR a₂ todo with mode := .panicking chain } : Frame).leaving P w₃ (.panicked chain) := ⟨rfl, hd, fn, by show P.funcs[b.fn]? = _; rw [hb1]; exact hf⟩
   exact ⟨.panicked chain, w₃, hR, StepsIn.trans s1 (StepsIn.trans hs (.one (fenced_leaving (F := F.inRound l) (n := n) (fr := { b.atR a₂ todo with mode := .panicking chain }) hFb hr' hl) (step_leave_panicked hl)))⟩
  all_goals exact hq₂.elim
 all_goals exact hq.elim
structure Kept (S : Nat → Prop) (A B : World) : Prop where
 os : B.os = A.os
 tape : B.tape = A.tape
 output : B.output = A.output
 size : A.heap.size ≤ B.heap.size
 block : ∀ k, k < A.heap.size → S k → B.heap[k]? = A.heap[k]?
theorem Kept.refl (S : Nat → Prop) (A : World) : Kept S A A := ⟨rfl, rfl, rfl, Nat.le_refl _, fun _ _ _ => rfl⟩
theorem Kept.trans {S : Nat → Prop} {A B C : World} (h : Kept S A B) (k : Kept S B C) : Kept S A C :=
 ⟨k.os.trans h.os, k.tape.trans h.tape, k.output.trans h.output, Nat.le_trans h.size k.size, fun i hi hs => (k.block i (Nat.lt_of_lt_of_le hi h.size) hs).trans (h.block i hi hs)⟩
theorem Kept.mono {S S' : Nat → Prop} {A B : World} (h : Kept S A B) (hs : ∀ k, k < A.heap.size → S' k → S k) : Kept S' A B :=
 ⟨h.os, h.tape, h.output, h.size, fun k hk q => h.block k hk (hs k hk q)⟩
theorem Kept.below {S : Nat → Prop} {A B : World} (h : Kept S A B) (n₀ : Nat) (hn : n₀ ≤ A.heap.size) (hs : ∀ k, k < n₀ → S k) : Below n₀ A B :=
 ⟨h.os, h.tape, h.output, h.size, fun k hk => h.block k (by omega) (hs k hk)⟩
theorem Kept.of_below {A B : World} (h : Below A.heap.size A B) (S : Nat → Prop) : Kept S A B := ⟨h.os, h.tape, h.output, h.size, fun k hk _ => h.block k hk⟩
theorem Kept.putObj {S : Nat → Prop} (A : World) {l : Nat} (o : Obj) (h : ¬ S l) : Kept S A (A.putObj l o) := by
 have g := grownBy_putObj' A l o
 exact ⟨g.os, g.tape, g.output, g.size, fun k hk hs => g.block k hk (fun e => by cases e; exact h hs)⟩
theorem wpAt_range {f : FuncId} {g : Operand} {ps : Array Tmp} {assign body : Code} {Q : Exit → Act → World → Prop} {a : Act} {w : World} {gf : Nat} {lb : Array Value} (hg : a.eval g = .func (.func gf) #[] lb)
  (eg : ∀ args w, (callFunc gf args).run P w = .ok (.enter gf args) w) {l : Nat} {mark : List Deferred} {w₁ : World} (he : (Instr.enterLoop f a.tmps ps assign body none).run P w = .ok (l, mark) w₁)
  (h : CallsIn Fence.wide 9 P gf (#[.func (.yield l) #[] #[]] ++ lb) w₁ fun e w₃ => match e with
   | .returned _ => ∃ w₄, (Instr.endLoop l).run P w₃ = .ok none w₄ ∧ Q .normal { a with defers := mark ++ a.defers } w₄
   | .panicked chain => Q (.panic chain) { a with defers := mark ++ a.defers } w₃
   | .outgrown => False) :
  WpAt f Fence.wide 10 P (.rangeFunc g ps assign body) Q a w := by
 intro b k cs hf hro hb hr
 have hro' : b.roundOf = none := hro
 rw [← hf, ← hro'] at he
 have hres : (resolve a.eval (rangeCall g l) 0).run P w₁ = .ok { target := .fn (.func gf) lb, args := #[.func (.yield l) #[] #[]] } w₁ := by
  simp only [resolve, hg]
  simp [go_sem]
 have hinv : (invoke (.fn (.func gf) lb) #[.func (.yield l) #[] #[]]).run P w₁ = .ok (.enter gf (#[.func (.yield l) #[] #[]] ++ lb)) w₁ := by simp [invoke, go_sem, eg]
 have s1 := stepR_rangeFunc (P := P) (b := b) (a := a) (k := k) (cs := cs) (w := w) he hres hinv
 have S1 : StepsIn (Machine.fenced P Fence.wide) P (lone (b.atR a (.code (.rangeFunc g ps assign body) :: k)) cs w) _ := .one (fenced_wide P _) s1
 obtain ⟨e, w₃, fr, hR, hs, _, hlv⟩ := h.2 (b.atR { a with defers := mark ++ a.defers } (.inRangeFunc l :: k) :: cs) (fun d hd => by cases hd)
 cases e with
 | returned v =>
  obtain ⟨w₄, hend, hq⟩ := hR
  refine ⟨.normal, _, w₄, hq, StepsIn.trans S1 (StepsIn.trans hs (.head (fenced_wide P _) (step_leave_returned hlv) ?_))⟩
  rw [finish_atR_inRangeFunc]
  exact .one (fenced_wide P _) (stepR_endRangeFunc hend)
 | panicked chain =>
  refine ⟨.panic chain, _, w₃, hR, .inRangeFunc l :: k, StepsIn.trans S1 (StepsIn.trans hs (.one (fenced_wide P _) ?_))⟩
  rw [← Frame.raise_atR]
  exact step_leave_panicked hlv
 | outgrown => exact hR.elim
variable {F : Fence} {n : Nat} {P : Program}
theorem wpAt_loop {f : FuncId} {c : Code} {Q : Exit → Act → World → Prop} {a : Act} {w : World} (I : Act → World → Prop) (μ : Act → World → Nat) (h₀ : I a w)
  (round : ∀ a w, I a w → WpAt f F n P c (Exit.then (fun a' w' => I a' w' ∧ μ a' w' < μ a w) Q) a w) : WpAt f F n P (.loop c) Q a w := by
 intro b k cs hf hro hb hr
 have hb' : F.fn b.fn := by rw [hf]; exact hb
 have key : ∀ j a w, μ a w = j → I a w →
   ∃ e a' w', Q e a' w' ∧ ArrivesIn (Machine.fenced P F) P (lone (b.atR a (.code c :: .inLoop c :: k)) cs w) b k cs e a' w' := by
  intro j
  induction j using Nat.strongRecOn with
  | _ j ih =>
   intro a w hn hI
   obtain ⟨e, a₁, w₁, hq, harr⟩ := round a w hI b (.inLoop c :: k) cs hf hro hb hr
   cases e with
   | normal =>
    obtain ⟨hI₁, hlt⟩ := hq
    obtain ⟨e₂, a₂, w₂, hq₂, harr₂⟩ := ih (μ a₁ w₁) (hn ▸ hlt) a₁ w₁ rfl hI₁
    exact ⟨e₂, a₂, w₂, hq₂, .of_steps (StepsIn.trans harr (.one (fenced_calm hb' hr rfl) stepR_inLoop)) harr₂⟩
   | exit id => exact ⟨_, a₁, w₁, hq, .pass (x := .inLoop c) rfl (fun _ _ => .inl (by simp)) harr⟩
   | goto l => exact ⟨_, a₁, w₁, hq, .pass (x := .inLoop c) rfl (fun _ _ => .inl (by simp)) harr⟩
   | ret => exact ⟨_, a₁, w₁, hq, .pass (x := .inLoop c) rfl (fun _ _ => .inl (by simp)) harr⟩
   | panic ch => exact ⟨_, a₁, w₁, hq, .pass (x := .inLoop c) rfl (fun _ _ => .inl (by simp)) harr⟩
   | outgrown => exact ⟨_, a₁, w₁, hq, .pass (x := .inLoop c) rfl (fun _ _ => .inl (by simp)) harr⟩
 obtain ⟨e, a', w', hq, harr⟩ := key _ a w rfl h₀
 exact ⟨e, a', w', hq, .of_steps (.one (fenced_calm hb' hr rfl) stepR_loop) harr⟩
def SeqG {α : Type} (P : Program) (gf : Nat) (lb : Array Value) (V : α → Array Value → World → Prop) (gift : Array Value → Nat → Prop) (n₀ : Nat) (xs : List α) (er : Option (List PanicEntry)) (W : World) (T0 : Nat → Prop) : Prop :=
 ∀ (l : Nat) (J : List α → (Nat → Prop) → World → Prop) (Jp : List PanicEntry → World → Prop),
  (∀ pre T A B, J pre T A → Kept (fun k => k < W.heap.size ∨ T k) A B → J pre T B) →
  (∀ pre T A, J pre T A → ∀ k, T k → k < A.heap.size) →
  (∀ chain A B, Jp chain A → Kept (fun k => k < W.heap.size) A B → Jp chain B) →
  (∀ pre x T A args, J pre T A → (pre ++ [x]) <+: xs → V x args A → (∀ k, gift args k → k < A.heap.size ∧ ¬ T k ∧ (k < n₀ ∨ W.heap.size ≤ k)) → YieldAt Fence.wide 8 P l args A fun e B =>
   (e = .returned (.bool true) ∧ ∃ T', J (pre ++ [x]) T' B ∧ Kept (fun k => ¬ T k) A B ∧ ∀ k, T' k → T k ∨ A.heap.size ≤ k ∨ (gift args k ∧ W.heap.size ≤ k)) ∨ (∃ chain, e = .panicked chain ∧ Jp chain B ∧ Kept (fun k => ¬ T k) A B)) →
  J [] T0 W →
  CallsIn Fence.wide 9 P gf (#[.func (.yield l) #[] #[]] ++ lb) W fun e B =>
   (e = .returned (.tuple #[]) ∧ er = none ∧ ∃ T, J xs T B) ∨ (∃ chain, e = .panicked chain ∧ (Jp chain B ∨ (er = some chain ∧ ∃ T, J xs T B)))
theorem wpAt_rangeG {α : Type} {f : FuncId} {fn : Func} (hf : P.funcs[f]? = some fn) {g : Operand} {ps : Array Tmp} {assign body : Code} {Q : Exit → Act → World → Prop} {a : Act} {w : World} {gf : Nat} {lb : Array Value} (hg : a.eval g = .func (.func gf) #[] lb)
  (eg : ∀ args w, (callFunc gf args).run P w = .ok (.enter gf args) w) {V : α → Array Value → World → Prop} {gift : Array Value → Nat → Prop} {n₀ : Nat} {xs : List α} {er : Option (List PanicEntry)} (hps : ∀ x args A, V x args A → args.size = ps.size)
  (I : List α → (Nat → Prop) → World → Prop) (Ip : List PanicEntry → World → Prop) (Ax : List α → α → Array Value → (Nat → Prop) → Act → World → Prop) (T0 : Nat → Prop)
  (hst : ∀ pre T A B, I pre T A → Kept (fun k => k < w.heap.size ∨ T k) A B → I pre T B)
  (hsA : ∀ pre x args T a' A B, Ax pre x args T a' A → Kept (fun k => k < w.heap.size ∨ T k ∨ (gift args k ∧ k ≠ w.heap.size + 1)) A B → Ax pre x args T a' B)
  (hT : ∀ pre T A, I pre T A → ∀ k, T k → k < A.heap.size) (hIp : ∀ chain A B, Ip chain A → Kept (fun k => k < w.heap.size) A B → Ip chain B) (h0 : I [] T0 w)
  (hseq : ∀ W, Kept (fun _ => True) w W → W.heap.size = w.heap.size + 2 → SeqG P gf lb V gift n₀ xs er W (fun k => T0 k ∨ k = w.heap.size + 1))
  (hassign : ∀ l pre x args T A (K : Act → World → Prop), I pre T A → w.heap.size + 2 ≤ A.heap.size → (pre ++ [x]) <+: xs → V x args A → (∀ k, gift args k → k < A.heap.size ∧ ¬ T k ∧ k ≠ w.heap.size + 1 ∧ (k < n₀ ∨ w.heap.size + 2 ≤ k)) → (∀ a' B T', Ax pre x args T' a' B → Kept (fun _ => True) A B → (∀ k, T' k → T k ∨ A.heap.size ≤ k) → K a' B) →
   assign.wpIn (Fence.wide.inRound l) 8 P (Exit.then K (fun _ _ _ => False)) { tmps := (ps.zip args).foldl (fun t (p, v) => t.setIfInBounds p v) a.tmps, defers := [] } A)
  (hbody : ∀ l pre x args T a' A, Ax pre x args T a' A → (pre ++ [x]) <+: xs → body.wpIn (Fence.wide.inRound l) 8 P (fun e a'' B => match e with
    | .normal => ∃ T', I (pre ++ [x]) T' B ∧ Kept (fun k => ¬ T k) A B ∧ ∀ k, T' k → T k ∨ A.heap.size ≤ k ∨ (gift args k ∧ w.heap.size + 2 ≤ k)
    | .panic chain => a''.defers = [] ∧ Ip chain B ∧ Kept (fun k => ¬ T k) A B
    | _ => False) a' A)
  (hdone : ∀ T B, er = none → I xs T B → B.heap[w.heap.size]? = some (.deferred (some [])) → Q .normal { a with defers := { target := .collected w.heap.size, args := #[] } :: a.defers } B)
  (hpan : ∀ chain B, Ip chain B → B.heap[w.heap.size]? = some (.deferred (some [])) → Q (.panic chain) { a with defers := { target := .collected w.heap.size, args := #[] } :: a.defers } B)
  (hown : ∀ chain T B, er = some chain → I xs T B → B.heap[w.heap.size]? = some (.deferred (some [])) → Q (.panic chain) { a with defers := { target := .collected w.heap.size, args := #[] } :: a.defers } B) :
  WpAt f Fence.wide 10 P (.rangeFunc g ps assign body) Q a w := by
 obtain ⟨rec, hrec⟩ : ∃ rec : LoopState → Option Code → Loop, rec = fun st pe => { state := st, pending := pe, fn := f, tmps := a.tmps, params := ps, assign := assign, body := body, defers := w.heap.size } := ⟨_, rfl⟩
 obtain ⟨W, hW⟩ : ∃ W, W = (w.alloc (.deferred (some []))).alloc (.loop (rec .ready none)) := ⟨_, rfl⟩
 have zW : W.heap.size = w.heap.size + 2 := by rw [hW]; simp
 have eL : W.heap[w.heap.size + 1]? = some (.loop (rec .ready none)) := by
  rw [hW]; have := World.alloc_heap_new (w.alloc (.deferred (some []))) (.loop (rec .ready none)); rwa [World.size_alloc] at this
 have eD : W.heap[w.heap.size]? = some (.deferred (some [])) := by
  rw [hW]; exact (Below.heap_alloc _ _ _ (by simp)).trans (World.alloc_heap_new w _)
 have kW : Kept (fun _ => True) w W := by
  rw [hW]; exact Kept.of_below (((Below.refl _ w).alloc (Nat.le_refl _) _).alloc (by simp) _) _
 have hen : (Instr.enterLoop f a.tmps ps assign body none).run P w = .ok (w.heap.size + 1, [{ target := .collected w.heap.size, args := #[] }]) W := by
  rw [hW, hrec]; exact run_enterLoop_outer _ _ _ _ _
 let J : List α → (Nat → Prop) → World → Prop := fun pre T A => ∃ T1, I pre T1 A ∧ (∀ k, T1 k → T k) ∧ (∀ k, T k → k < A.heap.size) ∧ T (w.heap.size + 1) ∧ ¬ T1 (w.heap.size + 1) ∧ ¬ T w.heap.size ∧ A.heap[w.heap.size + 1]? = some (.loop (rec .ready none)) ∧ A.heap[w.heap.size]? = some (.deferred (some []))
 let Jp : List PanicEntry → World → Prop := fun chain A => Ip chain A ∧ A.heap[w.heap.size]? = some (.deferred (some []))
 have lt0 := hT _ _ _ h0
 refine wpAt_range hg eg hen (CallsIn.mono (hseq W kW zW (w.heap.size + 1) J Jp ?_ (fun pre T A h => h.choose_spec.2.2.1) (fun chain A B h k => ⟨hIp chain A B h.1 (k.mono fun j _ q => by omega), (k.block _ (by have := h.2; by_cases e : w.heap.size < A.heap.size; exact e; rw [Array.getElem?_eq_none (by omega)] at this; cases this) (by omega)).trans h.2⟩) ?_ ?_) ?_)
 · rintro pre T A B ⟨T1, i1, i2, i3, i4, i5, i6, i7, i8⟩ hk
   have lA : w.heap.size + 1 < A.heap.size := i3 _ i4
   exact ⟨T1, hst _ _ _ _ i1 (hk.mono fun k _ q => q.elim (fun q => Or.inl (by omega)) (fun q => Or.inr (i2 k q))), i2, fun k q => Nat.lt_of_lt_of_le (i3 k q) hk.size, i4, i5, i6,
    (hk.block _ lA (Or.inr i4)).trans i7, (hk.block _ (by omega) (Or.inl (by omega))).trans i8⟩
 · rintro pre x T A args ⟨T1, i1, i2, i3, i4, i5, i6, i7, i8⟩ hpx hV hG
   have lA : w.heap.size + 1 < A.heap.size := i3 _ i4
   have hy := run_yield (P := P) (args := args) i7 (by rw [hrec]; exact hps x args A hV)
   rw [hrec] at hy
   have gne : ∀ k, gift args k → k ≠ w.heap.size + 1 := fun k q e => (hG k q).2.1 (e ▸ i4)
   refine ⟨f, _, assign, body, hy, round_of hf trivial (hassign _ pre x args T1 A _ i1 (by omega) hpx hV (fun k q => ⟨(hG k q).1, fun q' => (hG k q).2.1 (i2 k q'), gne k q, by have := (hG k q).2.2; omega⟩) ?_)⟩
   clear hy
   intro a' B T2 hax hkB hT2
   have lB : w.heap.size + 1 < B.heap.size := Nat.lt_of_lt_of_le lA hkB.size
   have j7 := (hkB.block _ lA trivial).trans i7
   have j8 := (hkB.block _ (by omega) trivial).trans i8
   have n2 : ¬ T2 (w.heap.size + 1) := fun q => (hT2 _ q).elim i5 (by omega)
   have n3 : ¬ T2 w.heap.size := fun q => (hT2 _ q).elim (fun q => i6 (i2 _ q)) (by omega)
   refine ⟨_, run_beginRound j7 (by rw [hrec]), ?_⟩
   obtain ⟨C, hC⟩ : ∃ C, C = B.putObj (w.heap.size + 1) (.loop { rec .ready none with state := .busy }) := ⟨_, rfl⟩
   rw [← hC]
   have kC : Kept (fun k => k < w.heap.size ∨ T2 k ∨ (gift args k ∧ k ≠ w.heap.size + 1)) B C := by
    rw [hC]; exact Kept.putObj B _ (fun q => q.elim (by omega) (fun q => q.elim n2 (fun q => q.2 rfl)))
   have zC : C.heap.size = B.heap.size := by rw [hC]; simp
   have c7 : C.heap[w.heap.size + 1]? = some (.loop { rec .ready none with state := .busy }) := by rw [hC]; exact World.putObj_heap_same lB
   have c8 : C.heap[w.heap.size]? = some (.deferred (some [])) := by rw [hC]; exact (World.putObj_heap_other (by omega)).trans j8
   have kBC : Kept (fun k => ¬ T k) B C := by rw [hC]; exact Kept.putObj B _ (fun q => q i4)
   refine wpIn_mono (hbody _ pre x args T2 a' C (hsA _ _ _ _ _ _ _ hax kC) hpx) ?_
   rintro e a3 E hp
   cases e with
   | normal =>
    obtain ⟨T3, t1, t2, t3⟩ := hp
    have e7 := (t2.block _ (by omega) n2).trans c7
    have e8 := (t2.block _ (by omega) n3).trans c8
    have lE : w.heap.size + 1 < E.heap.size := by have := t2.size; omega
    have hend := run_endRound (P := P) none e7
    have m3 : ¬ T3 (w.heap.size + 1) := fun q => by
     rcases t3 _ q with q | q | q
     · exact n2 q
     · omega
     · exact gne _ q.1 rfl
    have m4 : ¬ T3 w.heap.size := fun q => by
     rcases t3 _ q with q | q | q
     · exact n3 q
     · omega
     · omega
    have lt3 := hT _ _ _ t1
    refine ⟨_, _, hend, Or.inl ⟨rfl, fun k => T3 k ∨ T k, ⟨T3, ?_, fun k q => Or.inl q, ?_, Or.inr i4, m3, fun q => q.elim m4 i6, ?_, (World.putObj_heap_other (by omega)).trans e8⟩, ?_, ?_⟩⟩
    · exact hst _ _ _ _ t1 (Kept.putObj E _ (fun q => q.elim (by omega) m3))
    · rintro k (q | q)
      · have := lt3 k q; simpa using this
      · have := i3 k q; have := hkB.size; have := t2.size; simp; omega
    · rw [World.putObj_heap_same lE]; rw [hrec]; rfl
    · have k1 : Kept (fun k => ¬ T k) A B := hkB.mono fun _ _ _ => trivial
      have k2 : Kept (fun k => ¬ T k) E (E.putObj (w.heap.size + 1) (.loop { rec .ready none with state := if (none : Option Code).isNone then .ready else .done, pending := none })) := Kept.putObj E _ (fun q => q i4)
      have k3 : Kept (fun k => ¬ T k ∧ k < A.heap.size) C E := t2.mono fun k _ q => fun q' => (hT2 k q').elim (fun r => q.1 (i2 k r)) (by omega)
      refine ⟨k2.os.trans (k3.os.trans (kBC.os.trans k1.os)), k2.tape.trans (k3.tape.trans (kBC.tape.trans k1.tape)), k2.output.trans (k3.output.trans (kBC.output.trans k1.output)), Nat.le_trans k1.size (Nat.le_trans kBC.size (Nat.le_trans k3.size k2.size)), fun k hk hn => ?_⟩
      have a1 := k1.block k hk hn
      have a2 := kBC.block k (Nat.lt_of_lt_of_le hk k1.size) hn
      have a3 := k3.block k (Nat.lt_of_lt_of_le (Nat.lt_of_lt_of_le hk k1.size) kBC.size) ⟨hn, hk⟩
      have a4 := k2.block k (Nat.lt_of_lt_of_le (Nat.lt_of_lt_of_le (Nat.lt_of_lt_of_le hk k1.size) kBC.size) k3.size) hn
      exact a4.trans (a3.trans (a2.trans a1))
    · rintro k (q | q)
      · rcases t3 k q with r | r | r
        · exact (hT2 k r).elim (fun r => Or.inl (i2 k r)) (fun r => Or.inr (Or.inl r))
        · have := hkB.size; right; left; omega
        · right; right; exact ⟨r.1, by omega⟩
      · exact Or.inl q
   | panic chain =>
    obtain ⟨hd, t1, t2⟩ := hp
    exact ⟨hd, Or.inr ⟨chain, rfl, ⟨t1, (t2.block _ (by omega) n3).trans c8⟩, ⟨t2.os.trans (kBC.os.trans hkB.os), t2.tape.trans (kBC.tape.trans hkB.tape), t2.output.trans (kBC.output.trans hkB.output), Nat.le_trans hkB.size (Nat.le_trans kBC.size t2.size), fun k hk hn => (t2.block k (by have := hkB.size; have := kBC.size; omega) (fun q' => (hT2 k q').elim (fun r => hn (i2 k r)) (by omega))).trans ((kBC.block k (by have := hkB.size; omega) hn).trans (hkB.block k hk trivial))⟩⟩⟩
   | ret => exact hp.elim
   | exit id => exact hp.elim
   | goto t => exact hp.elim
   | outgrown => exact hp.elim
 · refine ⟨T0, hst _ _ _ _ h0 (kW.mono fun _ _ _ => trivial), fun k q => Or.inl q, ?_, Or.inr rfl, fun q => ?_, ?_, eL, eD⟩
   · rintro k (q | q)
     · have := lt0 k q; omega
     · omega
   · have := lt0 _ q; omega
   · rintro (q | q)
     · have := lt0 _ q; omega
     · omega
 · rintro e B (⟨rfl, her, T, T1, i1, _, i3, i4, i5, i6, i7, i8⟩ | ⟨chain, rfl, (⟨p1, p2⟩ | ⟨her, T, T1, i1, _, _, _, _, _, i7, i8⟩)⟩)
   · have lB : w.heap.size + 1 < B.heap.size := i3 _ i4
     have hend := run_endLoop (P := P) i7 (by rw [hrec]; simp)
     rw [show (rec .ready none).pending = none by rw [hrec]] at hend
     refine ⟨_, hend, hdone T1 _ her (hst _ _ _ _ i1 (Kept.putObj B _ (fun q => q.elim (by omega) i5))) ((World.putObj_heap_other (by omega)).trans i8)⟩
   · exact hpan _ _ p1 p2
   · exact hown _ _ _ her i1 i8
def Marks (w : World) (S : Nat → Prop) : List Deferred → Prop
 | [] => True
 | d :: ds => (∃ r, d = { target := .collected r, args := #[] } ∧ w.heap[r]? = some (.deferred (some [])) ∧ S r ∧ ∀ d' ∈ ds, d'.target ≠ .collected r) ∧ Marks w S ds
theorem Marks.kept {A B : World} {S S' : Nat → Prop} : ∀ {ds : List Deferred}, Marks A S ds → Kept S A B → (∀ k, S k → k < A.heap.size) → (∀ k, S k → S' k) → Marks B S' ds
 | [], _, _, _, _ => trivial
 | _ :: _, ⟨⟨r, h1, h2, h3, h4⟩, h⟩, k, hl, hs => ⟨⟨r, h1, (k.block r (hl r h3) h3).trans h2, hs r h3, h4⟩, Marks.kept h k hl hs⟩
theorem leaves_marks {fn : Func} {tmps : Array Value} {R : Ending → World → Prop} {u : FrameMode} (hu : u ≠ .run) : ∀ (ds : List Deferred) (S : Nat → Prop) (w : World), Marks w S ds → (∀ k, S k → k < w.heap.size) →
  (∀ w', Kept (fun k => ¬ S k) w w' → LeavesInM F n P fn tmps R [] u w') → LeavesInM F n P fn tmps R ds u w
 | [], _, w, _, _, h => h w (Kept.refl _ _)
 | d :: ds, S, w, ⟨⟨r, h1, h2, h3, h4⟩, hm⟩, hl, h => by
  refine ⟨hu, Or.inl ⟨r, _, by rw [h1], run_takeDeferred h2, ?_⟩⟩
  have go : ∀ ds' : List Deferred, (∀ d' ∈ ds', d'.target ≠ .collected r) → Marks w S ds' → Marks (w.putObj r (.deferred none)) S ds' := by
   intro ds'
   induction ds' with
   | nil => intro _ _; trivial
   | cons d' ds' ih =>
    rintro hne ⟨⟨r', g1, g2, g3, g4⟩, hm'⟩
    refine ⟨⟨r', g1, (World.putObj_heap_other ?_).trans g2, g3, g4⟩, ih (fun x hx => hne x (List.mem_cons_of_mem _ hx)) hm'⟩
    intro e
    exact hne d' (List.mem_cons_self) (by rw [g1, e])
  refine leaves_marks hu ds S _ (go ds h4 hm) (fun k q => by simpa using hl k q) fun w' k => h w' ?_
  exact (Kept.putObj w _ (fun q => q h3)).trans k
theorem wpAt_blockE {f : FuncId} {id : Nat} {c : Code} {Q : Exit → Act → World → Prop} {a : Act} {w : World} (h : WpAt f F n P c (Exit.inBlock id Q) a w) : WpAt f F n P (.block id c) Q a w := by
 intro b k cs hf hro hb hr
 have hb' : F.fn b.fn := by rw [hf]; exact hb
 have h0 : (lone (b.atR a (.code (.block id c) :: k)) cs w).fenced P F := fenced_calm hb' hr rfl
 obtain ⟨e, a₁, w₁, hq, harr⟩ := h b (.inBlock id :: k) cs hf hro hb hr
 cases e with
 | normal => exact ⟨.normal, a₁, w₁, hq, .head h0 stepR_block (StepsIn.trans harr (.one (fenced_calm hb' hr rfl) stepR_inBlock))⟩
 | exit id' =>
  by_cases hid : id' = id
  · simp only [Exit.inBlock, hid, if_true] at hq
    exact ⟨.normal, a₁, w₁, hq, .head h0 stepR_block (harr.1 k (by simp [exitTo, hid]))⟩
  · simp only [Exit.inBlock, hid, if_false] at hq
    have this : (id == id') = false := by simp; exact fun h => hid h.symm
    have hx : exitTo id' (.inBlock id :: k) = exitTo id' k := by simp [exitTo, this]
    exact ⟨.exit id', a₁, w₁, hq, fun k' hk => .head h0 stepR_block (harr.1 k' (by rw [hx]; exact hk)),
     fun hr' hk => let ⟨k₁, h1, h2⟩ := harr.2 hr' (by rw [hx]; exact hk); ⟨k₁, h1, .head h0 stepR_block h2⟩⟩
 | goto l =>
  have hx : gotoIn l (.inBlock id :: k) = gotoIn l k := by simp [gotoIn]
  exact ⟨_, a₁, w₁, hq, fun k' hk => .head h0 stepR_block (harr.1 k' (by rw [hx]; exact hk)),
   fun hr' hk => let ⟨k₁, h1, h2⟩ := harr.2 hr' (by rw [hx]; exact hk); ⟨k₁, h1, .head h0 stepR_block h2⟩⟩
 | ret => exact ⟨_, a₁, w₁, hq, .of_steps (.one h0 stepR_block) harr⟩
 | panic ch => exact ⟨_, a₁, w₁, hq, .of_steps (.one h0 stepR_block) harr⟩
 | outgrown => exact ⟨_, a₁, w₁, hq, .of_steps (.one h0 stepR_block) harr⟩
end Go.Proofs.YthjapmdfcbngmaaGreat
