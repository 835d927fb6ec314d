/- A part. -/
import Derived.Test.YtaegiihkgicdnaaGreatWl33
import Derived.Test.YtaegiihkgicdnaaGreatWl25
import Derived.Test.YtaegiihkgicdnaaGreatWl34
import Derived.Test.YtaegiihkgicdnaaGreatWl31

namespace Go.Proofs.YtaegiihkgicdnaaGreat
open Go.RowKit

def EqS (s t : Sq) : Prop := colE s.1 s.2 = colE t.1 t.2 ∧ (colE s.1 s.2 = 0 → s.1 = t.1)

theorem EqS.refl (s : Sq) : EqS s s := ⟨rfl, fun _ => rfl⟩

theorem EqS.symm {s t : Sq} (h : EqS s t) : EqS t s := ⟨h.1.symm, fun e => (h.2 (h.1.trans e)).symm⟩

theorem EqS.trans {s t u : Sq} (h : EqS s t) (k : EqS t u) : EqS s u := ⟨h.1.trans k.1, fun e => (h.2 e).trans (k.2 (h.1.symm.trans e))⟩

theorem Mk.eqv {R q : Nat} {P N : Nat → Prop} {A : World} {s t : Sq} (h : Mk R q P N A s) (he : EqS s t) : Mk R q P N A t := by
  obtain ⟨v, L, h1, h2, h3, h4⟩ := h
  exact ⟨v, L, by rw [← he.1]; exact h1, h2, fun e => (h3 (he.1.trans e)).trans (he.2 (he.1.trans e)), h4⟩

def addQ (s t : Sq) : Sq := if colE s.1 s.2 = 0 then seqA s t else s

theorem addQ_bad {s t : Sq} (h : colE s.1 s.2 ≠ 0) : addQ s t = s := if_neg h

theorem addQ_ok {s t : Sq} (h : colE s.1 s.2 = 0) : addQ s t = seqA s t := if_pos h

theorem addS_eq (s : Sq) (r : Zp × Int) : addS s r = addQ s (emS r) := rfl

theorem addQ_nil (s : Sq) : addQ s ([], 0) = s := by unfold addQ; rw [seqA_nil]; split <;> rfl

theorem colE_seqA {s t : Sq} (h : colE s.1 s.2 ≠ 0) : EqS (seqA s t) s := by
  by_cases e : s.2 = 0
  · have hl : 2000 < s.1.length := by
      unfold colE at h
      by_cases q : 2000 < s.1.length
      · exact q
      · rw [if_neg q] at h; exact absurd e h
    have e1 : colE s.1 s.2 = 3 := by unfold colE; rw [if_pos hl]
    have e2 : colE (seqA s t).1 (seqA s t).2 = 3 := by
      rw [seqA_of e]
      unfold colE
      rw [if_pos (by simp; omega)]
    exact ⟨e2.trans e1.symm, fun q => by rw [e2] at q; cases q⟩
  · have : seqA s t = s := by unfold seqA; rw [if_neg e]
    rw [this]
    exact EqS.refl s

theorem addQ_seq (s t u : Sq) : EqS (addQ (addQ s t) u) (addQ s (seqA t u)) := by
  by_cases h : colE s.1 s.2 = 0
  · rw [addQ_ok h, addQ_ok h, ← seqA_assoc]
    by_cases k : colE (seqA s t).1 (seqA s t).2 = 0
    · rw [addQ_ok k]; exact EqS.refl _
    · rw [addQ_bad k]; exact (colE_seqA k).symm
  · rw [addQ_bad h, addQ_bad h, addQ_bad h]; exact EqS.refl _

theorem addQ_err {s : Sq} {e : Int} (h : colE s.1 s.2 = 0) (_he : e ≠ 0) : addQ s ([], e) = (s.1, e) ∧ colE s.1 e = e := by
  have h0 := colE_zero h
  rw [addQ_ok h, seqA_of h0.2, List.append_nil]
  exact ⟨rfl, by unfold colE; rw [if_neg (by omega)]⟩

theorem cut_step (s : Sq) (r : Zp) (c : Con) (cs : List Con) :
    EqS (addQ s (cutR r (c :: cs))) (addQ (addS s (anP r [opC c])) (if (anP r [c]).2 = 0 then cutR (anP r [c]).1 cs else ([], (anP r [c]).2))) := by
  rw [addS_eq]
  exact (addQ_seq s (emS (anP r [opC c])) _).symm

theorem con_cells (w : World) : (sizeOf 110).run Tryz.prog w = .ok 3 w := by
  obtain ⟨i0, hi, hz0, hz1, hz2⟩ := info_parts con_info
  simp [sizeOf, typeInfo, hi, hz1]

theorem run_cut_one (w : World) (a : Addr) (n c t : Nat) (ht : t < n) (hn : n ≤ c) : (Instr.slice 104 (.slice (some a) n c) (some (.int .i64 t)) (some (.int .i64 ((t : Int) + 1))) none).run Tryz.prog w = .ok (.slice (some (a.add (t * 3))) 1 (c - t)) w := by
  have he : Tryz.prog.elem 104 = 110 := by simp [Program.elem]
  rw [run_slice_lh w _ _ _ _ (by rw [he]; exact Tryz.underlying104) .i64 .i64 (t : Int) ((t : Int) + 1) (by omega) (by omega) (by omega), he, con_cells]
  simp only [Result.andThen_ok, sliced, Int.toNat_natCast]
  rw [if_neg (by omega), show ((t : Int) + 1).toNat = t + 1 by omega, show t + 1 - t = 1 by omega]
  rfl

theorem cutR_nil (r : Zp) : cutR r [] = ([], 0) := rfl

theorem yld_one {o : Oper} {ac : Act} {w : World} (s k j : Operand) (ho : o.op = .slice 104 s (some k) (some j) none) (a : Addr) (n c t : Nat) (hs : ac.eval s = .slice (some a) n c) (hk : ac.eval k = .int .i64 t) (hj : ac.eval j = .int .i64 ((t : Int) + 1)) (ht : t < n) (hn : n ≤ c) :
    (execOp ac.eval o).run Tryz.prog w = .ok (.value (.slice (some (a.add (t * 3))) 1 (c - t))) w := by
  have h := run_cut_one w a n c t ht hn
  have he : Tryz.prog.elem 104 = 110 := by simp [Program.elem]
  have h2 : (Instr.sliceAt 104 (.slice (some a) n c) (some (.int .i64 t)) (some (.int .i64 ((t : Int) + 1))) none).run Tryz.prog w = .ok (.slice (some (a.add (t * 3))) 1 (c - t)) w := by
    rw [run_sliceAt_slice w _ _ _ _ _ (by rw [he]; exact Tryz.underlying104)]; exact h
  unfold execOp
  simp only [ho, hs, hk, hj, Option.map_none, Option.map_some, Sem.run_bind, h2, Result.andThen_ok, Sem.run_pure]

theorem rlimNot_ok (x : Int) (W : World) (hx : I64 x) (he : spE x = 0) : Calls Tryz.prog 100 #[.int .i64 x] W (Still (.tuple #[.int .i64 (ntL x), .int .i64 0]) W) := by
  have := refLimNot_any x W hx; rw [he] at this; exact this

theorem Mk.lt' {R q : Nat} {P N : Nat → Prop} {A : World} {s : Sq} (h : Mk R q P N A s) {k : Nat} (p : P k) : k < A.heap.size := by
  obtain ⟨v, L, _, _, _, _, _, _, h7, _⟩ := h
  exact (h7 k p).2.2

def RcP (P : Nat → Prop) (q10 : Nat) (dao : Option Addr) (r : ZV) (k : Nat) : Prop := P k ∨ k = q10 ∨ (∃ p, dao = some p ∧ p.block = k) ∨ ∃ p, r.a = some p ∧ p.block = k

structure RcI (R q : Nat) (P N : Nat → Prop) (w : World) (q10 : Nat) (cs : List Con) (dao : Option Addr) (s : Sq) (r : ZV) (A : World) : Prop where
  mm : Mk R q (RcP P q10 dao r) (fun j => N j ∨ j = q10) A s
  bx : Bx2 A q10 (.int .i64 r.N) (.slice r.a r.l.length r.c) 36
  za : ZAt 0 A r
  ar : Arg3 A dao cs
  kp : Kept P w A
  be : Below R w A

structure RcF (R q : Nat) (P N : Nat → Prop) (q10 : Nat) (dao : Option Addr) : Prop where
  rq : R ≤ q
  r10 : R ≤ q10
  pq : ¬ P q10
  nq : ∀ j, N j → j < q10
  dq : ∀ p, dao = some p → p.block ≠ q10
section
variable {R q : Nat} {P N : Nat → Prop} {w : World} {q10 : Nat} {cs : List Con} {dao : Option Addr} {s : Sq} {r : ZV} {A B : World}

theorem RcI.on (h : RcI R q P N w q10 cs dao s r A) (f : RcF R q P N q10 dao) (hb : Below A.heap.size A B) : RcI R q P N w q10 cs dao s r B :=
  ⟨h.mm.on hb, h.bx.kept hb, h.za.on hb, h.ar.on hb, h.kp.trans (Kept.of_below hb P), h.be.trans (hb.mono (Nat.le_of_lt (Nat.lt_of_le_of_lt f.rq h.mm.lt)))⟩

theorem RcI.add (h : RcI R q P N w q10 cs dao s r A) (f : RcF R q P N q10 dao) (hb : Below A.heap.size A B) (z8 : ZV) (er : Int) (hz : ZAt A.heap.size B z8) :
    Calls Tryz.prog 44 #[.pointer (some ⟨q, 0, none⟩), z8.val, .int .i64 er] B (fun e C => e = .returned (.tuple #[]) ∧ RcI R q P N w q10 cs dao (addS s (z8.p, er)) r C) := by
  have hq := h.bx.lt
  have hR := h.mm.lt
  refine (radd_any R q (fun j => RcP P q10 dao r j ∨ ∃ p, z8.a = some p ∧ p.block = j) (fun j => N j ∨ j = q10) s z8 er B (h.mm.more hb ?_ fun j r => Or.inl r) f.rq ?_).mono ?_
  · rintro j (r | ⟨p, e, rfl⟩)
    · exact Or.inl r
    · exact Or.inr (hz.2 p e)
  · intro _
    refine ⟨hz.low (Nat.zero_le _), fun p e => ⟨Or.inr ⟨p, e, rfl⟩, ?_⟩⟩
    have := (hz.2 p e).1
    rintro (r | r)
    · have := f.nq _ r; omega
    · omega
  · rintro e C ⟨rfl, hm, hk, hB⟩
    exact ⟨rfl, hm.more (Below.refl _ _) (fun j r => Or.inl (Or.inl r)) (fun j r => Or.inl r),
      (h.bx.kept hb).keptK hk (Or.inl (Or.inr (Or.inl rfl))),
      (h.za.on hb).keptK hk (fun p e => Or.inl (Or.inr (Or.inr (Or.inr ⟨p, e, rfl⟩)))),
      (h.ar.on hb).keptK hk (fun p e => Or.inl (Or.inr (Or.inr (Or.inl ⟨p, e, rfl⟩)))),
      h.kp.trans ((Kept.of_below hb P).trans (hk.mono fun k _ r => Or.inl (Or.inl r))),
      h.be.trans ((hb.mono (Nat.le_of_lt (Nat.lt_of_le_of_lt f.rq hR))).trans hB)⟩

structure RcJ (R q : Nat) (P N : Nat → Prop) (w : World) (q10 : Nat) (cs : List Con) (dao : Option Addr) (s : Sq) (r z : ZV) (A : World) : Prop where
  ri : RcI R q P N w q10 cs dao s r A
  mm : Mk R q (fun j => RcP P q10 dao r j ∨ ∃ p, z.a = some p ∧ p.block = j) (fun j => N j ∨ j = q10) A s
  zz : ZAt 0 A z
  zq : ∀ p, z.a = some p → p.block ≠ q10

theorem RcI.next (h : RcI R q P N w q10 cs dao s r A) (f : RcF R q P N q10 dao) (hb : Below A.heap.size A B) (z : ZV) (hz : ZAt A.heap.size B z) : RcJ R q P N w q10 cs dao s r z B := by
  refine ⟨h.on f hb, h.mm.more hb ?_ fun j r => Or.inl r, hz.low (Nat.zero_le _), fun p e => ?_⟩
  · rintro j (r | ⟨p, e, rfl⟩)
    · exact Or.inl r
    · exact Or.inr (hz.2 p e)
  · have := (hz.2 p e).1
    have := h.bx.lt
    omega
variable {z : ZV}

theorem RcJ.fail {t : Sq} {er : Int} (h : RcJ R q P N w q10 cs dao s r z A) (f : RcF R q P N q10 dao) (ht : colE t.1 t.2 = er) (h0 : er ≠ 0) : RcJ R q P N w q10 cs dao t r z (A.setCell ⟨q, 1, none⟩ (.int .i64 er)) := by
  obtain ⟨m, k⟩ := h.mm.fail ht h0
  refine ⟨⟨m.more (Below.refl _ _) (fun j r => Or.inl (Or.inl r)) (fun j r => Or.inl r),
      h.ri.bx.keptK k (Or.inl (Or.inr (Or.inl rfl))),
      h.ri.za.keptK k (fun p e => Or.inl (Or.inr (Or.inr (Or.inr ⟨p, e, rfl⟩)))),
      h.ri.ar.keptK k (fun p e => Or.inl (Or.inr (Or.inr (Or.inl ⟨p, e, rfl⟩)))),
      h.ri.kp.trans (k.mono fun k _ r => Or.inl (Or.inl r)),
      h.ri.be.setCell (p := ⟨q, 1, none⟩) f.rq _⟩, m, h.zz.keptK k (fun p e => Or.inr ⟨p, e, rfl⟩), h.zq⟩

theorem RcJ.put (h : RcJ R q P N w q10 cs dao s r z A) (f : RcF R q P N q10 dao) : RcI R q P N w q10 cs dao s z ((A.setCell ⟨q10, 0, none⟩ (.int .i64 z.N)).setCell ⟨q10, 1, none⟩ (.slice z.a z.l.length z.c)) := by
  have k : Kept (fun j => j ≠ q10) A ((A.setCell ⟨q10, 0, none⟩ (.int .i64 z.N)).setCell ⟨q10, 1, none⟩ (.slice z.a z.l.length z.c)) :=
    (kept_at (S := fun j => j ≠ q10) A ⟨q10, 0, none⟩ _ (fun r => r rfl)).trans (kept_at _ ⟨q10, 1, none⟩ _ (fun r => r rfl))
  have m := h.mm.keptK k (fun j r => by
    have e : j = q10 := Classical.byContradiction r
    rw [e]
    exact ⟨Or.inl (Or.inr (Or.inl rfl)), Or.inr rfl⟩)
  refine ⟨m.more (Below.refl _ _) (fun j r => Or.inl ?_) (fun j r => Or.inl r), h.ri.bx.put _ _, h.zz.keptK k (fun p e => h.zq p e), h.ri.ar.keptK k (fun p e => f.dq p e),
    h.ri.kp.trans (k.mono fun j _ r e => f.pq (e ▸ r)), (h.ri.be.setCell (p := ⟨q10, 0, none⟩) f.r10 _).setCell (p := ⟨q10, 1, none⟩) f.r10 _⟩
  rcases r with r | r | r | r
  · exact Or.inl (Or.inl r)
  · exact Or.inl (Or.inr (Or.inl r))
  · exact Or.inl (Or.inr (Or.inr (Or.inl r)))
  · exact Or.inr r
end

theorem addS_same {s : Sq} {r : Zp × Int} {z : Zp} {e : Int} (he : e = r.2) (hz : e = 0 → z = r.1) : addS s (z, e) = addS s r := by
  obtain ⟨r1, r2⟩ := r
  simp only at he hz
  subst he
  by_cases h : e = 0
  · rw [hz h]
  · rw [addS_eq, addS_eq]
    congr 1
    unfold emS oneS
    simp [h]

theorem cut_go {s1 t : Sq} {g : Zp × Int} {z : Zp} {e : Int} {cs : List Con} (he : e = g.2) (hz : e = 0 → z = g.1) (h : EqS (addQ s1 (if g.2 = 0 then cutR g.1 cs else ([], g.2))) t) :
    (e = 0 → EqS (addQ s1 (cutR z cs)) t) ∧ (e ≠ 0 → colE s1.1 s1.2 = 0 → EqS (addQ (s1.1, e) (cutR z cs)) t ∧ colE s1.1 e = e) ∧ (e ≠ 0 → colE s1.1 s1.2 ≠ 0 → EqS (addQ s1 (cutR z cs)) t) := by
  rw [← he] at h
  refine ⟨fun q => ?_, fun q k => ?_, fun q k => ?_⟩
  · rw [if_pos q, ← hz q] at h; exact h
  · rw [if_neg q] at h
    obtain ⟨a1, a2⟩ := addQ_err k q
    rw [a1] at h
    refine ⟨?_, a2⟩
    rw [addQ_bad (s := (s1.1, e)) (by show colE s1.1 e ≠ 0; rw [a2]; exact q)]
    exact h
  · rw [addQ_bad k] at h ⊢
    exact h

theorem spot_add (d : Addr) (n : Nat) (h : d.spot = none) : (d.add n).spot = none := by obtain ⟨b, o, s⟩ := d; simp at h; subst h; simp [Addr.add]; split <;> rfl
end Go.Proofs.YtaegiihkgicdnaaGreat

namespace Go.Proofs.YtaegiihkgicdnaaGreat
open Go.RowKit

def RfRes (r : List Zp × Int) (w : World) (e : Ending) (w' : World) : Prop :=
  Below w.heap.size w w' ∧ ∃ ao cap L, e = .returned (.tuple #[.slice ao L.length cap, .int .i64 r.2]) ∧ OwnZ w.heap.size 0 w' (.slice ao L.length cap) L ∧ L.map ZV.p = (if r.2 = 0 then r.1 else []) ∧ L.length ≤ 2001

def RfNew (r : List Zp × Int) (w : World) (e : Ending) (w' : World) : Prop :=
  Below w.heap.size w w' ∧ ∃ ao cap L, e = .returned (.tuple #[.slice ao L.length cap, .int .i64 r.2]) ∧ OwnZ w.heap.size w.heap.size w' (.slice ao L.length cap) L ∧ L.map ZV.p = (if r.2 = 0 then r.1 else []) ∧ L.length ≤ 2001

theorem Mk.made (w : World) {N : Nat → Prop} : Mk w.heap.size w.heap.size (fun k => k < w.heap.size) N (w.alloc (.cells #[.slice none 0 0, .int .i64 0] 62)) ([], 0) :=
  ⟨.slice none 0 0, [], Bx2.made w _ _ _, OwnZ.nil _ _ _, fun _ => rfl, by simp, by simp [Value.ownBlock], by simp, fun k h => ⟨by omega, by simp [Value.ownBlock], by simp; omega⟩, by simp⟩

theorem Mk.add {R q : Nat} {P N : Nat → Prop} {A B : World} {s : Sq} (h : Mk R q P N A s) (hR : R ≤ q) (hN : ∀ j, N j → j < A.heap.size) (hb : Below A.heap.size A B) (z8 : ZV) (er : Int) (hz : ZAt A.heap.size B z8) :
    Calls Tryz.prog 44 #[.pointer (some ⟨q, 0, none⟩), z8.val, .int .i64 er] B (fun e C => e = .returned (.tuple #[]) ∧ Mk R q P N C (addS s (z8.p, er)) ∧ Kept P A C ∧ Below R A C) := by
  have hq := h.lt
  refine (radd_any R q (fun j => P j ∨ ∃ p, z8.a = some p ∧ p.block = j) N s z8 er B (h.more hb ?_ fun j r => Or.inl r) hR ?_).mono ?_
  · rintro j (r | ⟨p, e, rfl⟩)
    · exact Or.inl r
    · exact Or.inr (hz.2 p e)
  · intro _
    refine ⟨hz.low (Nat.zero_le _), fun p e => ⟨Or.inr ⟨p, e, rfl⟩, fun r => ?_⟩⟩
    have := (hz.2 p e).1
    have := hN _ r
    omega
  · rintro e C ⟨rfl, hm, hk, hB⟩
    exact ⟨rfl, hm.more (Below.refl _ _) (fun j r => Or.inl (Or.inl r)) (fun j r => Or.inl r), (Kept.of_below hb P).trans (hk.mono fun k _ r => Or.inl r), (hb.mono (by omega)).trans hB⟩

end Go.Proofs.YtaegiihkgicdnaaGreat
