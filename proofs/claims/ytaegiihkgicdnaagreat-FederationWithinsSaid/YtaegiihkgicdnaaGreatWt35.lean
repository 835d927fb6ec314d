/- A part. -/
import Derived.Test.YtaegiihkgicdnaaGreatWt33
import Derived.Test.YtaegiihkgicdnaaGreatWt25
import Derived.Test.YtaegiihkgicdnaaGreatWt10
import Derived.Test.YtaegiihkgicdnaaGreatWt34
import Derived.Test.YtaegiihkgicdnaaGreatWt31

namespace Go.Proofs.YtaegiihkgicdnaaGreat
open Go.RowKit

def EqS (s t : Sq) : Prop := colE s.1 s.2 = colE t.1 t.2 ∧ (colE s.1 s.2 = 0 → s.1 = t.1)

theorem EqS.refl (s : Sq) : EqS s s := ⟨rfl, fun _ => rfl⟩

theorem EqS.symm {s t : Sq} (h : EqS s t) : EqS t s := ⟨h.1.symm, fun e => (h.2 (h.1.trans e)).symm⟩

theorem EqS.trans {s t u : Sq} (h : EqS s t) (k : EqS t u) : EqS s u := ⟨h.1.trans k.1, fun e => (h.2 e).trans (k.2 (h.1.symm.trans e))⟩

theorem Mk.eqv {R q : Nat} {P N : Nat → Prop} {A : World} {s t : Sq} (h : Mk R q P N A s) (he : EqS s t) : Mk R q P N A t := by
  obtain ⟨v, L, h1, h2, h3, h4⟩ := h
  exact ⟨v, L, by rw [← he.1]; exact h1, h2, fun e => (h3 (he.1.trans e)).trans (he.2 (he.1.trans e)), h4⟩

def addQ (s t : Sq) : Sq := if colE s.1 s.2 = 0 then seqA s t else s

theorem addQ_bad {s t : Sq} (h : colE s.1 s.2 ≠ 0) : addQ s t = s := if_neg h

theorem addQ_ok {s t : Sq} (h : colE s.1 s.2 = 0) : addQ s t = seqA s t := if_pos h

theorem addS_eq (s : Sq) (r : Zp × Int) : addS s r = addQ s (emS r) := rfl

theorem addQ_nil (s : Sq) : addQ s ([], 0) = s := by unfold addQ; rw [seqA_nil]; split <;> rfl

theorem colE_seqA {s t : Sq} (h : colE s.1 s.2 ≠ 0) : EqS (seqA s t) s := by
  by_cases e : s.2 = 0
  · have hl : 2000 < s.1.length := by
      unfold colE at h
      by_cases q : 2000 < s.1.length
      · exact q
      · rw [if_neg q] at h; exact absurd e h
    have e1 : colE s.1 s.2 = 3 := by unfold colE; rw [if_pos hl]
    have e2 : colE (seqA s t).1 (seqA s t).2 = 3 := by
      rw [seqA_of e]
      unfold colE
      rw [if_pos (by simp; omega)]
    exact ⟨e2.trans e1.symm, fun q => by rw [e2] at q; cases q⟩
  · have : seqA s t = s := by unfold seqA; rw [if_neg e]
    rw [this]
    exact EqS.refl s

theorem addQ_seq (s t u : Sq) : EqS (addQ (addQ s t) u) (addQ s (seqA t u)) := by
  by_cases h : colE s.1 s.2 = 0
  · rw [addQ_ok h, addQ_ok h, ← seqA_assoc]
    by_cases k : colE (seqA s t).1 (seqA s t).2 = 0
    · rw [addQ_ok k]; exact EqS.refl _
    · rw [addQ_bad k]; exact (colE_seqA k).symm
  · rw [addQ_bad h, addQ_bad h, addQ_bad h]; exact EqS.refl _

theorem addQ_err {s : Sq} {e : Int} (h : colE s.1 s.2 = 0) (_he : e ≠ 0) : addQ s ([], e) = (s.1, e) ∧ colE s.1 e = e := by
  have h0 := colE_zero h
  rw [addQ_ok h, seqA_of h0.2, List.append_nil]
  exact ⟨rfl, by unfold colE; rw [if_neg (by omega)]⟩

theorem cut_step (s : Sq) (r : Zp) (c : Con) (cs : List Con) :
    EqS (addQ s (cutR r (c :: cs))) (addQ (addS s (anP r [opC c])) (if (anP r [c]).2 = 0 then cutR (anP r [c]).1 cs else ([], (anP r [c]).2))) := by
  rw [addS_eq]
  exact (addQ_seq s (emS (anP r [opC c])) _).symm

theorem con_cells (w : World) : (sizeOf 110).run Tryz.prog w = .ok 3 w := by
  obtain ⟨i0, hi, hz0, hz1, hz2⟩ := info_parts con_info
  simp [sizeOf, typeInfo, hi, hz1]

theorem run_cut_one (w : World) (a : Addr) (n c t : Nat) (ht : t < n) (hn : n ≤ c) : (Instr.slice 104 (.slice (some a) n c) (some (.int .i64 t)) (some (.int .i64 ((t : Int) + 1))) none).run Tryz.prog w = .ok (.slice (some (a.add (t * 3))) 1 (c - t)) w := by
  have he : Tryz.prog.elem 104 = 110 := by simp [Program.elem]
  rw [run_slice_lh w _ _ _ _ (by rw [he]; exact Tryz.underlying104) .i64 .i64 (t : Int) ((t : Int) + 1) (by omega) (by omega) (by omega), he, con_cells]
  simp only [Result.andThen_ok, sliced, Int.toNat_natCast]
  rw [if_neg (by omega), show ((t : Int) + 1).toNat = t + 1 by omega, show t + 1 - t = 1 by omega]
  rfl

theorem cutR_nil (r : Zp) : cutR r [] = ([], 0) := rfl

theorem yld_one {o : Oper} {ac : Act} {w : World} (s k j : Operand) (ho : o.op = .slice 104 s (some k) (some j) none) (a : Addr) (n c t : Nat) (hs : ac.eval s = .slice (some a) n c) (hk : ac.eval k = .int .i64 t) (hj : ac.eval j = .int .i64 ((t : Int) + 1)) (ht : t < n) (hn : n ≤ c) :
    (execOp ac.eval o).run Tryz.prog w = .ok (.value (.slice (some (a.add (t * 3))) 1 (c - t))) w := by
  have h := run_cut_one w a n c t ht hn
  have he : Tryz.prog.elem 104 = 110 := by simp [Program.elem]
  have h2 : (Instr.sliceAt 104 (.slice (some a) n c) (some (.int .i64 t)) (some (.int .i64 ((t : Int) + 1))) none).run Tryz.prog w = .ok (.slice (some (a.add (t * 3))) 1 (c - t)) w := by
    rw [run_sliceAt_slice w _ _ _ _ _ (by rw [he]; exact Tryz.underlying104)]; exact h
  unfold execOp
  simp only [ho, hs, hk, hj, Option.map_none, Option.map_some, Sem.run_bind, h2, Result.andThen_ok, Sem.run_pure]

theorem rlimNot_ok (x : Int) (W : World) (hx : I64 x) (he : spE x = 0) : Calls Tryz.prog 100 #[.int .i64 x] W (Still (.tuple #[.int .i64 (ntL x), .int .i64 0]) W) := by
  have := refLimNot_any x W hx; rw [he] at this; exact this

theorem Mk.lt' {R q : Nat} {P N : Nat → Prop} {A : World} {s : Sq} (h : Mk R q P N A s) {k : Nat} (p : P k) : k < A.heap.size := by
  obtain ⟨v, L, _, _, _, _, _, _, h7, _⟩ := h
  exact (h7 k p).2.2

def RcP (P : Nat → Prop) (q10 : Nat) (dao : Option Addr) (r : ZV) (k : Nat) : Prop := P k ∨ k = q10 ∨ (∃ p, dao = some p ∧ p.block = k) ∨ ∃ p, r.a = some p ∧ p.block = k

structure RcI (R q : Nat) (P N : Nat → Prop) (w : World) (q10 : Nat) (cs : List Con) (dao : Option Addr) (s : Sq) (r : ZV) (A : World) : Prop where
  mm : Mk R q (RcP P q10 dao r) (fun j => N j ∨ j = q10) A s
  bx : Bx2 A q10 (.int .i64 r.N) (.slice r.a r.l.length r.c) 36
  za : ZAt 0 A r
  ar : Arg3 A dao cs
  kp : Kept P w A
  be : Below R w A

structure RcF (R q : Nat) (P N : Nat → Prop) (q10 : Nat) (dao : Option Addr) : Prop where
  rq : R ≤ q
  r10 : R ≤ q10
  pq : ¬ P q10
  nq : ∀ j, N j → j < q10
  dq : ∀ p, dao = some p → p.block ≠ q10
section
variable {R q : Nat} {P N : Nat → Prop} {w : World} {q10 : Nat} {cs : List Con} {dao : Option Addr} {s : Sq} {r : ZV} {A B : World}

theorem RcI.on (h : RcI R q P N w q10 cs dao s r A) (f : RcF R q P N q10 dao) (hb : Below A.heap.size A B) : RcI R q P N w q10 cs dao s r B :=
  ⟨h.mm.on hb, h.bx.kept hb, h.za.on hb, h.ar.on hb, h.kp.trans (Kept.of_below hb P), h.be.trans (hb.mono (Nat.le_of_lt (Nat.lt_of_le_of_lt f.rq h.mm.lt)))⟩

theorem RcI.add (h : RcI R q P N w q10 cs dao s r A) (f : RcF R q P N q10 dao) (hb : Below A.heap.size A B) (z8 : ZV) (er : Int) (hz : ZAt A.heap.size B z8) :
    Calls Tryz.prog 44 #[.pointer (some ⟨q, 0, none⟩), z8.val, .int .i64 er] B (fun e C => e = .returned (.tuple #[]) ∧ RcI R q P N w q10 cs dao (addS s (z8.p, er)) r C) := by
  have hq := h.bx.lt
  have hR := h.mm.lt
  refine (radd_any R q (fun j => RcP P q10 dao r j ∨ ∃ p, z8.a = some p ∧ p.block = j) (fun j => N j ∨ j = q10) s z8 er B (h.mm.more hb ?_ fun j r => Or.inl r) f.rq ?_).mono ?_
  · rintro j (r | ⟨p, e, rfl⟩)
    · exact Or.inl r
    · exact Or.inr (hz.2 p e)
  · intro _
    refine ⟨hz.low (Nat.zero_le _), fun p e => ⟨Or.inr ⟨p, e, rfl⟩, ?_⟩⟩
    have := (hz.2 p e).1
    rintro (r | r)
    · have := f.nq _ r; omega
    · omega
  · rintro e C ⟨rfl, hm, hk, hB⟩
    exact ⟨rfl, hm.more (Below.refl _ _) (fun j r => Or.inl (Or.inl r)) (fun j r => Or.inl r),
      (h.bx.kept hb).keptK hk (Or.inl (Or.inr (Or.inl rfl))),
      (h.za.on hb).keptK hk (fun p e => Or.inl (Or.inr (Or.inr (Or.inr ⟨p, e, rfl⟩)))),
      (h.ar.on hb).keptK hk (fun p e => Or.inl (Or.inr (Or.inr (Or.inl ⟨p, e, rfl⟩)))),
      h.kp.trans ((Kept.of_below hb P).trans (hk.mono fun k _ r => Or.inl (Or.inl r))),
      h.be.trans ((hb.mono (Nat.le_of_lt (Nat.lt_of_le_of_lt f.rq hR))).trans hB)⟩

structure RcJ (R q : Nat) (P N : Nat → Prop) (w : World) (q10 : Nat) (cs : List Con) (dao : Option Addr) (s : Sq) (r z : ZV) (A : World) : Prop where
  ri : RcI R q P N w q10 cs dao s r A
  mm : Mk R q (fun j => RcP P q10 dao r j ∨ ∃ p, z.a = some p ∧ p.block = j) (fun j => N j ∨ j = q10) A s
  zz : ZAt 0 A z
  zq : ∀ p, z.a = some p → p.block ≠ q10

theorem RcI.next (h : RcI R q P N w q10 cs dao s r A) (f : RcF R q P N q10 dao) (hb : Below A.heap.size A B) (z : ZV) (hz : ZAt A.heap.size B z) : RcJ R q P N w q10 cs dao s r z B := by
  refine ⟨h.on f hb, h.mm.more hb ?_ fun j r => Or.inl r, hz.low (Nat.zero_le _), fun p e => ?_⟩
  · rintro j (r | ⟨p, e, rfl⟩)
    · exact Or.inl r
    · exact Or.inr (hz.2 p e)
  · have := (hz.2 p e).1
    have := h.bx.lt
    omega
variable {z : ZV}

theorem RcJ.fail {t : Sq} {er : Int} (h : RcJ R q P N w q10 cs dao s r z A) (f : RcF R q P N q10 dao) (ht : colE t.1 t.2 = er) (h0 : er ≠ 0) : RcJ R q P N w q10 cs dao t r z (A.setCell ⟨q, 1, none⟩ (.int .i64 er)) := by
  obtain ⟨m, k⟩ := h.mm.fail ht h0
  refine ⟨⟨m.more (Below.refl _ _) (fun j r => Or.inl (Or.inl r)) (fun j r => Or.inl r),
      h.ri.bx.keptK k (Or.inl (Or.inr (Or.inl rfl))),
      h.ri.za.keptK k (fun p e => Or.inl (Or.inr (Or.inr (Or.inr ⟨p, e, rfl⟩)))),
      h.ri.ar.keptK k (fun p e => Or.inl (Or.inr (Or.inr (Or.inl ⟨p, e, rfl⟩)))),
      h.ri.kp.trans (k.mono fun k _ r => Or.inl (Or.inl r)),
      h.ri.be.setCell (p := ⟨q, 1, none⟩) f.rq _⟩, m, h.zz.keptK k (fun p e => Or.inr ⟨p, e, rfl⟩), h.zq⟩

theorem RcJ.put (h : RcJ R q P N w q10 cs dao s r z A) (f : RcF R q P N q10 dao) : RcI R q P N w q10 cs dao s z ((A.setCell ⟨q10, 0, none⟩ (.int .i64 z.N)).setCell ⟨q10, 1, none⟩ (.slice z.a z.l.length z.c)) := by
  have k : Kept (fun j => j ≠ q10) A ((A.setCell ⟨q10, 0, none⟩ (.int .i64 z.N)).setCell ⟨q10, 1, none⟩ (.slice z.a z.l.length z.c)) :=
    (kept_at (S := fun j => j ≠ q10) A ⟨q10, 0, none⟩ _ (fun r => r rfl)).trans (kept_at _ ⟨q10, 1, none⟩ _ (fun r => r rfl))
  have m := h.mm.keptK k (fun j r => by
    have e : j = q10 := Classical.byContradiction r
    rw [e]
    exact ⟨Or.inl (Or.inr (Or.inl rfl)), Or.inr rfl⟩)
  refine ⟨m.more (Below.refl _ _) (fun j r => Or.inl ?_) (fun j r => Or.inl r), h.ri.bx.put _ _, h.zz.keptK k (fun p e => h.zq p e), h.ri.ar.keptK k (fun p e => f.dq p e),
    h.ri.kp.trans (k.mono fun j _ r e => f.pq (e ▸ r)), (h.ri.be.setCell (p := ⟨q10, 0, none⟩) f.r10 _).setCell (p := ⟨q10, 1, none⟩) f.r10 _⟩
  rcases r with r | r | r | r
  · exact Or.inl (Or.inl r)
  · exact Or.inl (Or.inr (Or.inl r))
  · exact Or.inl (Or.inr (Or.inr (Or.inl r)))
  · exact Or.inr r
end

theorem addS_same {s : Sq} {r : Zp × Int} {z : Zp} {e : Int} (he : e = r.2) (hz : e = 0 → z = r.1) : addS s (z, e) = addS s r := by
  obtain ⟨r1, r2⟩ := r
  simp only at he hz
  subst he
  by_cases h : e = 0
  · rw [hz h]
  · rw [addS_eq, addS_eq]
    congr 1
    unfold emS oneS
    simp [h]

theorem cut_go {s1 t : Sq} {g : Zp × Int} {z : Zp} {e : Int} {cs : List Con} (he : e = g.2) (hz : e = 0 → z = g.1) (h : EqS (addQ s1 (if g.2 = 0 then cutR g.1 cs else ([], g.2))) t) :
    (e = 0 → EqS (addQ s1 (cutR z cs)) t) ∧ (e ≠ 0 → colE s1.1 s1.2 = 0 → EqS (addQ (s1.1, e) (cutR z cs)) t ∧ colE s1.1 e = e) ∧ (e ≠ 0 → colE s1.1 s1.2 ≠ 0 → EqS (addQ s1 (cutR z cs)) t) := by
  rw [← he] at h
  refine ⟨fun q => ?_, fun q k => ?_, fun q k => ?_⟩
  · rw [if_pos q, ← hz q] at h; exact h
  · rw [if_neg q] at h
    obtain ⟨a1, a2⟩ := addQ_err k q
    rw [a1] at h
    refine ⟨?_, a2⟩
    rw [addQ_bad (s := (s1.1, e)) (by show colE s1.1 e ≠ 0; rw [a2]; exact q)]
    exact h
  · rw [addQ_bad k] at h ⊢
    exact h

theorem spot_add (d : Addr) (n : Nat) (h : d.spot = none) : (d.add n).spot = none := by obtain ⟨b, o, s⟩ := d; simp at h; subst h; simp [Addr.add]; split <;> rfl
end Go.Proofs.YtaegiihkgicdnaaGreat

namespace Go.Proofs.YtaegiihkgicdnaaGreat
open Go.RowKit

def RfRes (r : List Zp × Int) (w : World) (e : Ending) (w' : World) : Prop :=
  Below w.heap.size w w' ∧ ∃ ao cap L, e = .returned (.tuple #[.slice ao L.length cap, .int .i64 r.2]) ∧ OwnZ w.heap.size 0 w' (.slice ao L.length cap) L ∧ L.map ZV.p = (if r.2 = 0 then r.1 else []) ∧ L.length ≤ 2001

def RfNew (r : List Zp × Int) (w : World) (e : Ending) (w' : World) : Prop :=
  Below w.heap.size w w' ∧ ∃ ao cap L, e = .returned (.tuple #[.slice ao L.length cap, .int .i64 r.2]) ∧ OwnZ w.heap.size w.heap.size w' (.slice ao L.length cap) L ∧ L.map ZV.p = (if r.2 = 0 then r.1 else []) ∧ L.length ≤ 2001

theorem Mk.made (w : World) {N : Nat → Prop} : Mk w.heap.size w.heap.size (fun k => k < w.heap.size) N (w.alloc (.cells #[.slice none 0 0, .int .i64 0] 62)) ([], 0) :=
  ⟨.slice none 0 0, [], Bx2.made w _ _ _, OwnZ.nil _ _ _, fun _ => rfl, by simp, by simp [Value.ownBlock], by simp, fun k h => ⟨by omega, by simp [Value.ownBlock], by simp; omega⟩, by simp⟩

theorem Mk.add {R q : Nat} {P N : Nat → Prop} {A B : World} {s : Sq} (h : Mk R q P N A s) (hR : R ≤ q) (hN : ∀ j, N j → j < A.heap.size) (hb : Below A.heap.size A B) (z8 : ZV) (er : Int) (hz : ZAt A.heap.size B z8) :
    Calls Tryz.prog 44 #[.pointer (some ⟨q, 0, none⟩), z8.val, .int .i64 er] B (fun e C => e = .returned (.tuple #[]) ∧ Mk R q P N C (addS s (z8.p, er)) ∧ Kept P A C ∧ Below R A C) := by
  have hq := h.lt
  refine (radd_any R q (fun j => P j ∨ ∃ p, z8.a = some p ∧ p.block = j) N s z8 er B (h.more hb ?_ fun j r => Or.inl r) hR ?_).mono ?_
  · rintro j (r | ⟨p, e, rfl⟩)
    · exact Or.inl r
    · exact Or.inr (hz.2 p e)
  · intro _
    refine ⟨hz.low (Nat.zero_le _), fun p e => ⟨Or.inr ⟨p, e, rfl⟩, fun r => ?_⟩⟩
    have := (hz.2 p e).1
    have := hN _ r
    omega
  · rintro e C ⟨rfl, hm, hk, hB⟩
    exact ⟨rfl, hm.more (Below.refl _ _) (fun j r => Or.inl (Or.inl r)) (fun j r => Or.inl r), (Kept.of_below hb P).trans (hk.mono fun k _ r => Or.inl r), (hb.mono (by omega)).trans hB⟩

theorem meet_step {s T R : Sq} {x : Zp} {M : List Zp} {u : Nat} (hu : u < M.length) {z : Zp} {e : Int} (h : EqS (addQ s (seqA (mtR x (M.drop u)) R)) T) (he : e = (mtP x M[u]).2) (hz : e = 0 → z = (mtP x M[u]).1) : EqS (addQ (addS s (z, e)) (seqA (mtR x (M.drop (u + 1))) R)) T := by
  rw [addS_same he hz, addS_eq]
  refine (addQ_seq s _ _).trans ?_
  rw [← seqA_assoc]
  rw [List.drop_eq_getElem_cons hu] at h
  exact h

theorem meet_row {s T : Sq} {L M : List Zp} {t : Nat} (ht : t < L.length) (h : EqS (addQ s (mtS (L.drop t) M)) T) : EqS (addQ s (seqA (mtR L[t] (M.drop 0)) (mtS (L.drop (t + 1)) M))) T := by
  rw [List.drop_eq_getElem_cons ht] at h
  exact h

set_option maxRecDepth 100000 in
set_option maxHeartbeats 16000000 in
theorem rmeet_any (L M : List ZV) (go ho : Option Addr) (gc hc : Nat) (w : World) (hL : RdZ 0 w go L) (hM : RdZ 0 w ho M) (hl : L.length ≤ 1000000) (hm : M.length ≤ 1000000) :
    Calls Tryz.prog 14 #[.slice go L.length gc, .slice ho M.length hc] w (RfNew (meeR (L.map ZV.p) (M.map ZV.p)) w) := by
  have RL := Lib.hid hL
  have RM := Lib.hid hM
  obtain ⟨n, hn⟩ : ∃ n, n = L.length := ⟨_, rfl⟩
  obtain ⟨m, hm2⟩ : ∃ m, m = M.length := ⟨_, rfl⟩
  have HN := Lib.hid hn
  have HM := Lib.hid hm2
  have BO := Lib.hid (show ∀ W, Below w.heap.size w W → Calls Tryz.prog 43 #[.slice go n gc, .slice ho m hc] W (Made (.int .i64 (chkG [L.map ZV.p, M.map ZV.p])) W) from fun W h => by rw [hn, hm2]; exact both_any L M go ho gc hc W (hL.on h) (hM.on h) hl hm)
  have nle : n ≤ 1000000 := by omega
  have mle : m ≤ 1000000 := by omega
  rw [← hn, ← hm2]
  clear hL hM hl hm hn hm2
  obtain ⟨c, hc0⟩ : ∃ c, c = chkG [L.map ZV.p, M.map ZV.p] := ⟨_, rfl⟩
  have HC := Lib.hid hc0
  rw [← hc0] at BO
  clear hc0
  go_enter Tryz.func14, Tryz.ntmps14
  go_wp2_with fail
  refine (BO.out _ (Below.refl _ _)).mono ?_
  rintro e w1 ⟨rfl, hb⟩
  have B1 := Lib.hid hb
  clear hb
  by_cases h0 : c = 0
  · have h0b : (c != 0) = false := by simp [h0]
    have EV := Lib.hid (show (meeR (L.map ZV.p) (M.map ZV.p)).2 = colE (mtS (L.map ZV.p) (M.map ZV.p)).1 (mtS (L.map ZV.p) (M.map ZV.p)).2 from by unfold meeR ansE; rw [← HC.out, if_pos h0])
    clear h0
    obtain ⟨q, hq⟩ : ∃ q, q = w1.heap.size := ⟨_, rfl⟩
    obtain ⟨w2, hw2⟩ : ∃ w2, w2 = w1.alloc (.cells #[.slice none 0 0, .int .i64 0] 62) := ⟨_, rfl⟩
    have M0 := Lib.hid (show Mk q q (fun k => k < q) (fun j => j < w.heap.size) w2 ([], 0) by rw [hw2, hq]; exact Mk.made w1)
    have B2 := Lib.hid (show Below w.heap.size w w2 by rw [hw2]; exact below_on B1.out (one_more _))
    have WQ := Lib.hid (show w.heap.size ≤ q by rw [hq]; exact B1.out.size)
    go_upto_region 5 with (fail)
    rw [← hw2, ← hq]
    clear hw2 hq
    go_wp2_with fail
    go_loopw [8] (fun i wr => ∃ t : Nat, i = .int .i64 t ∧ t ≤ n ∧ Hid (∃ s, Mk q q (fun k => k < q) (fun j => j < w.heap.size) wr s ∧ Below w.heap.size w wr ∧ EqS (addQ s (mtS ((L.map ZV.p).drop t) (M.map ZV.p))) (mtS (L.map ZV.p) (M.map ZV.p)))) (fun i _ => n - (intOf i).toNat)
    case atStart => exact ⟨0, rfl, by omega, Lib.hid ⟨([], 0), M0.out, B2.out, by rw [addQ_ok rfl, nil_seqA]; exact EqS.refl _⟩⟩
    case round =>
      generalize wr = wo at *
      obtain ⟨t, rfl, ht, HI⟩ := hrel
      by_cases htn : t < n
      · obtain ⟨x, hx⟩ : ∃ x, x = L[t]'(by have := HN.out; omega) := ⟨_, rfl⟩
        have HLT := Lib.hid (show t < (L.map ZV.p).length by have := HN.out; simpa using (show t < L.length by omega))
        have XP := Lib.hid (show (L.map ZV.p)[t]'HLT.out = x.p by rw [hx]; simp)
        have HX := Lib.hid (show ZAt 0 w x from RL.out.el x (by rw [hx]; exact List.getElem_mem _))
        obtain ⟨a, ea, h0, h1⟩ := RL.out.hd t (by have := HN.out; omega)
        rw [← hx] at h0 h1
        obtain ⟨xl, hxl⟩ : ∃ xl, xl = x.l.length := ⟨_, rfl⟩
        rw [← hxl] at h1
        have HXL := Lib.hid hxl
        have GX := Lib.hid (And.intro h0 h1)
        clear hx h0 h1 hxl
        subst ea
        go_wp2_with fail
        go_loopw [9] (fun i wr => ∃ u : Nat, i = .int .i64 u ∧ u ≤ m ∧ Hid (∃ s, Mk q q (fun k => k < q) (fun j => j < w.heap.size) wr s ∧ Below w.heap.size w wr ∧ EqS (addQ s (seqA (mtR x.p ((M.map ZV.p).drop u)) (mtS ((L.map ZV.p).drop (t + 1)) (M.map ZV.p)))) (mtS (L.map ZV.p) (M.map ZV.p)))) (fun i _ => m - (intOf i).toNat)
        case atStart => exact ⟨0, rfl, by omega, Lib.hid (by
          obtain ⟨s, h1, h2, h3⟩ := HI.out
          refine ⟨s, h1, h2, ?_⟩
          have := meet_row HLT.out h3
          rwa [XP.out] at this)⟩
        case round =>
          generalize wr = wi at *
          obtain ⟨u, rfl, hu, HJ⟩ := hrel
          obtain ⟨s, mm, be, eq⟩ := HJ.out
          have MM := Lib.hid mm
          have BE := Lib.hid be
          have EQ := Lib.hid eq
          obtain ⟨bad, hbad⟩ : ∃ bad, bad = colE s.1 s.2 := ⟨_, rfl⟩
          have HBD := Lib.hid hbad
          obtain ⟨mv, mL, m1, _⟩ := mm
          rw [← hbad] at m1
          obtain ⟨f0, f1, f2, f3⟩ := m1.facts
          clear be eq hbad m1 f0 f2 f3 HJ
          by_cases hum : u < m
          · by_cases hb0 : bad = 0
            · have hb1 : (bad == 0) = true := by simp [hb0]
              obtain ⟨y, hy⟩ : ∃ y, y = M[u]'(by have := HM.out; omega) := ⟨_, rfl⟩
              have HUT := Lib.hid (show u < (M.map ZV.p).length by have := HM.out; simpa using (show u < M.length by omega))
              have YP := Lib.hid (show (M.map ZV.p)[u]'HUT.out = y.p by rw [hy]; simp)
              have HY := Lib.hid (show ZAt 0 w y from RM.out.el y (by rw [hy]; exact List.getElem_mem _))
              obtain ⟨b, eb, h0, h1⟩ := RM.out.hd u (by have := HM.out; omega)
              rw [← hy] at h0 h1
              obtain ⟨yl, hyl⟩ : ∃ yl, yl = y.l.length := ⟨_, rfl⟩
              rw [← hyl] at h1
              have GY := Lib.hid (And.intro h0 h1)
              have MT := Lib.hid (show ∀ W, Below w.heap.size w W → Calls Tryz.prog 45 #[.agg #[.int .i64 x.N, .slice x.a xl x.c], .agg #[.int .i64 y.N, .slice y.a yl y.c]] W (ZOut W (mtP x.p y.p)) from fun W h => by rw [HXL.out, hyl]; exact rmt_out x y W (HX.out.on h) (HY.out.on h))
              clear hy h0 h1 hyl
              subst eb
              go_upto_region 11 with (fail)
              have KS := Lib.hid (show ∀ W, Below wi.heap.size wi W → (W.cell? (a.add (t * 2)) = some (.int .i64 x.N) ∧ W.cell? ⟨(a.add (t * 2)).block, (a.add (t * 2)).off + 1, none⟩ = some (.slice x.a xl x.c) ∧ W.cell? (b.add (u * 2)) = some (.int .i64 y.N) ∧ W.cell? ⟨(b.add (u * 2)).block, (b.add (u * 2)).off + 1, none⟩ = some (.slice y.a yl y.c)) from fun W h => ⟨kept (below_on BE.out h) GX.out.1, kept (below_on BE.out h) GX.out.2, kept (below_on BE.out h) GY.out.1, kept (below_on BE.out h) GY.out.2⟩)
              obtain ⟨wc, hwc⟩ : ∃ wc, wc = wi.drew := ⟨_, rfl⟩
              have Bc := Lib.hid (show Below wi.heap.size wi wc by rw [hwc]; exact (Below.refl _ _).drew)
              refine wp_region_held_drew (S := (fun W => (W.cell? (a.add (t * 2)) = some (.int .i64 x.N) ∧ W.cell? ⟨(a.add (t * 2)).block, (a.add (t * 2)).off + 1, none⟩ = some (.slice x.a xl x.c) ∧ W.cell? (b.add (u * 2)) = some (.int .i64 y.N) ∧ W.cell? ⟨(b.add (u * 2)).block, (b.add (u * 2)).off + 1, none⟩ = some (.slice y.a yl y.c)))) (by kernel_rfl) (by rw [← hwc]; exact KS.out _ Bc.out) (fun h0 => ?_)
              rw [← hwc] at h0 ⊢
              clear hwc
              refine tkH (i := 0) (v := ?v1) rfl (Or.inl ⟨by rfl, ?hy1⟩) h0 ?rest1
              case hy1 => (intro w' hS; (try dsimp only at hS); go_simp; try (with_reducible rfl))
              simp only [Act.put, sA, sB, sD, sE, sF]
              refine tkH (i := 1) (v := ?v2) rfl (Or.inl ⟨by rfl, ?hy2⟩) h0 ?rest2
              case hy2 => (intro w' hS; (try dsimp only at hS); go_simp; try (with_reducible rfl))
              simp only [Act.put, sZ]
              refine tkH (i := 2) (v := ?v3) rfl (Or.inl ⟨by rfl, ?hy3⟩) h0 ?rest3
              case hy3 => (intro w' hS; (try dsimp only at hS); go_simp; try (with_reducible rfl))
              simp only [Act.put, sZ]
              refine tkH (i := 3) (v := ?v4) rfl (Or.inl ⟨by rfl, ?hy4⟩) h0 ?rest4
              case hy4 => (intro w' hS; (try dsimp only at hS); go_simp; try (with_reducible rfl))
              simp only [Act.put, sZ]
              refine tkH (i := 4) (v := ?v5) rfl (Or.inl ⟨by rfl, ?hy5⟩) h0 ?rest5
              case hy5 => (intro w' hS; (try dsimp only at hS); go_simp; try (with_reducible rfl))
              simp only [Act.put, sZ]
              refine tkH (i := 5) (v := ?v6) rfl (Or.inl ⟨by rfl, ?hy6⟩) h0 ?rest6
              case hy6 => (intro w' hS; (try dsimp only at hS); go_simp; try (with_reducible rfl))
              simp only [Act.put, sZ]
              refine tkH (i := 6) (v := ?v7) rfl (Or.inl ⟨by rfl, ?hy7⟩) h0 ?rest7
              case hy7 => (intro w' hS; (try dsimp only at hS); go_simp; try (with_reducible rfl))
              simp only [Act.put, sZ]
              refine tkH (i := 7) (v := ?v8) rfl (Or.inl ⟨by rfl, ?hy8⟩) h0 ?rest8
              case hy8 => (intro w' hS; (try dsimp only at hS); go_simp; try (with_reducible rfl))
              simp only [Act.put, sZ]
              refine tkH (i := 8) (v := ?v9) rfl (Or.inl ⟨by rfl, ?hy9⟩) h0 ?rest9
              case hy9 => (intro w' hS; (try dsimp only at hS); go_simp; try (with_reducible rfl))
              simp only [Act.put, sZ]
              refine wpAnyH_ready (rs := [9]) (by kernel_rfl) (by simp) (AllReadyH.cons rfl (fun K hK => ?_) AllReadyH.nil)
              rw [if_pos (by rfl)]
              go_simp
              refine (MT.out wc (below_on BE.out Bc.out)).mono ?_
              rintro e wd ⟨hb, z8, rfl, hz8, hp8⟩
              obtain ⟨e8, he8⟩ : ∃ e8, e8 = (mtP x.p y.p).2 := ⟨_, rfl⟩
              rw [← he8] at hp8 ⊢
              have HE8 := Lib.hid he8
              have P8 := Lib.hid hp8
              have A8 := Lib.hid (hz8.low Bc.out.size)
              have Bc := Lib.hid (below_on Bc.out hb)
              clear hb hz8 hp8 he8
              unfold ZV.val
              obtain ⟨zl, hzl⟩ : ∃ zl, zl = z8.l.length := ⟨_, rfl⟩
              rw [← hzl]
              have HZL := Lib.hid hzl
              clear hzl
              obtain ⟨wc, hwc⟩ : ∃ wc, wc = wd := ⟨_, rfl⟩
              rw [← hwc] at A8 Bc ⊢
              clear hwc
              go_simp
              refine hK.out _ _ (KS.out _ Bc.out) (fun h0_1 => ?_)
              clear hK K h0
              refine tkH (i := 10) (v := ?v10) rfl (Or.inl ⟨by rfl, ?hy10⟩) h0_1 ?rest10
              case hy10 => (intro w' hS; (try dsimp only at hS); go_simp; try (with_reducible rfl))
              simp only [Act.put, sZ]
              refine tkH (i := 11) (v := ?v11) rfl (Or.inl ⟨by rfl, ?hy11⟩) h0_1 ?rest11
              case hy11 => (intro w' hS; (try dsimp only at hS); go_simp; try (with_reducible rfl))
              simp only [Act.put, sZ]
              refine wpAnyH_ready (rs := [12]) (by kernel_rfl) (by simp) (AllReadyH.cons rfl (fun K hK => ?_) AllReadyH.nil)
              rw [if_pos (by rfl)]
              go_simp
              have AD := MM.out.add (Nat.le_refl _) (fun _ r => Nat.lt_of_lt_of_le r BE.out.size) Bc.out z8 e8 A8.out
              unfold ZV.val at AD
              rw [← HZL.out] at AD
              refine AD.mono ?_
              rintro e wx ⟨rfl, hmk, _, hbx⟩
              have MX := Lib.hid hmk
              have BX := Lib.hid (BE.out.trans (hbx.mono WQ.out))
              clear hmk hbx AD
              go_simp
              refine hK.out _ _ ⟨kept BX.out GX.out.1, kept BX.out GX.out.2, kept BX.out GY.out.1, kept BX.out GY.out.2⟩ (fun h0_2 => ?_)
              clear hK K h0_1
              try simp only [sF]
              try simp only [sE]
              refine wpAnyH_done (by kernel_rfl) ?_ _
              try simp only [Exit.then]
              have ES := Lib.hid (meet_step (e := e8) (z := z8.p) HUT.out EQ.out (by rw [YP.out]; exact HE8.out) (by rw [YP.out]; exact P8.out))
              clear Bc KS f1
              go_wp2_with fail
              go_roundw
              case rel => exact ⟨u + 1, by go_num, by omega, Lib.hid ⟨_, MX.out, BX.out, ES.out⟩⟩
              case measure => simp [intOf]; omega
            · have hb1 : (bad == 0) = false := by simpa using hb0
              have FIN := Lib.hid (show EqS (addQ s (mtS ((L.map ZV.p).drop (t + 1)) (M.map ZV.p))) (mtS (L.map ZV.p) (M.map ZV.p)) by have := EQ.out; rw [addQ_bad (by rw [← HBD.out]; exact hb0)] at this ⊢; exact this)
              clear hb0
              go_wp2_with fail
              go_roundw
              case rel => exact ⟨t + 1, by go_num, by omega, Lib.hid ⟨s, MM.out, BE.out, FIN.out⟩⟩
              case measure => simp [intOf]; omega
          · have e : (M.map ZV.p).drop u = [] := List.drop_eq_nil_of_le (by have := HM.out; simp; omega)
            have FIN := Lib.hid (show EqS (addQ s (mtS ((L.map ZV.p).drop (t + 1)) (M.map ZV.p))) (mtS (L.map ZV.p) (M.map ZV.p)) by have := EQ.out; rw [e, show mtR x.p [] = ([], 0) from rfl, nil_seqA] at this; exact this)
            clear e
            go_wp2_with fail
            repeat (first | (refine ⟨fun f h => (by cases h), ?_⟩; try go_wp2_with fail))
            go_roundw
            case rel => exact ⟨t + 1, by go_num, by omega, Lib.hid ⟨s, MM.out, BE.out, FIN.out⟩⟩
            case measure => simp [intOf]; omega
      · have e : (L.map ZV.p).drop t = [] := List.drop_eq_nil_of_le (by have := HN.out; simp; omega)
        obtain ⟨s, mm, be, eq⟩ := HI.out
        rw [e, show mtS [] (M.map ZV.p) = ([], 0) from rfl, addQ_nil] at eq
        have TD := Lib.hid (told_any q q _ _ s wo mm)
        have EQ := Lib.hid eq
        have BE := Lib.hid be
        clear e mm be eq HI
        go_wp2_with fail
        refine TD.out.mono ?_
        rintro e w9 ⟨hb, ao, cap, X, rfl, hx, hxp, hxl, hxn8⟩
        obtain ⟨xn, hxn⟩ : ∃ xn, xn = X.length := ⟨_, rfl⟩
        have HXN := Lib.hid hxn
        have FIN := Lib.hid (show RfNew (meeR (L.map ZV.p) (M.map ZV.p)) w (.returned (.tuple #[.slice ao X.length cap, .int .i64 (colE s.1 s.2)])) w9 from by
          refine ⟨below_on BE.out hb, ao, cap, X, by rw [EV.out, EQ.out.1], ⟨(hx.low WQ.out (Nat.le_refl 0)).row, fun y hy => ⟨(hx.el y hy).1, fun p e => ⟨Nat.le_of_not_lt (hxn8 y hy p e), ((hx.el y hy).2 p e).2⟩⟩, hx.far⟩, ?_, by omega⟩
          rw [EV.out, hxp, ← EQ.out.1]
          by_cases h : colE s.1 s.2 = 0
          · rw [if_pos h, if_pos h]; exact EQ.out.2 h
          · rw [if_neg h, if_neg h])
        rw [← hxn] at FIN ⊢
        clear hb hx hxp hxl hxn hxn8
        go_wp2_with fail
        go_ret2
        exact FIN.out
  · have h0b : (c != 0) = true := by simpa using h0
    have FIN := Lib.hid (show RfNew (meeR (L.map ZV.p) (M.map ZV.p)) w (.returned (.tuple #[.slice none 0 0, .int .i64 c])) w1 from by
      have e : (meeR (L.map ZV.p) (M.map ZV.p)).2 = c := by unfold meeR ansE; rw [← HC.out, if_neg h0]
      exact ⟨B1.out, none, 0, [], by rw [e]; rfl, OwnZ.nil _ _ _, by rw [e, if_neg h0]; rfl, by simp⟩)
    clear h0
    go_wp2_with fail
    go_ret2
    exact FIN.out
end Go.Proofs.YtaegiihkgicdnaaGreat
