/- A part. -/
import Derived.Test.YthjapmdfcbngmaaGreatWr17
import Derived.Test.YthjapmdfcbngmaaGreatWr21
import Derived.Test.YthjapmdfcbngmaaGreatWr13
import Derived.Test.YthjapmdfcbngmaaGreatWr8
import Derived.Shelf.Bits.Mul64
import Derived.Test.YthjapmdfcbngmaaGreatWr14
import Derived.Test.YthjapmdfcbngmaaGreatWr22
namespace Go.Proofs.YthjapmdfcbngmaaGreat
set_option maxHeartbeats 8000000
open Go.RowKit
abbrev Sq := List Zp × Int
def seqA (a b : Sq) : Sq := if a.2 = 0 then (a.1 ++ b.1, b.2) else a
def flatS {α : Type} (f : α → Sq) : List α → Sq
 | [] => ([], 0)
 | x :: r => seqA (f x) (flatS f r)
def oneS (r : Zp × Int) : Sq := if r.2 = 0 then ([r.1], 0) else ([], r.2)
def emS (r : Zp × Int) : Sq := if r.2 = 4 then ([], 0) else oneS r
theorem seqA_nil (a : Sq) : seqA a ([], 0) = a := by
 unfold seqA; split
 · rename_i h; rw [List.append_nil, ← h]
 · rfl
theorem nil_seqA (a : Sq) : seqA ([], 0) a = a := by unfold seqA; simp
theorem seqA_assoc (a b c : Sq) : seqA (seqA a b) c = seqA a (seqA b c) := by
 unfold seqA
 by_cases h : a.2 = 0
 · rw [if_pos h]
   by_cases k : b.2 = 0
   · simp [h, k]
   · simp [h, k]
 · simp [h]
theorem flatS_app {α : Type} (f : α → Sq) (l m : List α) : flatS f (l ++ m) = seqA (flatS f l) (flatS f m) := by
 induction l with
 | nil => simp [flatS, nil_seqA]
 | cons x l ih => simp only [List.cons_append, flatS, ih, seqA_assoc]
theorem flatS_one {α : Type} (f : α → Sq) (x : α) : flatS f [x] = f x := by simp [flatS, seqA_nil]
theorem flatS_succ {α : Type} (f : α → Sq) {l : List α} {t : Nat} (ht : t < l.length) : flatS f (l.take (t + 1)) = seqA (flatS f (l.take t)) (f l[t]) := by
 rw [List.take_succ_eq_append_getElem ht, flatS_app, flatS_one]
theorem flatS_split {α : Type} (f : α → Sq) (l : List α) (t : Nat) : flatS f l = seqA (flatS f (l.take t)) (flatS f (l.drop t)) := by
 rw [← flatS_app, List.take_append_drop]
theorem flatS_err {α : Type} (f : α → Sq) {l : List α} {t : Nat} (h : (flatS f (l.take t)).2 ≠ 0) : flatS f l = flatS f (l.take t) := by
 rw [flatS_split f l t]; unfold seqA; rw [if_neg h]
theorem seqA_pre (a b : Sq) : a.1 <+: (seqA a b).1 := by
 unfold seqA; split
 · exact List.prefix_append _ _
 · exact List.prefix_refl _
theorem flatS_pre {α : Type} (f : α → Sq) (l : List α) (t : Nat) : (flatS f (l.take t)).1 <+: (flatS f l).1 := by
 rw [flatS_split f l t]; exact seqA_pre _ _
theorem seqA_ok {a b : Sq} (h : (seqA a b).2 = 0) : a.2 = 0 ∧ b.2 = 0 := by
 unfold seqA at h; split at h
 · rename_i k; exact ⟨k, h⟩
 · rename_i k; exact absurd h k
theorem seqA_of {a b : Sq} (h : a.2 = 0) : seqA a b = (a.1 ++ b.1, b.2) := by unfold seqA; rw [if_pos h]
def ZOut (w : World) (r : Zp × Int) (e : Ending) (w' : World) : Prop :=
 Below w.heap.size w w' ∧ ∃ z : ZV, e = .returned (.tuple #[z.val, .int .i64 r.2]) ∧ ZAt w.heap.size w' z ∧ (r.2 = 0 → z.p = r.1)
theorem ZRes.zout {w w' : World} {N : Int} {l : List Int} {er : Int} {e : Ending} (h : ZRes w N l er e w') : ZOut w ((N, l), er) e w' := h.zv
theorem yield_enters (f : FuncId) {fn : Func} {c : Code} (hf : Tryz.prog.funcs[f]? = some fn) (hname : (fn.name == "runtime.NumGoroutine") = false) (hb : fn.body = some c) : ∀ args w, (callFunc f args).run Tryz.prog w = .ok (.enter f args) w := enters_of hf hname hb
def ItI (W : World) (T0 O : Nat → Prop) (J : List Zp → (Nat → Prop) → World → Prop) (pre : List Zp) (m : Nat) (A : World) : Prop :=
 ∃ T, J pre T A ∧ (∀ k, T k → (T0 k ∨ W.heap.size ≤ k) ∧ ¬ O k ∧ k < m) ∧ (∀ k, O k → k < A.heap.size) ∧ Kept (fun k => ¬ T0 k ∧ k < W.heap.size) W A ∧ m ≤ A.heap.size
section
variable {W A A' : World} {T0 O : Nat → Prop} {J : List Zp → (Nat → Prop) → World → Prop} {pre : List Zp} {m : Nat}
theorem ItI.stay (hst : ∀ pre T A B, J pre T A → Kept (fun k => k < W.heap.size ∨ T k) A B → J pre T B) (h : ItI W T0 O J pre m A) (hb : Kept (fun k => ¬ O k) A A') (hO : ∀ k, O k → W.heap.size ≤ k) : ItI W T0 O J pre m A' := by
 obtain ⟨T, j1, j2, j3, j4, j5⟩ := h
 exact ⟨T, hst _ _ _ _ j1 (hb.mono fun k _ q => by
  rcases q with q | q
  · intro r; have := hO k r; omega
  · exact (j2 k q).2.1), j2, fun k q => Nat.lt_of_lt_of_le (j3 k q) hb.size, j4.trans (hb.mono fun k _ q => fun r => by have := hO k r; omega), Nat.le_trans j5 hb.size⟩
theorem ItI.below (hst : ∀ pre T A B, J pre T A → Kept (fun k => k < W.heap.size ∨ T k) A B → J pre T B) (h : ItI W T0 O J pre m A) (hb : Below A.heap.size A A') : ItI W T0 O J pre m A' := by
 obtain ⟨T, j1, j2, j3, j4, j5⟩ := h
 exact ⟨T, hst _ _ _ _ j1 (Kept.of_below hb _), j2, fun k q => Nat.lt_of_lt_of_le (j3 k q) hb.size, j4.trans (Kept.of_below hb _), Nat.le_trans j5 hb.size⟩
theorem ItI.own {O' : Nat → Prop} (hst : ∀ pre T A B, J pre T A → Kept (fun k => k < W.heap.size ∨ T k) A B → J pre T B) (h : ItI W T0 O J pre m A) (hb : Below A.heap.size A A') (hO : ∀ k, O' k → (O k ∨ m ≤ k) ∧ k < A'.heap.size) : ItI W T0 O' J pre m A' := by
 obtain ⟨T, j1, j2, j3, j4, j5⟩ := h
 exact ⟨T, hst _ _ _ _ j1 (Kept.of_below hb _), fun k q => ⟨(j2 k q).1, fun r => by
  rcases (hO k r).1 with s | s
  · exact (j2 k q).2.1 s
  · have := (j2 k q).2.2; omega, (j2 k q).2.2⟩, fun k q => (hO k q).2, j4.trans (Kept.of_below hb _), Nat.le_trans j5 hb.size⟩
theorem ItI.size (h : ItI W T0 O J pre m A) : m ≤ A.heap.size ∧ W.heap.size ≤ A.heap.size := by
 obtain ⟨T, j1, j2, j3, j4, j5⟩ := h
 exact ⟨j5, j4.size⟩
theorem ItI.start (hlt : ∀ pre T A, J pre T A → ∀ k, T k → k < A.heap.size) (h : J [] T0 W) : ItI W T0 (fun _ => False) J [] W.heap.size W :=
 ⟨T0, h, fun k q => ⟨Or.inl q, id, hlt _ _ _ h k q⟩, fun _k q => q.elim, Kept.refl _ _, Nat.le_refl _⟩
theorem ItI.cell (h : ItI W T0 O J pre m A) {p : Addr} {v : Value} (hc : W.cell? p = some v) (hp : ¬ T0 p.block) : A.cell? p = some v := by
 obtain ⟨T, j1, j2, j3, j4, j5⟩ := h
 exact cell_keptK j4 hc ⟨hp, World.block_lt_of_cell? W _ hc⟩
theorem ItI.rdz (h : ItI W T0 O J pre m A) {B : Nat} {go : Option Addr} {L : List ZV} (hr : RdZ B W go L) (h0 : ∀ p, go = some p → 0 < L.length → ¬ T0 p.block) (h1 : ∀ z ∈ L, ∀ p, z.a = some p → ¬ T0 p.block) : RdZ B A go L := by
 obtain ⟨T, j1, j2, j3, j4, j5⟩ := h
 by_cases hl : 0 < L.length
 · exact hr.keptK j4 (fun p e => ⟨h0 p e hl, hr.lt hl p e⟩) (fun z hz p e => ⟨h1 z hz p e, ((hr.el z hz).2 p e).2⟩)
 · exact ⟨fun t ht => by omega, fun z hz => by have := List.length_pos_of_mem hz; omega⟩
theorem ItI.zat (h : ItI W T0 O J pre m A) {B : Nat} {z : ZV} (hr : ZAt B W z) (h1 : ∀ p, z.a = some p → ¬ T0 p.block) : ZAt B A z := by
 obtain ⟨T, j1, j2, j3, j4, j5⟩ := h
 exact hr.keptK j4 fun p e => ⟨h1 p e, (hr.2 p e).2⟩
end
structure Later (w W : World) (T0 : Nat → Prop) : Prop where
 kept : Kept (fun _ => True) w W
 mine : ∀ k, T0 k → w.heap.size ≤ k
theorem Later.no {w W : World} {T0 : Nat → Prop} (h : Later w W T0) {k : Nat} (hk : k < w.heap.size) : ¬ T0 k := fun q => by have := h.mine k q; omega
theorem Later.rdz {w W : World} {T0 : Nat → Prop} (h : Later w W T0) {B : Nat} {go : Option Addr} {L : List ZV} (hr : RdZ B w go L) : RdZ B W go L ∧ (∀ p, go = some p → 0 < L.length → ¬ T0 p.block) ∧ (∀ z ∈ L, ∀ p, z.a = some p → ¬ T0 p.block) :=
 ⟨hr.keptK h.kept (fun _ _ => trivial) (fun _ _ _ _ => trivial), fun p e hl => h.no (hr.lt hl p e), fun z hz p e => h.no ((hr.el z hz).2 p e).2⟩
theorem Later.cell {w W : World} {T0 : Nat → Prop} (h : Later w W T0) {p : Addr} {v : Value} (hc : w.cell? p = some v) : W.cell? p = some v ∧ ¬ T0 p.block := ⟨cell_keptK h.kept hc trivial, h.no (World.block_lt_of_cell? w _ hc)⟩
def Rnd (B n₀ l : Nat) (W : World) (xs : List Zp) (J : List Zp → (Nat → Prop) → World → Prop) (Jp : List PanicEntry → World → Prop) : Prop :=
 ∀ pre x T A args, J pre T A → (pre ++ [x]) <+: xs → VzA B x args A → (∀ k, giftZ args k → k < A.heap.size ∧ ¬ T k ∧ (k < n₀ ∨ W.heap.size ≤ k)) → YieldAt Fence.wide 8 Tryz.prog l args A fun e B =>
   (e = .returned (.bool true) ∧ ∃ T', J (pre ++ [x]) T' B ∧ Kept (fun k => ¬ T k) A B ∧ ∀ k, T' k → T k ∨ A.heap.size ≤ k ∨ (giftZ args k ∧ W.heap.size ≤ k)) ∨ (∃ chain, e = .panicked chain ∧ Jp chain B ∧ Kept (fun k => ¬ T k) A B)
theorem yield_zone {W A : World} {B l m : Nat} {T0 O : Nat → Prop} {J : List Zp → (Nat → Prop) → World → Prop} {Jp : List PanicEntry → World → Prop} {n₀ : Nat} {xs pre : List Zp} {x : Zp} (rnd : Rnd B n₀ l W xs J Jp) (hlt : ∀ pre T A, J pre T A → ∀ k, T k → k < A.heap.size)
  (h : ItI W T0 O J pre m A) {z : ZV} (hx : z.p = x) (hpre : (pre ++ [x]) <+: xs) (hz : ZAt B A z) (hg : ∀ p, z.a = some p → ¬ O p.block ∧ ((p.block < n₀ ∧ p.block < W.heap.size ∧ ¬ T0 p.block) ∨ (W.heap.size ≤ p.block ∧ m ≤ p.block))) :
  YieldAt Fence.wide 8 Tryz.prog l #[z.val] A fun e B => (e = .returned (.bool true) ∧ ItI W T0 O J (pre ++ [x]) B.heap.size B ∧ Kept O A B) ∨ (∃ chain, e = .panicked chain ∧ Jp chain B) := by
 obtain ⟨T, j1, j2, j3, j4, j5⟩ := h
 refine (rnd pre x T A #[z.val] j1 hpre ⟨z, rfl, hx, hz⟩ (fun k q => ?_)).mono ?_
 · obtain ⟨p, e, rfl⟩ := giftZ_of q
   refine ⟨(hz.2 p e).2, ?_, ?_⟩
   · intro q
     rcases (hg p e).2 with r | r
     · rcases (j2 _ q).1 with s | s
       · exact r.2.2 s
       · omega
     · have := (j2 _ q).2.2; omega
   · rcases (hg p e).2 with r | r
     · exact Or.inl r.1
     · exact Or.inr r.1
 · rintro e B' (⟨rfl, T', t1, t2, t3⟩ | ⟨chain, rfl, hp, _⟩)
   · have sz := j4.size
     refine Or.inl ⟨rfl, ⟨T', t1, fun k q => ?_, fun k q => Nat.lt_of_lt_of_le (j3 k q) t2.size, ?_, Nat.le_refl _⟩, t2.mono fun k _ q => fun r => (j2 k r).2.1 q⟩
     · have lt := hlt _ _ _ t1 k q
       rcases t3 k q with r | r | r
       · exact ⟨(j2 k r).1, (j2 k r).2.1, lt⟩
       · refine ⟨Or.inr (by omega), fun s => ?_, lt⟩
         have := j3 k s; omega
       · obtain ⟨p, e, rfl⟩ := giftZ_of r.1
         exact ⟨Or.inr r.2, (hg p e).1, lt⟩
     · exact j4.trans (t2.mono fun k hk q => fun r => by
        rcases (j2 k r).1 with s | s
        · exact q.1 s
        · omega)
   · exact Or.inr ⟨chain, rfl, hp⟩
theorem each_enters : ∀ args w, (callFunc 106 args).run Tryz.prog w = .ok (.enter 106 args) w := yield_enters _ Tryz.func106 (by kernel_rfl) rfl
def eaS (ch : Zp → Zp × Int) (L : List Zp) : Sq := flatS (fun x => oneS (ch x)) L
theorem erOf {e : Int} (h : e ≠ 0) : (if e = 0 then none else some (pan e)) = some (pan e) := if_neg h
set_option maxRecDepth 100000 in
theorem each_seq (ch : Zp → Zp × Int) (chf : FuncId) (L : List ZV) (go : Option Addr) (gc pl pc B : Nat) (w : World) (hB : B ≤ w.heap.size)
  (c1 : w.cell? ⟨pl, 0, none⟩ = some (.slice go L.length gc)) (c2 : w.cell? ⟨pc, 0, none⟩ = some (.func (.func chf) #[] #[])) (hR : RdZ 0 w go L) (hl : L.length ≤ 1000000)
  (eg : ∀ args w, (callFunc chf args).run Tryz.prog w = .ok (.enter chf args) w) (hch : ∀ z ∈ L, ∀ W, ZAt 0 W z → Calls Tryz.prog chf #[z.val] W (ZOut W (ch z.p))) :
  SeqZ B w 106 #[.pointer (some ⟨pl, 0, none⟩), .pointer (some ⟨pc, 0, none⟩)] (eaS ch (L.map ZV.p)).1 (eaS ch (L.map ZV.p)).2 := by
 intro W T0 hk hT0 l J Jp hst hlt _ rnd h0
 have LT : Later w W T0 := ⟨hk, hT0⟩
 obtain ⟨n, hn⟩ : ∃ n, n = L.length := ⟨_, rfl⟩
 have HN := Lib.hid hn
 have hle : n ≤ 1000000 := by omega
 rw [← hn] at c1
 have C1 := Lib.hid (LT.cell c1)
 have C2 := Lib.hid (LT.cell c2)
 have RZ := Lib.hid (LT.rdz hR)
 have HB := Lib.hid (show B ≤ W.heap.size from Nat.le_trans hB hk.size)
 have ST := Lib.hid hst
 have LL := Lib.hid hlt
 have RN := Lib.hid (show Rnd B w.heap.size l W (eaS ch (L.map ZV.p)).1 J Jp from rnd)
 have CH := Lib.hid hch
 have I0 := Lib.hid (ItI.start hlt h0)
 clear c1 c2 hR hch rnd hst hlt h0 hl hn LT hB hk hT0
 refine callsIn_of_wp Tryz.func106 rfl trivial ?_ rfl
 simp only [Tryz.ntmps106, List.size_toArray, List.length_cons, List.length_nil, Nat.reduceAdd, Nat.reduceSub, Array.replicate_succ, Array.replicate_zero, List.push_toArray, List.append_toArray, List.nil_append, List.cons_append]
 obtain ⟨f1, _⟩ := C1.out
 gi_wp2
 clear f1
 gi_loopw [8] (fun s wr => ∃ t : Nat, s = .int .i64 t ∧ t ≤ n ∧ Hid ((eaS ch ((L.map ZV.p).take t)).2 = 0) ∧ Hid (∃ m, ItI W T0 (fun _ => False) J (eaS ch ((L.map ZV.p).take t)).1 m wr)) (fun s _ => n - (intOf s).toNat)
 case atStart => exact ⟨0, rfl, by omega, Lib.hid (by simp [eaS, flatS]), Lib.hid ⟨_, by simpa [eaS, flatS] using I0.out⟩⟩
 case round =>
  generalize wr = wo at *
  obtain ⟨t, rfl, ht, HE, HI⟩ := hrel
  by_cases htn : t < n
  · have hlt : t < L.length := by have := HN.out; omega
    obtain ⟨m, im⟩ := HI.out
    have rz := im.rdz RZ.out.1 RZ.out.2.1 RZ.out.2.2
    obtain ⟨a, ea, h0, h1⟩ := rz.hd t hlt
    obtain ⟨z, hz⟩ : ∃ z, z = L[t] := ⟨_, rfl⟩
    have HM := Lib.hid (show z ∈ L by rw [hz]; exact List.getElem_mem _)
    have SS := Lib.hid (show eaS ch ((L.map ZV.p).take (t + 1)) = seqA (eaS ch ((L.map ZV.p).take t)) (oneS (ch z.p)) by
     have := flatS_succ (fun x => oneS (ch x)) (l := L.map ZV.p) (t := t) (by simpa using hlt)
     rw [hz]; simpa [eaS] using this)
    have ZA := Lib.hid (rz.el z HM.out)
    rw [← hz] at h0 h1
    have c2 := im.cell C2.out.1 C2.out.2
    have IM := Lib.hid im
    obtain ⟨zl, hzl⟩ : ∃ zl, zl = z.l.length := ⟨_, rfl⟩
    rw [← hzl] at h1
    have X1 := Lib.hid (Bx2.made wo (.int .i64 z.N) (.slice z.a zl z.c) 36)
    have B1 := Lib.hid (one_more (w1 := wo) (.cells #[.int .i64 z.N, .slice z.a zl z.c] 36))
    have c3 := kept B1.out c2
    obtain ⟨x0, x1, _, _⟩ := X1.out.facts
    have CZ := Lib.hid (show ∀ W, ZAt 0 W z → Calls Tryz.prog chf #[.agg #[.int .i64 z.N, .slice z.a zl z.c]] W (ZOut W (ch z.p)) from fun W h => by rw [hzl]; exact CH.out z HM.out W h)
    clear hz hzl rz hlt
    subst ea
    gi_wp2_with fail
    refine ⟨trivial, (callsIn_wide.2 (CZ.out _ (ZA.out.on B1.out))).mono ?_⟩
    rintro e w2 ⟨hb, y, rfl, hy, hyp⟩
    have B2 := Lib.hid (below_on B1.out hb)
    have hsz := hb.size
    rw [World.size_alloc] at hsz
    have YLO := Lib.hid (fun p (e : y.a = some p) => (hy.2 p e).1)
    rw [World.size_alloc] at YLO
    obtain ⟨er, her⟩ : ∃ er, er = (ch z.p).2 := ⟨_, rfl⟩
    rw [← her]
    have HER := Lib.hid her
    have YP := Lib.hid hyp
    have YA := Lib.hid hy
    have MU := Lib.hid (fun W => mustZ_any y er W)
    unfold ZV.val at MU ⊢
    obtain ⟨yl, hyl⟩ : ∃ yl, yl = y.l.length := ⟨_, rfl⟩
    rw [← hyl] at MU ⊢
    have HYL := Lib.hid hyl
    clear hb her hyp hy c2 c3 x0 x1 im CZ hyl
    gi_wp2_with fail
    refine ⟨trivial, (callsIn_wide.2 (MU.out _)).mono ?_⟩
    rintro e w3 ⟨hb, (⟨he, rfl⟩ | ⟨he, rfl⟩)⟩
    · have B3 := Lib.hid (below_on B2.out hb)
      have YA3 := Lib.hid (YA.out.on hb)
      have hsz3 := hb.size
      have I3 := Lib.hid (IM.out.below ST.out B3.out)
      have S1 := Lib.hid (show eaS ch ((L.map ZV.p).take (t + 1)) = ((eaS ch ((L.map ZV.p).take t)).1 ++ [y.p], 0) by
       rw [SS.out, seqA_of HE.out]
       have e1 : (ch z.p).2 = 0 := by rw [← HER.out]; exact he
       unfold oneS
       rw [if_pos e1, YP.out e1])
      have YD := yield_zone RN.out LL.out I3.out (z := y) rfl (by have := flatS_pre (fun x => oneS (ch x)) (L.map ZV.p) (t + 1); have e1 := S1.out; unfold eaS at e1; rw [e1] at this; exact this) (YA3.out.low (by have := HB.out; have := IM.out.size.2; rw [World.size_alloc]; omega)) (fun p e => ⟨id, Or.inr ⟨by have := YLO.out p e; have := IM.out.size.2; omega, by have := YLO.out p e; have := IM.out.size.1; omega⟩⟩)
      obtain ⟨fn, tmps, assign, body, hyd, hR⟩ := YD
      have HR := Lib.hid hR
      unfold ZV.val at hyd
      rw [← HYL.out] at hyd
      clear hR hb he
      gi_wp2_with fail
      refine HR.out.mono ?_
      rintro e w4 (⟨rfl, i4, _⟩ | ⟨chain, rfl, hp⟩)
      · have I4 := Lib.hid i4
        clear i4
        gi_wp2_with fail
        go_roundw
        case rel => exact ⟨t + 1, by go_num, by omega, Lib.hid (by rw [S1.out]), Lib.hid ⟨_, by rw [S1.out]; exact I4.out⟩⟩
        case measure => simp [intOf]; omega
      · exact ⟨by first | rfl | trivial, Or.inr ⟨chain, by first | rfl | trivial, Or.inl hp⟩⟩
    · have S1 := Lib.hid (show eaS ch ((L.map ZV.p).take (t + 1)) = ((eaS ch ((L.map ZV.p).take t)).1, er) by
       rw [SS.out, seqA_of HE.out]
       have e1 : (ch z.p).2 ≠ 0 := by rw [← HER.out]; exact he
       unfold oneS
       rw [if_neg e1, List.append_nil, HER.out])
      have S2 := Lib.hid (show eaS ch (L.map ZV.p) = ((eaS ch ((L.map ZV.p).take t)).1, er) by
       rw [← S1.out]
       exact flatS_err _ (by have := S1.out; unfold eaS at this; rw [this]; exact he))
      obtain ⟨T, j1, _⟩ := IM.out.below ST.out (below_on B2.out hb)
      have JJ := Lib.hid j1
      have H := Lib.hid he
      clear j1 he hb
      have J2 : J (eaS ch (L.map ZV.p)).1 T w3 := by rw [S2.out]; exact JJ.out
      have E2 : (if (eaS ch (L.map ZV.p)).2 = 0 then none else some (pan (eaS ch (L.map ZV.p)).2)) = some (pan er) := by rw [S2.out]; exact erOf H.out
      exact ⟨by first | rfl | trivial, Or.inr ⟨_, by first | rfl | trivial, Or.inr ⟨E2, T, J2⟩⟩⟩
  · have e : (L.map ZV.p).take t = L.map ZV.p := List.take_of_length_le (by have := HN.out; simp; omega)
    rw [e] at HE HI
    obtain ⟨m, T, j1, _⟩ := HI.out
    have JJ := Lib.hid j1
    clear j1
    gi_wp2_with fail
    go_end0
    refine Or.inl ⟨?_, ?_, T, JJ.out⟩
    · first | rfl | trivial
    · exact HE.out
set_option maxRecDepth 100000 in
theorem collect_any (n : Nat) (l : List Int) (a : Addr) (cap : Nat) (A : Array Value) (w : World) (hn : n ≤ 10) (hl : l.length = (n + 1) * (n + 1)) (h : Rd w a l)
  (hK : ∀ (i j : Nat) (W : World), i ≤ n → j ≤ n → Below w.heap.size w W → Calls Tryz.prog 157 #[.agg A, .agg #[.int .i64 n, .slice (some a) l.length cap], .int .i64 i, .int .i64 j] W (Made (.bool (kpB n l i j)) W)) :
  Calls Tryz.prog 155 #[.agg #[.int .i64 n, .slice (some a) l.length cap], .func (.func 157) #[.agg A] #[]] w (fun e w' => Below w.heap.size w w' ∧ ∃ v, e = .returned v ∧ OwnC w' w.heap.size v (redL n l)) := by
 obtain ⟨len, hlen⟩ : ∃ len, len = l.length := ⟨_, rfl⟩
 obtain ⟨i0, hi, hz0, hz1, hz2⟩ := info_parts con_info
 have AT := Lib.hid (miat_len (cap := cap) hn hl h hlen)
 rw [← hlen] at hK
 have KP := Lib.hid hK
 rw [← hlen]
 obtain ⟨w0, hw0, e0, ks⟩ := zbox n a len cap w
 have KS := Lib.hid ks
 have E0 := Lib.hid e0
 have HW0 := Lib.hid hw0
 obtain ⟨b0, b1⟩ := ks w0 (Below.refl _ _)
 have RL := Lib.hid (show redS n l (n + 1) = redL n l from rfl)
 clear ks e0 hw0 hlen hl h hK
 go_enter Tryz.func155, Tryz.ntmps155
 go_wp2_with fail
 rw [← HW0.out]
 go_wp2_with fail
 clear b0 b1
 go_loopw [5, 11] (fun v s wr => ∃ (t : Nat) (cs : List Con), t ≤ n + 1 ∧ s = .int .i64 t ∧ Hid (cs = redS n l t ∧ OwnC wr w0.heap.size v cs ∧ Below w0.heap.size w0 wr)) (fun _ s _ => n + 1 - (intOf s).toNat)
 case atStart => exact ⟨0, [], by omega, rfl, Lib.hid ⟨rfl, OwnC.nil _ _, Below.refl _ _⟩⟩
 case round =>
  obtain ⟨t, cs, ht, rfl, HX⟩ := hrel
  by_cases htn : t ≤ n
  · obtain ⟨b0, b1⟩ := KS.out _ HX.out.2.2
    have D9 : decide ((t : Int) < (n : Int) + 1) = true := by simp; omega
    go_wp2_with fail
    clear b0 b1
    go_loopw [5, 17] (fun v s wx => ∃ (j : Nat) (ds : List Con), j ≤ n + 1 ∧ s = .int .i64 j ∧ Hid (ds = redS n l t ++ redT n l t j ∧ OwnC wx w0.heap.size v ds ∧ Below w0.heap.size w0 wx)) (fun _ s _ => n + 1 - (intOf s).toNat)
    case atStart => exact ⟨0, cs, by omega, rfl, Lib.hid ⟨by rw [HX.out.1]; simp [redT], HX.out.2.1, HX.out.2.2⟩⟩
    case round =>
     obtain ⟨j, ds, hj, rfl, HY⟩ := hrel
     obtain ⟨b0, b1⟩ := KS.out _ HY.out.2.2
     by_cases hjn : j ≤ n
     · cases hkp : kpB n l t j
       · have HK := Lib.hid hkp
         clear hkp
         go_wp2_with fail
         refine (made_as (KP.out t j _ htn hjn (below_on E0.out HY.out.2.2)) HK.out).mono ?_
         rintro e w2 ⟨rfl, hb2⟩
         have HZ := Lib.hid (show ds = redS n l t ++ redT n l t (j + 1) ∧ OwnC w2 w0.heap.size _ ds ∧ Below w0.heap.size w0 w2 from ⟨by rw [redT_no HK.out]; exact HY.out.1, HY.out.2.1.on hb2, below_on HY.out.2.2 hb2⟩)
         clear hb2 b0 b1
         go_wp2_with fail
         go_roundw
         case rel => exact ⟨j + 1, ds, by omega, by go_num, HZ⟩
         case measure => simp [intOf]; omega
       · have HK := Lib.hid hkp
         obtain ⟨x, hx⟩ : ∃ x, x = Zo.At n l t j := ⟨_, rfl⟩
         have HXX := Lib.hid hx
         have A1 := Lib.hid (show ∀ W, Below w.heap.size w W → Calls Tryz.prog 177 #[.agg #[.int .i64 n, .slice (some a) len cap], .int .i64 t, .int .i64 j] W (Made (.int .i64 x) W) from fun W h' => by rw [hx]; exact AT.out t j W htn hjn h')
         clear hkp hx
         go_wp2_with fail
         refine (made_as (KP.out t j _ htn hjn (below_on E0.out HY.out.2.2)) HK.out).mono ?_
         rintro e w2 ⟨rfl, hb2⟩
         have B2 := Lib.hid hb2
         clear hb2 b0 b1
         obtain ⟨b0, b1⟩ := KS.out _ (below_on HY.out.2.2 B2.out)
         go_wp2_with fail
         refine (A1.out _ (below_on E0.out (below_on HY.out.2.2 B2.out))).mono ?_
         rintro e w3 ⟨rfl, hb3⟩
         have HZ := Lib.hid (show Below w0.heap.size w0 w3 from below_on (below_on HY.out.2.2 B2.out) hb3)
         have hown := (HY.out.2.1.on B2.out).on hb3
         have hdl : ds.length ≤ 1000 := by
          rw [HY.out.1, List.length_append]
          have := redS_len n l t
          have := redT_len n l t j
          have : t * (n + 1) ≤ 10 * 11 := Nat.mul_le_mul (by omega) (by omega)
          omega
         have hsz : w0.heap.size ≤ w3.heap.size := HZ.out.size
         clear hb3 b0 b1
         go_wp2_with (at_builtin; refine wpList_append_own _ rfl _ _ 104 rfl w0.heap.size 110 i0 (.agg #[.int .i64 0, .int .i64 0, .int .i64 0]) 3 24 Tryz.underlying104 hi hz0 hz1 hz2 rfl (by decide) _ _ _ rfl (World.ownsRow.alloc hown _) ⟨w3.heap.size, 0, none⟩ 1 1 [.int .i64 t, .int .i64 j, .int .i64 x] rfl rfl (cells_three _ _ _ _ rfl) (by simp [Value.oneCell']) (by unfold maxLen; omega) (by omega) (by simp; omega) ?_)
         intro v' w4 hown4 hgrow _
         have HZ4 := Lib.hid (show Below w0.heap.size w0 w4 from Below.grown (HZ.out.alloc HZ.out.size _) hgrow (by simp; omega) (fun k hk => (World.ownsRow.lt hown k hk).1))
         have HW := Lib.hid (show ds ++ [((t : Int), (j : Int), x)] = redS n l t ++ redT n l t (j + 1) ∧ OwnC w4 w0.heap.size v' (ds ++ [((t : Int), (j : Int), x)]) ∧ Below w0.heap.size w0 w4 from
          ⟨by rw [redT_yes HK.out, HY.out.1, HXX.out, List.append_assoc], by unfold OwnC; rw [conV_app, List.length_append]; exact hown4, HZ4.out⟩)
         clear hown4 hgrow hown hdl hsz
         go_wp2_with fail
         go_roundw
         case rel => exact ⟨j + 1, _, by omega, by go_num, HW⟩
         case measure => simp [intOf]; omega
     · have HE := Lib.hid (show ds = redS n l (t + 1) ∧ OwnC _ w0.heap.size _ ds ∧ Below w0.heap.size w0 _ from ⟨by rw [HY.out.1, redS_succ, show j = n + 1 by omega], HY.out.2⟩)
       go_wp2_with fail
       go_roundw
       case rel => exact ⟨t + 1, ds, by omega, by go_num, HE⟩
       case measure => simp [intOf]; omega
  · have HE := Lib.hid (show cs = redL n l by rw [HX.out.1, ← RL.out, show t = n + 1 by omega])
    go_wp2_with fail
    go_ret
    exact ⟨below_on E0.out HX.out.2.2, _, rfl, by rw [← HE.out]; exact OwnC.low HX.out.2.1 E0.out.size⟩
theorem CRes.made {w w' : World} {v : Value} {cs : List Con} {er : Int} (hb : Below w.heap.size w w') (hv : OwnC w' w.heap.size v cs) : CRes w cs er (.returned (.tuple #[v, .int .i64 er])) w' := ⟨hb, v, rfl, hv⟩
def rdcL (N : Int) (l : List Int) : List Con := if chkE N l = 0 then redL N.toNat l else []
def rdcE (N : Int) (l : List Int) : Int := if chkE N l = 0 then 0 else 2
set_option maxRecDepth 100000 in
theorem reduce_any (n : Nat) (l : List Int) (a : Addr) (cap : Nat) (w : World) (hz : Vz n l) (h : Rd w a l) :
  Calls Tryz.prog 135 #[.agg #[.int .i64 n, .slice (some a) l.length cap]] w (CRes w (redL n l) 0) := by
 obtain ⟨A, hA⟩ : ∃ A, A = arrF fun k => if k ≤ n then clsF n l k else 0 := ⟨_, rfl⟩
 have i64 : ∀ i j, i ≤ n → j ≤ n → I64 (Zo.At n l i j) := fun i j hi hj => by
  have := lv_two (hz.lv hi hj).1
  unfold I64; omega
 have hcl : Cls A n (clsF n l) := by
  rw [hA]
  refine ⟨arrF_size _, arrF_one _, fun k hk => ?_⟩
  have hn := hz.hn
  rw [arrF_at _ (by omega), if_pos hk]
  exact ⟨rfl, by have := (cls_is hz hk).1; omega⟩
 have CK := Lib.hid (show ∀ W, Below w.heap.size w W → Calls Tryz.prog 83 #[.agg #[.int .i64 n, .slice (some a) l.length cap]] W (Made (.int .i64 0) W) from fun W h' => by
  have := zcheck_gen n l (some a) cap W (fun _ => ⟨a, rfl, h.on h'⟩); rw [hz.hc] at this; exact this)
 have DV := Lib.hid (show ∀ W, Below w.heap.size w W → Calls Tryz.prog 156 #[.agg #[.int .i64 n, .slice (some a) l.length cap]] W (Made (.agg A) W) from fun W h' => by
  rw [hA]; exact mdivide_any n l a cap W hz (h.on h'))
 have CO := Lib.hid (show ∀ W, Below w.heap.size w W → Calls Tryz.prog 155 #[.agg #[.int .i64 n, .slice (some a) l.length cap], .func (.func 157) #[.agg A] #[]] W (fun e w' => Below W.heap.size W w' ∧ ∃ v, e = .returned v ∧ OwnC w' W.heap.size v (redL n l)) from fun W h' =>
  collect_any n l a cap A W hz.hn hz.hl (h.on h') (fun i j W2 hi hj h2 => by
   have := keeps_any n i j l a cap A (clsF n l) W2 hz.hn hi hj hz.hl i64 ((h.on h').on h2) hcl
   rw [ks_kp hz hi hj] at this
   exact this))
 generalize l.length = len at *
 obtain ⟨w0, hw0, e0, ks⟩ := zbox n a len cap w
 have KS := Lib.hid ks
 have E0 := Lib.hid e0
 have HW0 := Lib.hid hw0
 obtain ⟨b0, b1⟩ := ks w0 (Below.refl _ _)
 clear ks e0 hw0 hz h hcl hA i64
 go_enter Tryz.func135, Tryz.ntmps135
 go_upto_region 1 with (fail)
 rw [← HW0.out]
 go_wp2_with fail
 refine (CK.out _ E0.out).mono ?_
 rintro e w1 ⟨rfl, hb1⟩
 have B1 := Lib.hid hb1
 clear hb1 b0 b1
 go_wp2_with fail
 have s1 : Below w0.heap.size w0 w1.drew := B1.out.drew
 go_region_held3 (fun w' => w'.cell? ⟨w.heap.size, 0, none⟩ = some (.int .i64 n) ∧ w'.cell? ⟨w.heap.size, 1, none⟩ = some (.slice (some a) len cap)) (first | exact KS.out _ s1 | exact KS.out _ s2 | exact KS.out _ s3)
  (first | (go_at_call 156; refine (DV.out _ (below_on E0.out s1)).mono ?_; rintro e w2 ⟨rfl, hb2⟩; have s2 := below_on s1 hb2) | (go_at_call 155; refine (CO.out _ (below_on E0.out s2)).mono ?_; rintro e w3 ⟨hb3, v, rfl, hv⟩; have s3 := below_on s2 hb3; have hs2 := s2.size))
 have Q := Lib.hid s3
 have HV := Lib.hid (OwnC.low hv (show w.heap.size ≤ w2.heap.size from (below_on E0.out s2).size))
 clear s1 s2 s3 hb2 hb3 hv hs2
 go_wp2_with fail
 go_ret2
 exact CRes.made (below_on E0.out Q.out) HV.out
def flE (N : Int) (v : Int) : Int := if dimB N then cloE N.toNat (List.replicate ((N.toNat + 1) * (N.toNat + 1)) v) else 2
set_option maxRecDepth 100000 in
theorem zreduce_gen (N : Int) (l : List Int) (ao : Option Addr) (cap : Nat) (w : World) (hA : Arg w ao l) :
  Calls Tryz.prog 135 #[.agg #[.int .i64 N, .slice ao l.length cap]] w (CRes w (rdcL N l) (rdcE N l)) := by
 by_cases hc : chkE N l = 0
 · obtain ⟨n, rfl, hn, hl, hne⟩ := chk_ok hc
   obtain ⟨a, rfl, hR⟩ := hA hne
   have := reduce_any n l a cap w ⟨hn, hl, hc⟩ hR
   rw [show rdcL (n : Int) l = redL n l by unfold rdcL; rw [if_pos hc]; rfl, show rdcE (n : Int) l = 0 by unfold rdcE; rw [if_pos hc]]
   exact this
 · have HE := Lib.hid (show rdcE N l = 2 ∧ rdcL N l = [] by unfold rdcE rdcL; rw [if_neg hc, if_neg hc]; exact ⟨rfl, rfl⟩)
   have CK := Lib.hid (show ∀ W, Below w.heap.size w W → Calls Tryz.prog 83 #[.agg #[.int .i64 N, .slice ao l.length cap]] W (Made (.int .i64 2) W) from fun W h' => by
    have := zcheck_gen N l ao cap W (hA.on h'); rw [chk_two hc] at this; exact this)
   generalize l.length = len at *
   have E0 := Lib.hid (one_more (w1 := w) (.cells #[.int .i64 N, .slice ao len cap] 36))
   clear hA hc
   go_enter Tryz.func135, Tryz.ntmps135
   go_wp2_with fail
   refine (CK.out _ E0.out).mono ?_
   rintro e w1 ⟨rfl, hb1⟩
   have B1 := Lib.hid (below_on E0.out hb1)
   clear hb1
   go_wp2_with fail
   go_ret2
   rw [HE.out.1, HE.out.2]
   exact CRes.made B1.out (OwnC.nil _ _)
def buM (N : Int) : List Int := Zo.clo N.toNat (List.replicate ((N.toNat + 1) * (N.toNat + 1)) 1099511627776)
def buL (N : Int) (cs : List Con) : List Int := Zo.clo N.toNat (anL N.toNat cs (buM N))
def buE (N : Int) (cs : List Con) : Int := if flE N 1099511627776 = 0 then anG N cs (buM N) else flE N 1099511627776
def anP (r : Zp) (cs : List Con) : Zp × Int := ((r.1, Zo.clo r.1.toNat (anL r.1.toNat cs r.2)), anG r.1 cs r.2)
def mtP (x y : Zp) : Zp × Int := ((x.1, Zo.clo x.1.toNat (meL x.2 y.2)), zmE x.1 y.1 x.2 y.2)
def hlP (x y : Zp) : Zp × Int := ((x.1, Zo.clo x.1.toNat (huL x.2 y.2)), huE x.1 y.1 x.2 y.2)
def upP (x : Zp) : Zp × Int := ((x.1, Zo.clo x.1.toNat (upL x.1.toNat x.2)), upE x.1 x.2)
def dnP (x : Zp) : Zp × Int := ((x.1, Zo.clo x.1.toNat (dnL x.1.toNat x.2)), dnE x.1 x.2)
section
variable (z y : ZV) (W : World) {B B' : Nat} (hz : ZAt B W z) (hy : ZAt B' W y)
include hz
theorem dn_out : Calls Tryz.prog 65 #[z.val] W (ZOut W (dnP z.p)) := (zdn_gen z.N z.l z.a z.c W hz.1).mono fun _ _ h => h.zout
theorem rup_out : Calls Tryz.prog 63 #[z.val] W (ZOut W (upP z.p)) := (up_gen z.N z.l z.a z.c W hz.1).mono fun _ _ h => h.zout
theorem rdn_out : Calls Tryz.prog 66 #[z.val] W (ZOut W (dnP z.p)) := (dn_gen z.N z.l z.a z.c W hz.1).mono fun _ _ h => h.zout
theorem an_out (c : Con) (b k : Nat) (h0 : W.cell? ⟨b, 0, none⟩ = some (.int .i64 c.1)) (h1 : W.cell? ⟨b, 1, none⟩ = some (.int .i64 c.2.1)) (h2 : W.cell? ⟨b, 2, none⟩ = some (.int .i64 c.2.2)) :
  Calls Tryz.prog 159 #[z.val, .slice (some ⟨b, 0, none⟩) 1 k] W (ZOut W (anP z.p [c])) :=
 (zan_gen z.N z.l z.a z.c [c] (some ⟨b, 0, none⟩) k W hz.1 (fun _ => ⟨_, rfl, fun j hj => by
  have e : j = 0 := by simpa using hj
  subst e
  exact ⟨by rw [addr_add]; exact h0, by rw [addr_add]; exact h1, by rw [addr_add]; exact h2⟩⟩) (by simp)).mono fun _ _ h => h.zout
include hy
theorem mt_out : Calls Tryz.prog 90 #[z.val, y.val] W (ZOut W (mtP z.p y.p)) := (zme_gen z.N y.N z.l y.l z.a y.a z.c y.c W hz.1 hy.1).mono fun _ _ h => h.zout
theorem hl_out : Calls Tryz.prog 141 #[z.val, y.val] W (ZOut W (hlP z.p y.p)) := (zhu_gen z.N y.N z.l y.l z.a y.a z.c y.c W hz.1 hy.1).mono fun _ _ h => h.zout
end
theorem rdc_ok {N : Int} {l : List Int} {c : Con} (h : c ∈ rdcL N l) : I64 c.2.2 ∧ spE c.2.2 = 0 := by
 unfold rdcL at h
 split at h
 · rename_i hc
   obtain ⟨n, rfl, hn, hl, _⟩ := chk_ok hc
   simp only [Int.toNat_natCast] at h
   unfold redL redS redT at h
   simp only [List.mem_flatMap, List.mem_range] at h
   obtain ⟨i, hi, j, hj, hm⟩ := h
   split at hm
   · rename_i hk
     rw [List.mem_singleton] at hm
     subst hm
     have hc2 : chkB (n : Int) l = true := by unfold chkE at hc; split at hc <;> simp_all
     unfold chkB at hc2
     simp only [Bool.and_eq_true, Int.toNat_natCast] at hc2
     have ok := chk1_iff.1 hc2.1.2 i hi j hj
     unfold okI at ok
     simp only [Bool.and_eq_true] at ok
     have lv := ok.1.1
     unfold kpB at hk
     simp only [Bool.and_eq_true, Bool.not_eq_true', decide_eq_false_iff_not] at hk
     have ne := hk.1.2
     unfold lvB at lv
     simp only [decide_eq_true_eq] at lv
     refine ⟨⟨by show _ ≤ Zo.At n l i j; omega, by show Zo.At n l i j ≤ _; omega⟩, ?_⟩
     show spE (Zo.At n l i j) = 0
     unfold spE lvB noB
     rw [if_pos (by simpa using lv), if_neg (by simpa using ne)]
   · cases hm
 · cases h
theorem rdc_len {N : Int} {l : List Int} : (rdcL N l).length ≤ 121 := by
 unfold rdcL
 split
 · rename_i hc
   obtain ⟨n, rfl, hn, _, _⟩ := chk_ok hc
   exact redL_le (by simpa using hn)
 · simp
def cutR : Zp → List Con → Sq
 | _, [] => ([], 0)
 | r, c :: cs => seqA (emS (anP r [opC c])) (if (anP r [c]).2 = 0 then cutR (anP r [c]).1 cs else ([], (anP r [c]).2))
def cutS (x b : Zp) (cs : List Con) : Sq := if (mtP x b).2 = 4 then ([x], 0) else if (mtP x b).2 = 0 then cutR x cs else ([], (mtP x b).2)
theorem oneS_ok {r : Zp × Int} (h : r.2 = 0) : oneS r = ([r.1], 0) := by unfold oneS; rw [if_pos h]
theorem oneS_no {r : Zp × Int} (h : r.2 ≠ 0) : oneS r = ([], r.2) := by unfold oneS; rw [if_neg h]
theorem emS_em {r : Zp × Int} (h : r.2 = 4) : emS r = ([], 0) := by unfold emS; rw [if_pos h]
theorem emS_ok {r : Zp × Int} (h : r.2 = 0) : emS r = ([r.1], 0) := by unfold emS; rw [if_neg (by omega), oneS_ok h]
theorem emS_no {r : Zp × Int} (h : r.2 ≠ 0) (h4 : r.2 ≠ 4) : emS r = ([], r.2) := by unfold emS; rw [if_neg h4, oneS_no h]
end Go.Proofs.YthjapmdfcbngmaaGreat
