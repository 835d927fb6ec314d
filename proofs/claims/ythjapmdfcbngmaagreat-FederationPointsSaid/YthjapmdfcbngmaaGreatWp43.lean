/- A part. -/
import Derived.Test.YthjapmdfcbngmaaGreatWp42
import Derived.Test.YthjapmdfcbngmaaGreatWp23
import Derived.Test.YthjapmdfcbngmaaGreatWp32
import Derived.Test.YthjapmdfcbngmaaGreatWp41
import Derived.Test.YthjapmdfcbngmaaGreatWp36

namespace Go.Proofs.YthjapmdfcbngmaaGreat
open Go.RowKit

theorem seq_no4 {a b : Sq} (h : a.2 ≠ 4) (k : b.2 ≠ 4) : (seqA a b).2 ≠ 4 := by unfold seqA; split <;> assumption

theorem flat_no4 {α : Type} {f : α → Sq} : ∀ {l : List α}, (∀ x ∈ l, (f x).2 ≠ 4) → (flatS f l).2 ≠ 4
  | [], _ => by simp [flatS]
  | x :: r, h => seq_no4 (h x (List.mem_cons_self ..)) (flat_no4 fun y hy => h y (List.mem_cons_of_mem _ hy))

theorem em_no4 (r : Zp × Int) : (emS r).2 ≠ 4 := by
  unfold emS oneS
  split
  · simp
  · split
    · simp
    · assumption

theorem co_no4 {s : Sq} (h : s.2 ≠ 4) : colE s.1 s.2 ≠ 4 := by unfold colE; split <;> omega

theorem seq_len (a b : Sq) : (seqA a b).1.length ≤ a.1.length + b.1.length := by
  unfold seqA; split
  · simp
  · omega

theorem flat_len1 {α : Type} {f : α → Sq} {k : Nat} : ∀ {l : List α}, (∀ x ∈ l, (f x).1.length ≤ k) → (flatS f l).1.length ≤ l.length * k
  | [], _ => by simp [flatS]
  | x :: r, h => by
    have h1 := h x (List.mem_cons_self ..)
    have h2 := flat_len1 fun y hy => h y (List.mem_cons_of_mem _ hy)
    have h3 := seq_len (f x) (flatS f r)
    show (seqA (f x) (flatS f r)).1.length ≤ _
    rw [List.length_cons, Nat.add_mul]
    omega

theorem em_len (r : Zp × Int) : (emS r).1.length ≤ 1 := by
  unfold emS oneS
  split
  · simp
  · split <;> simp

theorem cutR_ok {n : Nat} {b k : List Int} (hb : VzM n b) (hk : VzM n k) (hkb : Zo.Le n k b) : ∀ {cs : List Con} {r : List Int}, (∀ c ∈ cs, c ∈ rdcL n b) → VzM n r → Zo.Le n k r → (cutR ((n : Int), r) cs).2 ≠ 4 ∧ Ck n (cutR ((n : Int), r) cs).1 ∧ (cutR ((n : Int), r) cs).1.length ≤ cs.length
  | [], r, _, _, _ => ⟨by simp [cutR], Ck.nil _, by simp [cutR]⟩
  | c :: cs, r, hc, hr, hkr => by
    have ov := an_over (c := c) hr hk hkr (fun q => by
      rw [rdc_at hb (hc c (List.mem_cons_self ..))]
      obtain ⟨p1, p2, _⟩ := okC_wl q
      exact hkb _ _ p1 p2)
    have oc : (anP ((n : Int), r) [opC c]).2 = 0 → Ok1 n (anP ((n : Int), r) [opC c]).1 := fun q => an_ok hr.ok q
    have l1 := em_len (anP ((n : Int), r) [opC c])
    have e : cutR ((n : Int), r) (c :: cs) = seqA (emS (anP ((n : Int), r) [opC c])) (if (anP ((n : Int), r) [c]).2 = 0 then cutR (anP ((n : Int), r) [c]).1 cs else ([], (anP ((n : Int), r) [c]).2)) := rfl
    rw [e]
    by_cases q : (anP ((n : Int), r) [c]).2 = 0
    · rw [if_pos q]
      obtain ⟨i1, i2, i3⟩ := cutR_ok hb hk hkb (cs := cs) (fun d hd => hc d (List.mem_cons_of_mem _ hd)) (an_vz hr q) (ov.2 q)
      have el := seq_len (emS (anP ((n : Int), r) [opC c])) (cutR (anP ((n : Int), r) [c]).1 cs)
      refine ⟨seq_no4 (em_no4 _) i1, Ck.seq (Ck.em oc) i2, ?_⟩
      rw [List.length_cons]
      have i3' : (cutR (anP ((n : Int), r) [c]).1 cs).1.length ≤ cs.length := i3
      omega
    · rw [if_neg q]
      have el := seq_len (emS (anP ((n : Int), r) [opC c])) ([], (anP ((n : Int), r) [c]).2)
      refine ⟨seq_no4 (em_no4 _) ov.1, Ck.seq (Ck.em oc) (Ck.nil _), ?_⟩
      rw [List.length_cons]
      simp at el
      omega

theorem cutS_ok {N : Int} {x b : Zp} (hx : Ok1 N x) (hb : Ok1 N b) : (cutS x b (rdcL b.1 b.2)).2 ≠ 4 ∧ Ck N (cutS x b (rdcL b.1 b.2)).1 ∧ (cutS x b (rdcL b.1 b.2)).1.length ≤ 121 := by
  unfold cutS
  split
  · exact ⟨by simp, Ck.one hx, by simp⟩
  · rename_i h4
    split
    · rename_i h0
      obtain ⟨n, rfl, e, v⟩ := hx.vz
      obtain ⟨n', e0, e', v'⟩ := hb.vz
      have : n' = n := by omega
      subst this
      rw [e, e'] at h0 ⊢
      obtain ⟨k1, k2, k3⟩ := mt_vz v v' h0
      obtain ⟨i1, i2, i3⟩ := cutR_ok v' k1 k3 (cs := rdcL (n' : Int) b.2) (fun c hc => hc) v k2
      exact ⟨i1, i2, Nat.le_trans i3 rdc_len⟩
    · exact ⟨h4, Ck.nil _, by simp⟩

theorem rdc_zero {N : Int} {b : Zp} (h : Ok1 N b) : rdcE b.1 b.2 = 0 := by unfold rdcE; rw [if_pos h.1]

theorem woS_ok {N : Int} {b : Zp} {L : List Zp} (hb : Ok1 N b) (hL : Ck N L) : (woS b L).2 ≠ 4 ∧ Ck N (woS b L).1 ∧ (woS b L).1.length ≤ L.length * 121 := by
  unfold woS woC
  rw [if_pos (rdc_zero hb)]
  exact ⟨flat_no4 fun x hx => (cutS_ok (hL x hx) hb).1, Ck.flat fun x hx => (cutS_ok (hL x hx) hb).2.1, flat_len1 fun x hx => (cutS_ok (hL x hx) hb).2.2⟩

theorem mnP_ok {N : Int} : ∀ {M a : List Zp}, Ck N M → Ck N a → (mnP a M).2 ≠ 4 ∧ Ck N (mnP a M).1
  | [], a, _, ha => ⟨by simp [mnP], ha⟩
  | z :: r, a, hM, ha => by
    have k := woS_ok (hM z (List.mem_cons_self ..)) ha
    unfold mnP
    split
    · exact mnP_ok (fun y hy => hM y (List.mem_cons_of_mem _ hy)) k.2.1
    · exact ⟨co_no4 k.1, Ck.nil _⟩

theorem mtS_ok {N : Int} {L M : List Zp} (hL : Ck N L) (hM : Ck N M) : (mtS L M).2 ≠ 4 ∧ Ck N (mtS L M).1 := ⟨flat_no4 fun _ _ => flat_no4 fun _ _ => em_no4 _, Ck.flat fun x hx => Ck.flat fun y hy => Ck.em fun q => mt_ok (hL x hx) (hM y hy) q⟩

theorem ckq2 {N : Int} {a b : List Zp} (ha : Ck N a) (hb : Ck N b) (la : a.length ≤ 2000) (lb : b.length ≤ 2000) : chkG [a, b] = 0 := by
  rw [chkG_short (by omega), ckL_iff]
  intro z hz
  have hab := ha.app hb
  have k := hab z hz
  refine ⟨k.1, ?_⟩
  cases e : a ++ b with
  | nil => rw [e] at hz; simp at hz
  | cons y r =>
    have hy := hab y (by rw [e]; exact List.mem_cons_self ..)
    simp only [List.headD_cons]
    exact k.2.trans hy.2.symm

theorem mi_eq {N : Int} {a b : List Zp} (ha : Ck N a) (hb : Ck N b) (la : a.length ≤ 2000) (lb : b.length ≤ 2000) : minR a b = mnP a b := by
  unfold minR ansE
  rw [if_pos (ckq2 ha hb la lb)]

end Go.Proofs.YthjapmdfcbngmaaGreat

namespace Go.Proofs.YthjapmdfcbngmaaGreat
open Go.RowKit

def Sp (n : Nat) (x y : Zp) : Prop := ∃ i j : Nat, i ≤ n ∧ j ≤ n ∧ ∃ l : Int, -4294967296 ≤ l ∧ l ≤ 4294967297 ∧ Zo.At n x.2 i j ≤ l ∧ Zo.At n y.2 j i ≤ 1 - l

section
variable {n : Nat}

theorem Sp.symm {x y : Zp} (h : Sp n x y) : Sp n y x := by
  obtain ⟨i, j, hi, hj, l, h1, h2, h3, h4⟩ := h
  exact ⟨j, i, hj, hi, 1 - l, by omega, by omega, h4, by omega⟩

theorem Sp.le {x y x' y' : Zp} (h : Sp n x y) (hx : Zo.Le n x'.2 x.2) (hy : Zo.Le n y'.2 y.2) : Sp n x' y' := by
  obtain ⟨i, j, hi, hj, l, h1, h2, h3, h4⟩ := h
  exact ⟨i, j, hi, hj, l, h1, h2, Int.le_trans (hx i j hi hj) h3, Int.le_trans (hy j i hj hi) h4⟩

theorem Sp.none {x y : Zp} (h : Ok1 (n : Int) x) (k : Ok1 (n : Int) y) (s : Sp n x y) : (mtP x y).2 = 4 := by
  obtain ⟨n1, e0, ex, vx⟩ := h.vz
  obtain ⟨n2, e0', ey, vy⟩ := k.vz
  have q1 : n1 = n := by omega
  have q2 : n2 = n := by omega
  subst q1
  subst q2
  obtain ⟨i, j, hi, hj, l, h1, h2, h3, h4⟩ := s
  rw [ex, ey]
  have e : zmE (n2 : Int) n2 x.2 y.2 = cloE n2 (meL x.2 y.2) := by unfold zmE; rw [if_pos (tw_vz vx vy)]; simp
  show zmE (n2 : Int) n2 x.2 y.2 = 4
  rw [e]
  have hl : (meL x.2 y.2).length = (n2 + 1) * (n2 + 1) := by rw [meL_len, vx.hl]
  have hv : ∀ a b, a ≤ n2 → b ≤ n2 → Zo.Wl (Zo.At n2 (meL x.2 y.2) a b) := fun a b ha hb => by
    rw [me_at1 vx.hl ha hb]; exact wl_min (vx.wl a b ha hb) (vy.wl a b ha hb)
  unfold cloE
  by_cases c : cloB n2 (meL x.2 y.2) = true
  · rw [if_pos c]
  · exfalso
    have cf : cloB n2 (meL x.2 y.2) = false := by simpa using c
    have dg := cloB_iff.1 cf
    have cl := Zo.Cl.of vx.hn hl hv dg
    have le : Zo.Le n2 (Zo.clo n2 (meL x.2 y.2)) (meL x.2 y.2) := Zo.le_clo hl
    have s1 := cl.sums hi hi hj
    have d1 := dg i hi
    have a1 := le i j hi hj
    have a2 := le j i hj hi
    rw [me_at1 vx.hl hi hj] at a1
    rw [me_at1 vx.hl hj hi] at a2
    have b1 := cl.lim hi hj
    have b2 := cl.lim hj hi
    generalize Zo.At n2 (Zo.clo n2 (meL x.2 y.2)) i j = p at *
    generalize Zo.At n2 (Zo.clo n2 (meL x.2 y.2)) j i = r at *
    generalize Zo.At n2 (Zo.clo n2 (meL x.2 y.2)) i i = d at *
    have p1 : p ≤ l := by unfold imin at a1; omega
    have r1 : r ≤ 1 - l := by unfold imin at a2; omega
    rw [Zo.smW_big b1 b2] at s1
    unfold Zo.ps at s1
    split at s1
    · omega
    · first | omega | (split at s1 <;> omega)

theorem an_less {x : Zp} {c : Con} (h : Ok1 (n : Int) x) (q : (anP x [c]).2 = 0) : okC n c = true ∧ Zo.Le n (anP x [c]).1.2 x.2 ∧ Zo.At n (anP x [c]).1.2 c.1.toNat c.2.1.toNat ≤ c.2.2 := by
  obtain ⟨n1, e0, ex, vx⟩ := h.vz
  have q1 : n1 = n := by omega
  subst q1
  rw [ex] at q ⊢
  rcases an_cases (c := c) vx with k | ⟨k1, _⟩
  · exact absurd (k.symm.trans q) (by decide)
  · obtain ⟨p1, p2, _⟩ := okC_wl k1
    have le : Zo.Le n1 (Zo.clo n1 (anL n1 [c] x.2)) (anL n1 [c] x.2) := Zo.le_clo (by rw [anL_len, vx.hl])
    refine ⟨k1, fun a b ha hb => ?_, ?_⟩
    · have := le a b ha hb
      rw [an1_at vx.hl k1 hb] at this
      show Zo.At n1 (Zo.clo n1 (anL n1 [c] x.2)) a b ≤ Zo.At n1 x.2 a b
      split at this
      · rename_i e
        rw [e.1, e.2] at this ⊢
        unfold imin at this; omega
      · exact this
    · have := le _ _ p1 p2
      rw [an1_at vx.hl k1 p2, if_pos ⟨rfl, rfl⟩] at this
      show Zo.At n1 (Zo.clo n1 (anL n1 [c] x.2)) _ _ ≤ _
      unfold imin at this; omega

theorem em_mem {r : Zp × Int} {z : Zp} (h : z ∈ (emS r).1) : r.2 = 0 ∧ z = r.1 := by
  by_cases e4 : r.2 = 4
  · rw [emS_em e4] at h; simp at h
  · by_cases e0 : r.2 = 0
    · rw [emS_ok e0, List.mem_singleton] at h; exact ⟨e0, h⟩
    · rw [emS_no e0 e4] at h; simp at h

theorem seq_mem {a b : Sq} {z : Zp} (h : z ∈ (seqA a b).1) : z ∈ a.1 ∨ z ∈ b.1 := by
  unfold seqA at h
  split at h
  · exact List.mem_append.1 h
  · exact Or.inl h

theorem em_pair {P : Zp → Zp → Prop} (r : Zp × Int) : (emS r).1.Pairwise P := by
  by_cases e4 : r.2 = 4
  · rw [emS_em e4]; exact List.Pairwise.nil
  · by_cases e0 : r.2 = 0
    · rw [emS_ok e0]; exact List.pairwise_singleton ..
    · rw [emS_no e0 e4]; exact List.Pairwise.nil

theorem seq_pair {P : Zp → Zp → Prop} {a b : Sq} (h1 : a.1.Pairwise P) (h2 : b.1.Pairwise P) (h3 : ∀ x ∈ a.1, ∀ y ∈ b.1, P x y) : (seqA a b).1.Pairwise P := by
  unfold seqA
  split
  · exact List.pairwise_append.2 ⟨h1, h2, h3⟩
  · exact h1

theorem cut_sp : ∀ {cs : List Con} {r : Zp}, Ok1 (n : Int) r → (∀ c ∈ cs, I64 c.2.2 ∧ spE c.2.2 = 0) → (∀ z ∈ (cutR r cs).1, Zo.Le n z.2 r.2) ∧ (cutR r cs).1.Pairwise (Sp n)
  | [], _, _, _ => ⟨fun z h => by simp [cutR] at h, List.Pairwise.nil⟩
  | c :: cs, r, hr, hs => by
    unfold cutR
    have hc := hs c (List.mem_cons_self ..)
    have nt : ntL c.2.2 = 1 - c.2.2 ∧ -4294967296 ≤ c.2.2 ∧ c.2.2 ≤ 4294967297 := by
      have h := hc.2
      unfold spE lvB noB at h
      split at h
      · split at h
        · cases h
        · rename_i h1 h2
          refine ⟨?_, ?_⟩
          · unfold ntL lvB noB; rw [h1]; simp at h2 ⊢; exact fun q => absurd q h2
          · simp at h1 h2; omega
      · cases h
    by_cases q : (anP r [c]).2 = 0
    · rw [if_pos q]
      obtain ⟨_, l1, l2⟩ := an_less hr q
      obtain ⟨i1, i2⟩ := cut_sp (an_ok hr q) (fun d hd => hs d (List.mem_cons_of_mem _ hd))
      refine ⟨fun z hz => ?_, seq_pair (em_pair _) i2 fun x hx y hy => ?_⟩
      · rcases seq_mem hz with h | h
        · obtain ⟨e0, rfl⟩ := em_mem h
          exact (an_less hr e0).2.1
        · exact fun a b ha hb => Int.le_trans (i1 z h a b ha hb) (l1 a b ha hb)
      · obtain ⟨e0, rfl⟩ := em_mem hx
        obtain ⟨o1, _, o3⟩ := an_less hr e0
        obtain ⟨p1, p2, _⟩ := okC_wl o1
        have y1 := i1 y hy c.1.toNat c.2.1.toNat p2 p1
        have o4 : Zo.At n (anP r [opC c]).1.2 c.2.1.toNat c.1.toNat ≤ 1 - c.2.2 := by rw [← nt.1]; exact o3
        exact ⟨c.2.1.toNat, c.1.toNat, p1, p2, 1 - c.2.2, by omega, by omega, o4, by omega⟩
    · rw [if_neg q]
      refine ⟨fun z hz => ?_, seq_pair (em_pair _) List.Pairwise.nil fun x _ y hy => by simp at hy⟩
      rcases seq_mem hz with h | h
      · obtain ⟨e0, rfl⟩ := em_mem h
        exact (an_less hr e0).2.1
      · simp at h
end
end Go.Proofs.YthjapmdfcbngmaaGreat

namespace Go.Proofs.YthjapmdfcbngmaaGreat
open Go.RowKit

section
variable {n : Nat}

theorem Sp.down {x y x' y' : Zp} (h : Sp n x y) (hx : Zo.Le n x'.2 x.2) (hy : Zo.Le n y'.2 y.2) : Sp n x' y' := h.le hx hy

theorem cutS_sp {x b : Zp} (h : Ok1 (n : Int) x) (k : Ok1 (n : Int) b) : (∀ z ∈ (cutS x b (rdcL b.1 b.2)).1, Zo.Le n z.2 x.2) ∧ (cutS x b (rdcL b.1 b.2)).1.Pairwise (Sp n) := by
  rw [k.2]
  unfold cutS
  by_cases h4 : (mtP x b).2 = 4
  · rw [if_pos h4]
    refine ⟨fun z hz => ?_, List.pairwise_singleton ..⟩
    rw [List.mem_singleton] at hz
    rw [hz]
    exact Le.self
  · rw [if_neg h4]
    by_cases h0 : (mtP x b).2 = 0
    · rw [if_pos h0]
      exact cut_sp h (fun c hc => rdc_ok hc)
    · rw [if_neg h0]
      exact ⟨fun z hz => by simp at hz, List.Pairwise.nil⟩

theorem flat_mem {α : Type} {f : α → Sq} {z : Zp} : ∀ {l : List α}, z ∈ (flatS f l).1 → ∃ x ∈ l, z ∈ (f x).1
  | [], h => by simp [flatS] at h
  | x :: r, h => by
    unfold flatS at h
    rcases seq_mem h with h | h
    · exact ⟨x, List.mem_cons_self .., h⟩
    · obtain ⟨y, hy, k⟩ := flat_mem h
      exact ⟨y, List.mem_cons_of_mem _ hy, k⟩

theorem woS_sp {b : Zp} (k : Ok1 (n : Int) b) : ∀ {L : List Zp}, Ck (n : Int) L → L.Pairwise (Sp n) → (woS b L).1.Pairwise (Sp n) := by
  intro L hL hS
  unfold woS
  split
  · unfold woC
    induction L with
    | nil => exact List.Pairwise.nil
    | cons x r ih =>
      have hx := hL x (List.mem_cons_self ..)
      have hr : Ck (n : Int) r := fun y hy => hL y (List.mem_cons_of_mem _ hy)
      obtain ⟨s1, s2⟩ := List.pairwise_cons.1 hS
      unfold flatS
      refine seq_pair (cutS_sp hx k).2 (ih hr s2) fun u hu v hv => ?_
      obtain ⟨y, hy, hv⟩ := flat_mem hv
      exact (s1 y hy).down ((cutS_sp hx k).1 u hu) ((cutS_sp (hr y hy) k).1 v hv)
  · exact List.Pairwise.nil

theorem mnP_sp : ∀ {M L : List Zp}, Ck (n : Int) L → Ck (n : Int) M → L.Pairwise (Sp n) → (mnP L M).1.Pairwise (Sp n)
  | [], _, _, _, h => h
  | b :: r, L, hL, hM, h => by
    have hb := hM b (List.mem_cons_self ..)
    unfold mnP
    split
    · exact mnP_sp (woS_ok hb hL).2.1 (fun y hy => hM y (List.mem_cons_of_mem _ hy)) (woS_sp hb hL h)
    · exact List.Pairwise.nil

theorem apart_of {z : Zp} {M : List Zp} (hz : Ok1 (n : Int) z) (hM : Ck (n : Int) M) {i k : Nat} (hi : i < (mnP [z] M).1.length) (hk : k < i) : (mtP (mnP [z] M).1[i] (mnP [z] M).1[k]).2 = 4 := by
  have s := mnP_sp (Ck.one hz) hM (List.pairwise_singleton ..)
  have c := (mnP_ok hM (Ck.one hz)).2
  have := (List.pairwise_iff_getElem.1 s) k i (by omega) hi hk
  exact this.symm.none (c _ (List.getElem_mem _)) (c _ (List.getElem_mem _))
end
end Go.Proofs.YthjapmdfcbngmaaGreat

namespace Go.Proofs.YthjapmdfcbngmaaGreat
open Go.RowKit

theorem try_eq {N : Int} {x y : Zp} (hx : Ok1 N x) (hy : Ok1 N y) : tryR x y = tryP x y := by
  unfold tryR tryP
  by_cases q : (hlP x y).2 = 0
  · have e : minR [(hlP x y).1] [x, y] = mnP [(hlP x y).1] [x, y] := mi_eq (Ck.one (hl_ok hx hy q)) (fun z hz => by simp at hz; rcases hz with rfl | rfl <;> assumption) (by simp) (by simp)
    rw [e]
  · rw [if_pos q, if_pos q]

def Clr (l : List Zp) (a b : Nat) : Prop := (tryP (gz l a) (gz l b)).2 = 0 ∧ (tryP (gz l a) (gz l b)).1.2 = false

def resP (l : List Zp) (a b : Nat) : Pr := if (tryP (gz l a) (gz l b)).2 ≠ 0 then pr0 (tryP (gz l a) (gz l b)).2 else ((a, b, (tryP (gz l a) (gz l b)).1.1), 0)

theorem ck_gz {N : Int} {l : List Zp} (h : Ck N l) {k : Nat} (hk : k < l.length) : Ok1 N (gz l k) := by rw [gz_eq hk]; exact h _ (List.getElem_mem hk)
section
variable {N : Int} {l : List Zp} (hC : Ck N l)
include hC

theorem rpK_none : ∀ {n i k : Nat}, i < l.length → (∀ b, k ≤ b → b < l.length → Clr l i b) → rpK l i n k = none
  | 0, _, _, _, _ => rfl
  | n + 1, i, k, hi, h => by
    rw [rpK]
    split
    · rename_i hk
      rw [try_eq (ck_gz hC hi) (ck_gz hC hk)]
      obtain ⟨c1, c2⟩ := h k (Nat.le_refl _) hk
      rw [if_neg (by rw [c1]; simp), if_neg (by rw [c2]; simp)]
      exact rpK_none hi fun b hb hl => h b (by omega) hl
    · rfl

theorem rpK_first {b0 : Nat} (hb : b0 < l.length) : ∀ {n i k : Nat}, i < l.length → k ≤ b0 → b0 < k + n → (∀ b, k ≤ b → b < b0 → Clr l i b) → ¬ Clr l i b0 → rpK l i n k = some (resP l i b0)
  | 0, _, _, _, _, h, _, _ => by omega
  | n + 1, i, k, hi, hk, hf, h, hn => by
    rw [rpK, if_pos (by omega), try_eq (ck_gz hC hi) (ck_gz hC (by omega))]
    by_cases e : k = b0
    · subst e
      unfold resP
      by_cases q : (tryP (gz l i) (gz l k)).2 = 0
      · have nq : ¬ (tryP (gz l i) (gz l k)).2 ≠ 0 := by rw [q]; simp
        rw [if_neg nq, if_neg nq]
        have : (tryP (gz l i) (gz l k)).1.2 = true := by
          cases c : (tryP (gz l i) (gz l k)).1.2 with
          | true => rfl
          | false => exact absurd ⟨q, c⟩ hn
        rw [if_pos this]
      · rw [if_pos q, if_pos q]
    · obtain ⟨c1, c2⟩ := h k (Nat.le_refl _) (by omega)
      rw [if_neg (by rw [c1]; simp), if_neg (by rw [c2]; simp)]
      exact rpK_first hb hi (by omega) (by omega) (fun b h1 h2 => h b (by omega) h2) hn

theorem rpI_none : ∀ {n i : Nat}, (∀ a b, i ≤ a → a < b → b < l.length → Clr l a b) → rpI l n i = pr0 0
  | 0, _, _ => rfl
  | n + 1, i, h => by
    rw [rpI]
    split
    · rename_i hi
      rw [rpK_none hC hi fun b hb hl => h i b (Nat.le_refl _) (by omega) hl]
      exact rpI_none fun a b ha hab hl => h a b (by omega) hab hl
    · rfl

theorem rpI_first {a0 b0 : Nat} (hab : a0 < b0) (hb : b0 < l.length) (hn : ¬ Clr l a0 b0) (h2 : ∀ b, a0 < b → b < b0 → Clr l a0 b) : ∀ {n i : Nat}, i ≤ a0 → a0 < i + n → (∀ a b, i ≤ a → a < a0 → a < b → b < l.length → Clr l a b) → rpI l n i = resP l a0 b0
  | 0, _, _, h, _ => by omega
  | n + 1, i, hi, hf, h => by
    rw [rpI, if_pos (by omega)]
    by_cases e : i = a0
    · subst e
      rw [rpK_first hC hb (by omega) (by omega) (by omega) (fun b h1 h3 => h2 b (by omega) h3) hn]
      rfl
    · rw [rpK_none hC (by omega) fun b h1 h3 => h i b (Nat.le_refl _) (by omega) (by omega) h3]
      exact rpI_first hab hb hn h2 (by omega) (by omega) fun a b h1 h3 h4 h5 => h a b (by omega) h3 h4 h5
end

theorem prP_scan {l : List Zp} {i : Nat} : ∀ {n j : Nat}, l.length ≤ j + n →
    ((prP l i n j = ((i, (0, [])), 0) ∧ ∀ t, j ≤ t → t < l.length → t ≠ i → Clr l (min i t) (max i t)) ∨
     ∃ t, j ≤ t ∧ t < l.length ∧ t ≠ i ∧ (∀ s, j ≤ s → s < t → s ≠ i → Clr l (min i s) (max i s)) ∧ ¬ Clr l (min i t) (max i t) ∧
       (((prP l i n j).2 ≠ 0 ∧ resP l (min i t) (max i t) = pr0 (prP l i n j).2) ∨
        ((prP l i n j).2 = 0 ∧ (prP l i n j).1.1 = t ∧ resP l (min i t) (max i t) = ((min i t, max i t, (prP l i n j).1.2), 0) ∧ (hlP (gz l (min i t)) (gz l (max i t))).2 = 0 ∧ (prP l i n j).1.2 = (hlP (gz l (min i t)) (gz l (max i t))).1)))
  | 0, j, h => Or.inl ⟨rfl, fun t h1 h2 => by omega⟩
  | n + 1, j, h => by
    rw [prP]
    by_cases hj : j < l.length
    · rw [if_pos hj]
      by_cases hi : j = i
      · rw [if_pos hi]
        rcases prP_scan (l := l) (i := i) (n := n) (j := j + 1) (by omega) with ⟨h1, h2⟩ | ⟨t, h1, h2, h3, h4, h5, h6⟩
        · exact Or.inl ⟨h1, fun t k1 k2 k3 => h2 t (by omega) k2 k3⟩
        · exact Or.inr ⟨t, by omega, h2, h3, fun s k1 k2 k3 => h4 s (by omega) k2 k3, h5, h6⟩
      · rw [if_neg hi]
        by_cases e : (tryP (gz l (min i j)) (gz l (max i j))).2 = 0
        · rw [if_neg (by rw [e]; simp)]
          by_cases c : (tryP (gz l (min i j)) (gz l (max i j))).1.2 = true
          · rw [if_pos c]
            refine Or.inr ⟨j, Nat.le_refl _, hj, hi, fun s k1 k2 => by omega, (fun q => by rw [q.2] at c; cases c), Or.inr ⟨rfl, rfl, ?_, ?_, ?_⟩⟩
            · unfold resP; rw [if_neg (by rw [e]; simp)]
            · unfold tryP at e
              split at e
              · rename_i q; exact absurd e q
              · rename_i q; simpa using q
            · unfold tryP at e ⊢
              split at e
              · rename_i q; exact absurd e q
              · rename_i q
                rw [if_neg q]
                split at e
                · rename_i q2; exact absurd e q2
                · rename_i q2; rw [if_neg q2]
          · rw [if_neg c]
            have cl : Clr l (min i j) (max i j) := ⟨e, by simpa using c⟩
            rcases prP_scan (l := l) (i := i) (n := n) (j := j + 1) (by omega) with ⟨h1, h2⟩ | ⟨t, h1, h2, h3, h4, h5, h6⟩
            · refine Or.inl ⟨h1, fun t k1 k2 k3 => ?_⟩
              by_cases q : t = j
              · subst q; exact cl
              · exact h2 t (by omega) k2 k3
            · refine Or.inr ⟨t, by omega, h2, h3, fun s k1 k2 k3 => ?_, h5, h6⟩
              by_cases q : s = j
              · subst q; exact cl
              · exact h4 s (by omega) k2 k3
        · rw [if_pos e]
          refine Or.inr ⟨j, Nat.le_refl _, hj, hi, fun s k1 k2 => by omega, fun q => e q.1, Or.inl ⟨e, ?_⟩⟩
          unfold resP; rw [if_pos e]
    · rw [if_neg hj]
      exact Or.inl ⟨rfl, fun t h1 h2 => by omega⟩

theorem gz_join {l : List Zp} {lo hi : Nat} (h : Zp) (hlo : lo < hi) {b : Nat} (hb : b ≠ lo) : gz ((l.set lo h).eraseIdx hi) b = if b < hi then gz l b else gz l (b + 1) := by
  unfold gz
  rw [List.getD_eq_getElem?_getD, List.getElem?_eraseIdx]
  split
  · rw [List.getElem?_set_ne (by omega), List.getD_eq_getElem?_getD]
  · rw [List.getElem?_set_ne (by omega), List.getD_eq_getElem?_getD]

theorem jo_ri {N : Int} : ∀ {n m : Nat} {l : List Zp} {i fr : Nat}, Ck N l → l.length < m → l.length * l.length + l.length + (l.length - i) ≤ n →
    ((fr = i + 1 ∧ ∀ a b, a < i → a < b → b < l.length → Clr l a b) ∨ (fr = 0 ∧ ∀ a b, a < i → a < b → b < l.length → b ≠ i → Clr l a b)) → joP n l i fr = riP m l
  | n, 0, _, _, _, _, h, _, _ => by omega
  | 0, m + 1, l, i, fr, hC, hm, hn, _ => by
    have h0 : l.length = 0 := by omega
    have e : l = [] := List.length_eq_zero_iff.1 h0
    subst e
    rfl
  | n + 1, m + 1, l, i, fr, hC, hm, hn, hI => by
    have hW : ∀ a b, a < i → a < b → b < l.length → b ≠ i → Clr l a b := by
      rcases hI with ⟨_, h⟩ | ⟨_, h⟩
      · exact fun a b h1 h2 h3 _ => h a b h1 h2 h3
      · exact h
    rw [joP, riP]
    by_cases hi : i < l.length
    · rw [if_pos hi]
      -- what has been looked at: rows before i, and, from fr on, the row of i
      have row : ∀ t, (∀ s, fr ≤ s → s < t → s ≠ i → Clr l (min i s) (max i s)) → ∀ a, a < i → a < t → Clr l a i := fun t h a h1 h2 => by
        rcases hI with ⟨e, k⟩ | ⟨e, _⟩
        · exact k a i h1 h1 hi
        · have := h a (by omega) h2 (by omega)
          rw [show min i a = a by omega, show max i a = i by omega] at this
          exact this
      rcases prP_scan (l := l) (i := i) (n := l.length - fr) (j := fr) (by omega) with ⟨h1, h2⟩ | ⟨t, h1, h2, h3, h4, h5, h6⟩
      · -- none
        rw [h1, if_neg (by simp), if_pos rfl, ← riP]
        have all : ∀ a b, a < i + 1 → a < b → b < l.length → Clr l a b := fun a b k1 k2 k3 => by
          by_cases c : a = i
          · subst c
            have hb : fr ≤ b := by rcases hI with ⟨e, _⟩ | ⟨e, _⟩ <;> omega
            have := h2 b hb k3 (by omega)
            rw [show min a b = a by omega, show max a b = b by omega] at this
            exact this
          · by_cases d : b = i
            · subst d
              exact row l.length (fun s u1 u2 u3 => h2 s u1 u2 u3) a (by omega) (by omega)
            · exact hW a b (by omega) k2 k3 d
        exact jo_ri hC hm (by omega) (Or.inl ⟨rfl, all⟩)
      · -- something is found at t
        have first : rpI l l.length 0 = resP l (min i t) (max i t) := by
          refine rpI_first hC (by omega) (by omega) h5 (fun b k1 k2 => ?_) (Nat.zero_le _) (by omega) (fun a b _ k1 k2 k3 => ?_)
          · by_cases c : t < i
            · have e1 : min i t = t := by omega
              have e2 : max i t = i := by omega
              rw [e1] at k1 ⊢
              rw [e2] at k2
              exact hW t b (by omega) k1 (by omega) (by omega)
            · have e1 : min i t = i := by omega
              have e2 : max i t = t := by omega
              rw [e1] at k1 ⊢
              rw [e2] at k2
              have hb : fr ≤ b := by rcases hI with ⟨e, _⟩ | ⟨e, _⟩ <;> omega
              have := h4 b hb k2 (by omega)
              rw [show min i b = i by omega, show max i b = b by omega] at this
              exact this
          · by_cases d : b = i
            · subst d
              exact row t h4 a (by omega) (by omega)
            · exact hW a b (by omega) k2 k3 d
        rw [first]
        rcases h6 with ⟨q1, q2⟩ | ⟨q1, q2, q3, q4, q5⟩
        · rw [if_pos q1, q2]
          have : (pr0 (prP l i (l.length - fr) fr).2).2 = (prP l i (l.length - fr) fr).2 := rfl
          rw [this, if_pos q1]
        · rw [if_neg (by rw [q1]; simp), if_neg (by rw [q2]; exact h3), q3]
          rw [if_neg (by simp)]
          have hk : max i t ≠ 0 := by omega
          rw [if_neg (by exact hk)]
          rw [q2]
          have lo : min i t < max i t := by omega
          have hm1 : max i t < l.length := by omega
          have ll : ((l.set (min i t) (prP l i (l.length - fr) fr).1.2).eraseIdx (max i t)).length = l.length - 1 := by rw [List.length_eraseIdx, List.length_set, if_pos hm1]
          refine jo_ri (N := N) ?_ (by rw [ll]; omega) ?_ (Or.inr ⟨rfl, fun a b k1 k2 k3 k4 => ?_⟩)
          · intro z hz
            rcases List.mem_or_eq_of_mem_set (List.mem_of_mem_eraseIdx hz) with q | q
            · exact hC z q
            · rw [q, q5]
              exact hl_ok (ck_gz hC (by omega)) (ck_gz hC hm1) q4
          · rw [ll]
            have := jo_less (m := l.length) (t := i) (t2 := min i t) (by omega) (by omega) hi
            exact Nat.le_of_lt_succ (Nat.lt_of_lt_of_le this hn)
          · rw [ll] at k3
            unfold Clr
            rw [gz_join _ lo (by omega), gz_join _ lo k4]
            rw [if_pos (show a < max i t by omega)]
            split
            · rename_i c
              exact hW a b (by omega) k2 (by omega) (by omega)
            · rename_i c
              exact hW a (b + 1) (by omega) (by omega) (by omega) (by omega)
    · rw [if_neg hi, rpI_none hC (i := 0) (n := l.length) fun a b _ k1 k2 => hW a b (by omega) k1 k2 (by omega)]
      rfl

theorem wp_ck {N : Int} : ∀ {n i : Nat} {l : List Zp}, Ck N l → Ck N (wpP n i l)
  | 0, _, _, h => h
  | n + 1, i, l, h => by
    rw [wpP]
    split
    · split
      · exact wp_ck fun z hz => h z (List.mem_of_mem_eraseIdx hz)
      · exact wp_ck h
    · exact h

theorem sim_eq {L : List Zp} (h : rchk L = 0) : riR L = siR L := by
  have hN : Ck (L.headD (0, [])).1 L := by
    unfold rchk at h
    split at h
    · cases h
    · exact fun z hz => (ckL_iff.1 h) z hz
  have e : siP L = riP ((wpP L.length 0 L).length + 1) (wpP L.length 0 L) := by
    unfold siP
    exact jo_ri (wp_ck hN) (Nat.lt_succ_self _) (by omega) (Or.inl ⟨rfl, fun a b h => by omega⟩)
  unfold riR siR ansE
  rw [if_pos h, chkG_one, if_pos h, ← e]

end Go.Proofs.YthjapmdfcbngmaaGreat

namespace Go.Proofs.YthjapmdfcbngmaaGreat
open Go.RowKit

section
variable {n : Nat} {D : Int} {X : Nat → Int}

theorem rdc_in {z : Zp} (hp : Zo.Pt n D X 1099511627776) (h : Ok1 (n : Int) z) : InZ n D X z ↔ ∀ c ∈ rdcL (n : Int) z.2, mtc D X c := by
  obtain ⟨_, v⟩ := h.vzn
  have w : Vz n z.2 := ⟨v.hn, v.hl, v.hc⟩
  have e : rdcL (n : Int) z.2 = redL n z.2 := by unfold rdcL; rw [if_pos v.hc, Int.toNat_natCast]
  rw [e]
  obtain ⟨_, f2, f3⟩ := bum_facts n (by have := v.hn; omega)
  have hml : (buM (n : Int)).length = (n + 1) * (n + 1) := by unfold buM; rw [Zo.clo_length]; simp
  have f3' : ∀ a b, a ≤ n → b ≤ n → Zo.At n (buM (n : Int)) a b = if a = b ∨ a = 0 then 1 else 1099511627776 := fun a b ha hb => f3 a (by omega) b (by omega)
  have tm : Zo.Top n (buM (n : Int)) := ⟨hml, fun i j hi hj => by rw [f3' i j hi hj]; split <;> omega⟩
  have im : Zo.In n (buM (n : Int)) D X := fun i j hi hj => by
    rw [f3' i j hi hj]
    split
    · rename_i q
      refine Zo.mt_one.2 ?_
      rcases q with q | q
      · subst q; omega
      · subst q
        have := hp.zero
        have := hp.low j hj
        omega
    · exact Zo.mt_none _ _
  have b := (bu_of w (cs := redL n z.2) fun c hc => red_mem.1 hc).1
  have hb := (back_all w).2
  have hok : ∀ t, t < (redL n z.2).length → okC n (gc (redL n z.2) t) = true := fun t ht => fr_ok w (red_mem.1 (gc_mem ht))
  have e2 : z.2 = Zo.clo n (anL n (redL n z.2) (buM (n : Int))) := by
    have : buL (n : Int) (redL n z.2) = Zo.clo n (anL n (redL n z.2) (buM (n : Int))) := by unfold buL; rw [Int.toNat_natCast]
    rw [← this, hb]
  have key : Zo.In n z.2 D X ↔ Zo.In n (anL n (redL n z.2) (buM (n : Int))) D X := by
    have := clo_in (n := n) (l := anL n (redL n z.2) (buM (n : Int))) hp (by omega) ⟨b.len, b.top⟩
    rw [← e2] at this
    exact this
  unfold InZ
  rw [key, an_in hp.pos tm hok]
  constructor
  · rintro ⟨_, q⟩ c hc
    obtain ⟨t, ht, rfl⟩ := List.getElem_of_mem hc
    have := q t ht
    rw [show gc (redL n z.2) t = (redL n z.2)[t] by simp [gc, ht]] at this
    exact this
  · intro q
    exact ⟨im, fun t ht => q _ (gc_mem ht)⟩

theorem cutS_in {x b : Zp} (hp : Zo.Pt n D X 1099511627776) (h : Ok1 (n : Int) x) (k : Ok1 (n : Int) b) (q : (cutS x b (rdcL b.1 b.2)).2 = 0) : AnyZ n D X (cutS x b (rdcL b.1 b.2)).1 ↔ InZ n D X x ∧ ¬ InZ n D X b := by
  have e : b.1 = (n : Int) := k.2
  rw [e] at q ⊢
  unfold cutS at q ⊢
  by_cases h4 : (mtP x b).2 = 4
  · rw [if_pos h4, any_one]
    exact ⟨fun a => ⟨a, fun c => (mt_in hp h k).2 h4 ⟨a, c⟩⟩, fun a => a.1⟩
  · rw [if_neg h4] at q ⊢
    by_cases h0 : (mtP x b).2 = 0
    · rw [if_pos h0] at q ⊢
      rw [cut_in hp h (fun c hc => (rdc_ok hc).2) q, rdc_in hp k]
      constructor
      · rintro ⟨a, c, hc, d⟩
        exact ⟨a, fun f => d (f c hc)⟩
      · rintro ⟨a, d⟩
        refine ⟨a, ?_⟩
        by_cases f : ∃ c ∈ rdcL (n : Int) b.2, ¬ mtc D X c
        · exact f
        · exact absurd (fun c hc => by
            by_cases m : mtc D X c
            · exact m
            · exact absurd ⟨c, hc, m⟩ f) d
    · rw [if_neg h0] at q
      exact absurd q h0

theorem flat_in {α : Type} {f : α → Sq} {P : α → Prop} : ∀ {l : List α}, (∀ x ∈ l, (f x).2 = 0 → (AnyZ n D X (f x).1 ↔ P x)) → (flatS f l).2 = 0 → (AnyZ n D X (flatS f l).1 ↔ ∃ x ∈ l, P x)
  | [], _, _ => ⟨fun h => absurd h any_nil, fun ⟨_, h, _⟩ => by simp at h⟩
  | x :: r, h, q => by
    unfold flatS at q ⊢
    rw [any_seq q]
    obtain ⟨q1, q2⟩ := seqA_ok q
    rw [h x (List.mem_cons_self ..) q1, flat_in (fun y hy => h y (List.mem_cons_of_mem _ hy)) q2]
    constructor
    · rintro (a | ⟨y, hy, a⟩)
      · exact ⟨x, List.mem_cons_self .., a⟩
      · exact ⟨y, List.mem_cons_of_mem _ hy, a⟩
    · rintro ⟨y, hy, a⟩
      rcases List.mem_cons.1 hy with rfl | hy
      · exact Or.inl a
      · exact Or.inr ⟨y, hy, a⟩

theorem woS_in {b : Zp} {L : List Zp} (hp : Zo.Pt n D X 1099511627776) (hL : Ck (n : Int) L) (k : Ok1 (n : Int) b) (q : (woS b L).2 = 0) : AnyZ n D X (woS b L).1 ↔ AnyZ n D X L ∧ ¬ InZ n D X b := by
  unfold woS at q ⊢
  split
  · rename_i e
    rw [if_pos e] at q
    unfold woC at q ⊢
    rw [flat_in (P := fun x => InZ n D X x ∧ ¬ InZ n D X b) (fun x hx hq => cutS_in hp (hL x hx) k hq) q]
    exact ⟨fun ⟨x, h1, h2, h3⟩ => ⟨⟨x, h1, h2⟩, h3⟩, fun ⟨⟨x, h1, h2⟩, h3⟩ => ⟨x, h1, h2, h3⟩⟩
  · rename_i e
    rw [if_neg e] at q
    exact absurd q e

theorem mnP_in (hp : Zo.Pt n D X 1099511627776) : ∀ {M L : List Zp}, Ck (n : Int) L → Ck (n : Int) M → (mnP L M).2 = 0 → (AnyZ n D X (mnP L M).1 ↔ AnyZ n D X L ∧ ¬ AnyZ n D X M)
  | [], L, _, _, _ => ⟨fun h => ⟨h, any_nil⟩, fun h => h.1⟩
  | b :: r, L, hL, hM, q => by
    have hb := hM b (List.mem_cons_self ..)
    unfold mnP at q ⊢
    split
    · rename_i e
      rw [if_pos e] at q
      have e0 : (woS b L).2 = 0 := (colE_zero e).2
      rw [mnP_in hp (woS_ok hb hL).2.1 (fun y hy => hM y (List.mem_cons_of_mem _ hy)) q, woS_in hp hL hb e0]
      constructor
      · rintro ⟨⟨a, c⟩, d⟩
        refine ⟨a, ?_⟩
        rintro ⟨y, hy, f⟩
        rcases List.mem_cons.1 hy with rfl | hy
        · exact c f
        · exact d ⟨y, hy, f⟩
      · rintro ⟨a, c⟩
        exact ⟨⟨a, fun f => c ⟨b, List.mem_cons_self .., f⟩⟩, fun ⟨y, hy, f⟩ => c ⟨y, List.mem_cons_of_mem _ hy, f⟩⟩
    · rename_i e
      rw [if_neg e] at q
      exact absurd q e

theorem mtS_in {L M : List Zp} (hp : Zo.Pt n D X 1099511627776) (hL : Ck (n : Int) L) (hM : Ck (n : Int) M) (q : (mtS L M).2 = 0) : AnyZ n D X (mtS L M).1 ↔ AnyZ n D X L ∧ AnyZ n D X M := by
  unfold mtS at q ⊢
  rw [flat_in (P := fun x => InZ n D X x ∧ AnyZ n D X M) (fun x hx hq => by
    unfold mtR at hq ⊢
    rw [flat_in (P := fun y => InZ n D X x ∧ InZ n D X y) (fun y hy hr => em_in (mt_in hp (hL x hx) (hM y hy)).1 (mt_in hp (hL x hx) (hM y hy)).2 hr) hq]
    exact ⟨fun ⟨y, h1, h2, h3⟩ => ⟨h2, y, h1, h3⟩, fun ⟨h2, y, h1, h3⟩ => ⟨y, h1, h2, h3⟩⟩) q]
  exact ⟨fun ⟨x, h1, h2, h3⟩ => ⟨⟨x, h1, h2⟩, h3⟩, fun ⟨⟨x, h1, h2⟩, h3⟩ => ⟨x, h1, h2, h3⟩⟩
end
end Go.Proofs.YthjapmdfcbngmaaGreat

namespace Go.Proofs.YthjapmdfcbngmaaGreat
open Go.RowKit

section
variable {n : Nat} {D : Int} {X : Nat → Int}

theorem hu_top {l m : List Int} (h : VzM n l) (k : VzM n m) : Zo.Top n (huL l m) := ⟨by rw [huL_len]; exact h.hl, fun i j hi hj => by
  rw [hu_at1 h.hl hi hj]
  have := h.top hi hj
  have := k.top hi hj
  unfold imax; omega⟩

theorem hl_in {x y : Zp} (hp : Zo.Pt n D X 1099511627776) (h : Ok1 (n : Int) x) (k : Ok1 (n : Int) y) (a : InZ n D X x ∨ InZ n D X y) : InZ n D X (hlP x y).1 := by
  obtain ⟨ex, vx⟩ := h.vzn
  obtain ⟨ey, vy⟩ := k.vzn
  have hD := hp.pos
  rw [ex, ey]
  unfold InZ hlP
  simp only [Int.toNat_natCast]
  rw [clo_in hp (by omega) (hu_top vx vy)]
  intro i j hi hj
  rw [hu_at1 vx.hl hi hj]
  have t1 := vx.top hi hj
  have t2 := vy.top hi hj
  rcases a with a | a
  · exact Zo.mt_mono hD (by unfold imax; omega) (by unfold imax; omega) (a i j hi hj)
  · exact Zo.mt_mono hD (by unfold imax; omega) (by unfold imax; omega) (a i j hi hj)

theorem try_in {x y : Zp} (hp : Zo.Pt n D X 1099511627776) (h : Ok1 (n : Int) x) (k : Ok1 (n : Int) y) (q : (tryP x y).2 = 0) (b : (tryP x y).1.2 = true) : Ok1 (n : Int) (tryP x y).1.1 ∧ (InZ n D X (tryP x y).1.1 ↔ InZ n D X x ∨ InZ n D X y) := by
  unfold tryP at q b ⊢
  by_cases h0 : (hlP x y).2 = 0
  · rw [if_neg (fun f => f h0)] at q b ⊢
    by_cases m0 : (mnP [(hlP x y).1] [x, y]).2 = 0
    · rw [if_neg (fun f => f m0)] at q b ⊢
      have oh := hl_ok h k h0
      have e : (mnP [(hlP x y).1] [x, y]).1 = [] := List.eq_nil_of_length_eq_zero (of_decide_eq_true b)
      have key := mnP_in hp (Ck.one oh) (M := [x, y]) (fun z hz => by
        simp at hz
        rcases hz with rfl | rfl <;> assumption) m0
      rw [e, any_one] at key
      refine ⟨oh, fun a => ?_, fun a => hl_in hp h k a⟩
      by_cases c : InZ n D X x ∨ InZ n D X y
      · exact c
      · refine absurd (key.2 ⟨a, ?_⟩) any_nil
        rintro ⟨z, hz, f⟩
        simp at hz
        rcases hz with rfl | rfl
        · exact c (Or.inl f)
        · exact c (Or.inr f)
    · rw [if_pos m0] at q
      exact absurd q m0
  · rw [if_pos h0] at q
    exact absurd q h0

theorem any_cong {L M : List Zp} (h : ∀ z, z ∈ L ↔ z ∈ M) : AnyZ n D X L ↔ AnyZ n D X M := ⟨fun ⟨z, a, b⟩ => ⟨z, (h z).1 a, b⟩, fun ⟨z, a, b⟩ => ⟨z, (h z).2 a, b⟩⟩

theorem inR_in {x y : Zp} (hp : Zo.Pt n D X 1099511627776) (h : Ok1 (n : Int) x) (k : Ok1 (n : Int) y) (b : inR x.1 y.1 x.2 y.2 = true) (a : InZ n D X y) : InZ n D X x := by
  obtain ⟨ex, vx⟩ := h.vzn
  obtain ⟨ey, vy⟩ := k.vzn
  intro i j hi hj
  unfold inR inB at b
  simp only [Bool.and_eq_true, List.all_eq_true, List.mem_range, decide_eq_true_eq] at b
  have := b.2 (Zo.ix n i j) (by rw [vx.hl]; exact Zo.ix_lt hi hj)
  exact Zo.mt_mono hp.pos this (vx.top hi hj) (a i j hi hj)

theorem mem_erase_gz {L : List Zp} {i : Nat} {z : Zp} (h : z ∈ L.eraseIdx i) : z ∈ L := List.mem_of_mem_eraseIdx h

theorem con_in {L : List Zp} {i : Nat} (hp : Zo.Pt n D X 1099511627776) (hL : Ck (n : Int) L) (hi : i < L.length) (h : conB L i = true) : AnyZ n D X (L.eraseIdx i) ↔ AnyZ n D X L := by
  refine ⟨fun ⟨z, a, b⟩ => ⟨z, mem_erase_gz a, b⟩, fun ⟨z, a, b⟩ => ?_⟩
  unfold conB at h
  rw [List.any_eq_true] at h
  obtain ⟨k, hk, hc⟩ := h
  rw [List.mem_range] at hk
  unfold coB at hc
  simp only [Bool.and_eq_true, decide_eq_true_eq] at hc
  obtain ⟨hne, hin⟩ := hc
  rw [gz_eq hk, gz_eq hi] at hin
  obtain ⟨t, ht, rfl⟩ := List.getElem_of_mem a
  by_cases e : t = i
  · subst e
    exact ⟨L[k], List.mem_eraseIdx_iff_getElem.2 ⟨k, hk, hne, rfl⟩, inR_in hp (hL _ (List.getElem_mem hk)) (hL _ (List.getElem_mem hi)) hin b⟩
  · exact ⟨L[t], List.mem_eraseIdx_iff_getElem.2 ⟨t, ht, e, rfl⟩, b⟩

theorem Ck.erase {N : Int} {L : List Zp} (h : Ck N L) (i : Nat) : Ck N (L.eraseIdx i) := fun z hz => h z (mem_erase_gz hz)

theorem wpP_in (hp : Zo.Pt n D X 1099511627776) : ∀ {m i : Nat} {L : List Zp}, Ck (n : Int) L → Ck (n : Int) (wpP m i L) ∧ (AnyZ n D X (wpP m i L) ↔ AnyZ n D X L)
  | 0, _, _, h => ⟨h, Iff.rfl⟩
  | m + 1, i, L, h => by
    unfold wpP
    by_cases hi : i < L.length
    · rw [if_pos hi]
      by_cases hc : conB L i = true
      · rw [if_pos hc]
        have := wpP_in hp (m := m) (i := i) (h.erase i)
        exact ⟨this.1, this.2.trans (con_in hp h hi hc)⟩
      · rw [if_neg hc]
        exact wpP_in hp h
    · rw [if_neg hi]; exact ⟨h, Iff.rfl⟩
end
end Go.Proofs.YthjapmdfcbngmaaGreat
