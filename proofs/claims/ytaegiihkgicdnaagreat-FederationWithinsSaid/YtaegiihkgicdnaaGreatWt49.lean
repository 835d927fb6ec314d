/- A part. -/
import Derived.Test.YtaegiihkgicdnaaGreatWt48
import Derived.Test.YtaegiihkgicdnaaGreatWt18

namespace Go.Proofs.YtaegiihkgicdnaaGreat
open Go.RowKit

def Ok1 (N : Int) (z : Zp) : Prop := chkE z.1 z.2 = 0 ∧ z.1 = N

def Ck (N : Int) (L : List Zp) : Prop := ∀ z ∈ L, Ok1 N z

theorem Ck.nil (N : Int) : Ck N [] := fun z h => by simp at h

theorem Ck.app {N : Int} {a b : List Zp} (h : Ck N a) (k : Ck N b) : Ck N (a ++ b) := fun z hz => (List.mem_append.1 hz).elim (h z) (k z)

theorem Ck.one {N : Int} {z : Zp} (h : Ok1 N z) : Ck N [z] := fun y hy => by rw [List.mem_singleton] at hy; subst hy; exact h

theorem Ck.seq {N : Int} {a b : Sq} (h : Ck N a.1) (k : Ck N b.1) : Ck N (seqA a b).1 := by
  unfold seqA; split
  · exact h.app k
  · exact h

theorem Ck.flat {α : Type} {N : Int} {f : α → Sq} : ∀ {l : List α}, (∀ x ∈ l, Ck N (f x).1) → Ck N (flatS f l).1
  | [], _ => Ck.nil N
  | x :: _, h => Ck.seq (h x (List.mem_cons_self ..)) (Ck.flat fun y hy => h y (List.mem_cons_of_mem _ hy))

theorem Ck.em {N : Int} {r : Zp × Int} (h : r.2 = 0 → Ok1 N r.1) : Ck N (emS r).1 := by
  unfold emS oneS
  split
  · exact Ck.nil N
  · split
    · rename_i q; exact Ck.one (h q)
    · exact Ck.nil N

theorem Ck.ones {N : Int} {r : Zp × Int} (h : r.2 = 0 → Ok1 N r.1) : Ck N (oneS r).1 := by
  unfold oneS
  split
  · rename_i q; exact Ck.one (h q)
  · exact Ck.nil N

structure VzM (n : Nat) (l : List Int) : Prop where
  hn : n ≤ 10
  hl : l.length = (n + 1) * (n + 1)
  hc : chkE (n : Int) l = 0

theorem Ok1.vz {N : Int} {z : Zp} (h : Ok1 N z) : ∃ n : Nat, N = n ∧ z = ((n : Int), z.2) ∧ VzM n z.2 := by
  obtain ⟨n, e, hn, hl, _⟩ := chk_ok h.1
  refine ⟨n, h.2.symm.trans e, by rw [← e], hn, hl, ?_⟩
  rw [← e]; exact h.1

theorem VzM.ok {n : Nat} {l : List Int} (h : VzM n l) : Ok1 (n : Int) ((n : Int), l) := ⟨h.hc, rfl⟩

theorem VzM.wl {n : Nat} {l : List Int} (h : VzM n l) : ∀ a b, a ≤ n → b ≤ n → Zo.Wl (Zo.At n l a b) := wl_of h.hl (chk_64 h.hc).2

theorem VzM.cl {n : Nat} {l : List Int} (h : VzM n l) : ∃ D, Zo.Cl n l D := chk_cl h.hn h.hl h.hc

theorem vz_clo {n : Nat} {l : List Int} (hn : n ≤ 10) (hl : l.length = (n + 1) * (n + 1)) (hv : ∀ a b, a ≤ n → b ≤ n → Zo.Wl (Zo.At n l a b)) (h : cloE n l = 0) : VzM n (Zo.clo n l) := ⟨hn, by rw [Zo.clo_length, hl], clo_chk hn hl hv h⟩

theorem over_no4 {n : Nat} {l c : List Int} (hn : n ≤ 10) (hl : l.length = (n + 1) * (n + 1)) (hv : ∀ a b, a ≤ n → b ≤ n → Zo.Wl (Zo.At n l a b)) (hc : VzM n c) (h : Zo.Le n c l) : cloE n l ≠ 4 ∧ Zo.Le n c (Zo.clo n l) := by
  obtain ⟨D, hD⟩ := hc.cl
  obtain ⟨k1, k2⟩ := Zo.clo_over hn hl hv hD h
  refine ⟨?_, k2⟩
  unfold cloE
  rw [cloB_iff.2 k1]
  simp only [Bool.false_eq_true, if_false]
  split <;> omega

theorem wl_one : Zo.Wl 1 := by unfold Zo.Wl; omega

theorem chk_row {n : Nat} {l : List Int} (h : VzM n l) {a : Nat} (ha : a ≤ n) : Zo.At n l 0 a ≤ 1 := by
  obtain ⟨D, hD⟩ := h.cl
  exact hD.row a ha

theorem dn_vz {n : Nat} {l : List Int} (h : VzM n l) : dnE n l ≠ 4 ∧ (dnE n l = 0 → VzM n (Zo.clo n (dnL n l))) := by
  have e : dnE (n : Int) l = cloE n (dnL n l) := by unfold dnE; rw [if_pos h.hc]; simp
  have hl : (dnL n l).length = (n + 1) * (n + 1) := by rw [dnL_len, h.hl]
  have hv : ∀ a b, a ≤ n → b ≤ n → Zo.Wl (Zo.At n (dnL n l) a b) := fun a b ha hb => by
    rw [dnL_at h.hl ha hb]; split
    · exact wl_one
    · exact h.wl a b ha hb
  rw [e]
  refine ⟨(over_no4 h.hn hl hv h fun a b ha hb => ?_).1, fun q => vz_clo h.hn hl hv q⟩
  rw [dnL_at h.hl ha hb]; split
  · rename_i q; rw [q.1]; exact chk_row h hb
  · exact Int.le_refl _

theorem dn_ok {N : Int} {z : Zp} (h : Ok1 N z) : (dnP z).2 ≠ 4 ∧ ((dnP z).2 = 0 → Ok1 N (dnP z).1) := by
  obtain ⟨n, rfl, e, v⟩ := h.vz
  rw [e]
  obtain ⟨k1, k2⟩ := dn_vz v
  exact ⟨k1, fun q => (k2 q).ok⟩

theorem me_fold1 (l m : List Int) : ∀ s, s ≤ l.length → ((List.range s).foldl (meS m) l).length = l.length ∧ ∀ k, Zo.gt ((List.range s).foldl (meS m) l) k = if k < s then imin (Zo.gt l k) (Zo.gt m k) else Zo.gt l k := by
  intro s
  induction s with
  | zero => intro _; exact ⟨rfl, fun k => by simp⟩
  | succ s ih =>
    intro hs
    obtain ⟨h1, h2⟩ := ih (by omega)
    rw [Zo.fold_succ]
    generalize (List.range s).foldl (meS m) l = u at *
    refine ⟨by simp [meS, h1], fun k => ?_⟩
    unfold meS
    rw [Zo.gt_set _ (by omega)]
    by_cases c : k = s
    · subst c
      rw [if_pos rfl, if_pos (by omega), h2 k, if_neg (by omega)]
    · rw [if_neg c, h2 k]
      by_cases d : k < s
      · rw [if_pos d, if_pos (by omega)]
      · rw [if_neg d, if_neg (by omega)]

theorem me_at1 {n : Nat} {l m : List Int} (hl : l.length = (n + 1) * (n + 1)) {a b : Nat} (ha : a ≤ n) (hb : b ≤ n) : Zo.At n (meL l m) a b = imin (Zo.At n l a b) (Zo.At n m a b) := by
  unfold meL Zo.At
  rw [(me_fold1 l m l.length (Nat.le_refl _)).2, if_pos (by rw [hl]; exact Zo.ix_lt ha hb)]

theorem wl_min {x y : Int} (h : Zo.Wl x) (k : Zo.Wl y) : Zo.Wl (imin x y) := by unfold imin; unfold Zo.Wl at *; omega

theorem tw_vz {n : Nat} {l m : List Int} (h : VzM n l) (k : VzM n m) : twB n n l m = true := by unfold twB; simp [h.hc, k.hc]

theorem mt_vz {n : Nat} {l m : List Int} (h : VzM n l) (k : VzM n m) (q : zmE n n l m = 0) : VzM n (Zo.clo n (meL l m)) ∧ Zo.Le n (Zo.clo n (meL l m)) l ∧ Zo.Le n (Zo.clo n (meL l m)) m := by
  have e : zmE (n : Int) n l m = cloE n (meL l m) := by unfold zmE; rw [if_pos (tw_vz h k)]; simp
  have hl : (meL l m).length = (n + 1) * (n + 1) := by rw [meL_len, h.hl]
  have hv : ∀ a b, a ≤ n → b ≤ n → Zo.Wl (Zo.At n (meL l m) a b) := fun a b ha hb => by
    rw [me_at1 h.hl ha hb]; exact wl_min (h.wl a b ha hb) (k.wl a b ha hb)
  have le : Zo.Le n (Zo.clo n (meL l m)) (meL l m) := Zo.le_clo hl
  refine ⟨vz_clo h.hn hl hv (by rw [← e]; exact q), fun a b ha hb => ?_, fun a b ha hb => ?_⟩
  · have := le a b ha hb
    rw [me_at1 h.hl ha hb] at this
    unfold imin at this; omega
  · have := le a b ha hb
    rw [me_at1 h.hl ha hb] at this
    unfold imin at this; omega

theorem mt_ok {N : Int} {x y : Zp} (h : Ok1 N x) (k : Ok1 N y) (q : (mtP x y).2 = 0) : Ok1 N (mtP x y).1 := by
  obtain ⟨n, rfl, e, v⟩ := h.vz
  obtain ⟨n', e0, e', v'⟩ := k.vz
  have : n' = n := by omega
  subst this
  rw [e, e'] at q ⊢
  exact (mt_vz v v' q).1.ok

theorem okC_wl {n : Nat} {c : Con} (h : okC n c = true) : c.1.toNat ≤ n ∧ c.2.1.toNat ≤ n ∧ Zo.Wl c.2.2 := by
  unfold okC at h
  simp only [Bool.and_eq_true, decide_eq_true_eq] at h
  exact ⟨by omega, by omega, (vl_of_lv h.2).wl⟩

theorem an1_at {n : Nat} {c : Con} {l : List Int} (hl : l.length = (n + 1) * (n + 1)) (h : okC n c = true) {a b : Nat} (hb : b ≤ n) : Zo.At n (anL n [c] l) a b = if a = c.1.toNat ∧ b = c.2.1.toNat then imin (Zo.At n l c.1.toNat c.2.1.toNat) c.2.2 else Zo.At n l a b := by
  obtain ⟨p1, p2, _⟩ := okC_wl h
  exact Zo.At_set hl p1 p2 _ hb

theorem an_cases {n : Nat} {c : Con} {l : List Int} (h : VzM n l) : anG n [c] l = 2 ∨ (okC n c = true ∧ anG n [c] l = cloE n (anL n [c] l)) := by
  unfold anG
  rw [if_pos h.hc, Int.toNat_natCast]
  unfold anE
  by_cases q : okC n c = true
  · right
    refine ⟨q, ?_⟩
    rw [if_pos (by simp [q])]
  · left
    rw [if_neg (by simp [q])]

theorem an_wl1 {n : Nat} {c : Con} {l : List Int} (h : VzM n l) (q : okC n c = true) : ∀ a b, a ≤ n → b ≤ n → Zo.Wl (Zo.At n (anL n [c] l) a b) := fun a b ha hb => by
  obtain ⟨p1, p2, p3⟩ := okC_wl q
  rw [an1_at h.hl q hb]
  split
  · exact wl_min (h.wl _ _ p1 p2) p3
  · exact h.wl a b ha hb

theorem an_vz {n : Nat} {c : Con} {l : List Int} (h : VzM n l) (q : anG n [c] l = 0) : VzM n (Zo.clo n (anL n [c] l)) := by
  rcases an_cases (c := c) h with k | ⟨k1, k2⟩
  · rw [q] at k; omega
  · exact vz_clo h.hn (by rw [anL_len, h.hl]) (an_wl1 h k1) (by rw [← k2]; exact q)

theorem an_ok {N : Int} {x : Zp} {c : Con} (h : Ok1 N x) (q : (anP x [c]).2 = 0) : Ok1 N (anP x [c]).1 := by
  obtain ⟨n, rfl, e, v⟩ := h.vz
  rw [e] at q ⊢
  exact (an_vz v q).ok

theorem an_over {n : Nat} {c : Con} {r k : List Int} (h : VzM n r) (hk : VzM n k) (hle : Zo.Le n k r) (hc : okC n c = true → Zo.At n k c.1.toNat c.2.1.toNat ≤ c.2.2) : anG n [c] r ≠ 4 ∧ (anG n [c] r = 0 → Zo.Le n k (Zo.clo n (anL n [c] r))) := by
  rcases an_cases (c := c) h with q | ⟨q1, q2⟩
  · rw [q]; exact ⟨by omega, fun e => by omega⟩
  · obtain ⟨p1, p2, _⟩ := okC_wl q1
    have le : Zo.Le n k (anL n [c] r) := fun a b ha hb => by
      rw [an1_at h.hl q1 hb]
      split
      · rename_i e
        have h1 := hle _ _ p1 p2
        have h2 := hc q1
        rw [e.1, e.2]
        unfold imin; omega
      · exact hle a b ha hb
    obtain ⟨k1, k2⟩ := over_no4 h.hn (by rw [anL_len, h.hl]) (an_wl1 h q1) hk le
    rw [q2]
    exact ⟨k1, fun _ => k2⟩

theorem rdc_at {n : Nat} {l : List Int} (h : VzM n l) {c : Con} (hc : c ∈ rdcL n l) : c.2.2 = Zo.At n l c.1.toNat c.2.1.toNat := by
  unfold rdcL at hc
  rw [if_pos h.hc, Int.toNat_natCast] at hc
  unfold redL redS redT at hc
  simp only [List.mem_flatMap, List.mem_range] at hc
  obtain ⟨i, hi, j, hj, hm⟩ := hc
  split at hm
  · rw [List.mem_singleton] at hm
    subst hm
    simp
  · cases hm
end Go.Proofs.YtaegiihkgicdnaaGreat

namespace Go.Proofs.YtaegiihkgicdnaaGreat
open Go.RowKit

theorem seq_no4 {a b : Sq} (h : a.2 ≠ 4) (k : b.2 ≠ 4) : (seqA a b).2 ≠ 4 := by unfold seqA; split <;> assumption

theorem flat_no4 {α : Type} {f : α → Sq} : ∀ {l : List α}, (∀ x ∈ l, (f x).2 ≠ 4) → (flatS f l).2 ≠ 4
  | [], _ => by simp [flatS]
  | x :: r, h => seq_no4 (h x (List.mem_cons_self ..)) (flat_no4 fun y hy => h y (List.mem_cons_of_mem _ hy))

theorem em_no4 (r : Zp × Int) : (emS r).2 ≠ 4 := by
  unfold emS oneS
  split
  · simp
  · split
    · simp
    · assumption

theorem co_no4 {s : Sq} (h : s.2 ≠ 4) : colE s.1 s.2 ≠ 4 := by unfold colE; split <;> omega

theorem seq_len (a b : Sq) : (seqA a b).1.length ≤ a.1.length + b.1.length := by
  unfold seqA; split
  · simp
  · omega

theorem flat_len1 {α : Type} {f : α → Sq} {k : Nat} : ∀ {l : List α}, (∀ x ∈ l, (f x).1.length ≤ k) → (flatS f l).1.length ≤ l.length * k
  | [], _ => by simp [flatS]
  | x :: r, h => by
    have h1 := h x (List.mem_cons_self ..)
    have h2 := flat_len1 fun y hy => h y (List.mem_cons_of_mem _ hy)
    have h3 := seq_len (f x) (flatS f r)
    show (seqA (f x) (flatS f r)).1.length ≤ _
    rw [List.length_cons, Nat.add_mul]
    omega

theorem em_len (r : Zp × Int) : (emS r).1.length ≤ 1 := by
  unfold emS oneS
  split
  · simp
  · split <;> simp

theorem one_len (r : Zp × Int) : (oneS r).1.length ≤ 1 := by unfold oneS; split <;> simp

theorem cutR_ok {n : Nat} {b k : List Int} (hb : VzM n b) (hk : VzM n k) (hkb : Zo.Le n k b) : ∀ {cs : List Con} {r : List Int}, (∀ c ∈ cs, c ∈ rdcL n b) → VzM n r → Zo.Le n k r → (cutR ((n : Int), r) cs).2 ≠ 4 ∧ Ck n (cutR ((n : Int), r) cs).1 ∧ (cutR ((n : Int), r) cs).1.length ≤ cs.length
  | [], r, _, _, _ => ⟨by simp [cutR], Ck.nil _, by simp [cutR]⟩
  | c :: cs, r, hc, hr, hkr => by
    have ov := an_over (c := c) hr hk hkr (fun q => by
      rw [rdc_at hb (hc c (List.mem_cons_self ..))]
      obtain ⟨p1, p2, _⟩ := okC_wl q
      exact hkb _ _ p1 p2)
    have oc : (anP ((n : Int), r) [opC c]).2 = 0 → Ok1 n (anP ((n : Int), r) [opC c]).1 := fun q => an_ok hr.ok q
    have l1 := em_len (anP ((n : Int), r) [opC c])
    have e : cutR ((n : Int), r) (c :: cs) = seqA (emS (anP ((n : Int), r) [opC c])) (if (anP ((n : Int), r) [c]).2 = 0 then cutR (anP ((n : Int), r) [c]).1 cs else ([], (anP ((n : Int), r) [c]).2)) := rfl
    rw [e]
    by_cases q : (anP ((n : Int), r) [c]).2 = 0
    · rw [if_pos q]
      obtain ⟨i1, i2, i3⟩ := cutR_ok hb hk hkb (cs := cs) (fun d hd => hc d (List.mem_cons_of_mem _ hd)) (an_vz hr q) (ov.2 q)
      have el := seq_len (emS (anP ((n : Int), r) [opC c])) (cutR (anP ((n : Int), r) [c]).1 cs)
      refine ⟨seq_no4 (em_no4 _) i1, Ck.seq (Ck.em oc) i2, ?_⟩
      rw [List.length_cons]
      have i3' : (cutR (anP ((n : Int), r) [c]).1 cs).1.length ≤ cs.length := i3
      omega
    · rw [if_neg q]
      have el := seq_len (emS (anP ((n : Int), r) [opC c])) ([], (anP ((n : Int), r) [c]).2)
      refine ⟨seq_no4 (em_no4 _) ov.1, Ck.seq (Ck.em oc) (Ck.nil _), ?_⟩
      rw [List.length_cons]
      simp at el
      omega

theorem cutS_ok {N : Int} {x b : Zp} (hx : Ok1 N x) (hb : Ok1 N b) : (cutS x b (rdcL b.1 b.2)).2 ≠ 4 ∧ Ck N (cutS x b (rdcL b.1 b.2)).1 ∧ (cutS x b (rdcL b.1 b.2)).1.length ≤ 121 := by
  unfold cutS
  split
  · exact ⟨by simp, Ck.one hx, by simp⟩
  · rename_i h4
    split
    · rename_i h0
      obtain ⟨n, rfl, e, v⟩ := hx.vz
      obtain ⟨n', e0, e', v'⟩ := hb.vz
      have : n' = n := by omega
      subst this
      rw [e, e'] at h0 ⊢
      obtain ⟨k1, k2, k3⟩ := mt_vz v v' h0
      obtain ⟨i1, i2, i3⟩ := cutR_ok v' k1 k3 (cs := rdcL (n' : Int) b.2) (fun c hc => hc) v k2
      exact ⟨i1, i2, Nat.le_trans i3 rdc_len⟩
    · exact ⟨h4, Ck.nil _, by simp⟩

theorem rdc_zero {N : Int} {b : Zp} (h : Ok1 N b) : rdcE b.1 b.2 = 0 := by unfold rdcE; rw [if_pos h.1]

theorem woS_ok {N : Int} {b : Zp} {L : List Zp} (hb : Ok1 N b) (hL : Ck N L) : (woS b L).2 ≠ 4 ∧ Ck N (woS b L).1 ∧ (woS b L).1.length ≤ L.length * 121 := by
  unfold woS woC
  rw [if_pos (rdc_zero hb)]
  exact ⟨flat_no4 fun x hx => (cutS_ok (hL x hx) hb).1, Ck.flat fun x hx => (cutS_ok (hL x hx) hb).2.1, flat_len1 fun x hx => (cutS_ok (hL x hx) hb).2.2⟩

theorem mnP_ok {N : Int} : ∀ {M a : List Zp}, Ck N M → Ck N a → (mnP a M).2 ≠ 4 ∧ Ck N (mnP a M).1
  | [], a, _, ha => ⟨by simp [mnP], ha⟩
  | z :: r, a, hM, ha => by
    have k := woS_ok (hM z (List.mem_cons_self ..)) ha
    unfold mnP
    split
    · exact mnP_ok (fun y hy => hM y (List.mem_cons_of_mem _ hy)) k.2.1
    · exact ⟨co_no4 k.1, Ck.nil _⟩

theorem mnP_one_len {N : Int} {a : List Zp} {b : Zp} (hb : Ok1 N b) (ha : Ck N a) : (mnP a [b]).1.length ≤ a.length * 121 := by
  have k := woS_ok hb ha
  unfold mnP
  split
  · exact k.2.2
  · simp

theorem mtS_ok {N : Int} {L M : List Zp} (hL : Ck N L) (hM : Ck N M) : (mtS L M).2 ≠ 4 ∧ Ck N (mtS L M).1 := ⟨flat_no4 fun _ _ => flat_no4 fun _ _ => em_no4 _, Ck.flat fun x hx => Ck.flat fun y hy => Ck.em fun q => mt_ok (hL x hx) (hM y hy) q⟩

theorem mtS_len (g p : Zp) : (mtS [g] [p]).1.length ≤ 1 := by
  unfold mtS mtR
  rw [flatS_one, flatS_one]
  exact em_len _

theorem eaS_dn {N : Int} {L : List Zp} (hL : Ck N L) : (eaS dnP L).2 ≠ 4 ∧ Ck N (eaS dnP L).1 ∧ (eaS dnP L).1.length ≤ L.length * 1 :=
  ⟨flat_no4 fun x hx => by
    unfold oneS
    split
    · simp
    · exact (dn_ok (hL x hx)).1, Ck.flat fun x hx => Ck.ones (dn_ok (hL x hx)).2, flat_len1 fun x _ => one_len _⟩

def RQ (r s : List Zp × Int) : Prop := r.2 = s.2 ∧ (r.2 = 0 → r.1 = s.1)

theorem RQ.refl (r : List Zp × Int) : RQ r r := ⟨rfl, fun _ => rfl⟩

theorem RQ.th {r s : List Zp × Int} {k k' : List Zp → List Zp × Int} (h : RQ r s) (hk : s.2 = 0 → RQ (k s.1) (k' s.1)) : RQ (thE r k) (thE s k') := by
  unfold thE
  by_cases q : s.2 = 0
  · rw [if_pos q, if_pos (h.1.trans q), h.2 (h.1.trans q)]
    exact hk q
  · rw [if_neg q, if_neg (fun e => q (h.1.symm.trans e))]
    exact ⟨h.1, fun _ => rfl⟩

theorem thE_assoc (r : List Zp × Int) (k f : List Zp → List Zp × Int) : thE (thE r k) f = thE r fun x => thE (k x) f := by
  unfold thE
  by_cases q : r.2 = 0
  · simp only [q, if_true]
  · simp only [q, if_false]

theorem thE_two {r : List Zp × Int} {k : List Zp → List Zp × Int} (h : (thE r k).2 = 0) : r.2 = 0 ∧ (k r.1).2 = 0 ∧ (thE r k) = k r.1 := by
  unfold thE at h ⊢
  by_cases q : r.2 = 0
  · rw [if_pos q] at h ⊢; exact ⟨q, h, rfl⟩
  · rw [if_neg q] at h; exact absurd h q

theorem thE_no4 {r : List Zp × Int} {k : List Zp → List Zp × Int} (h : r.2 ≠ 4) (hk : r.2 = 0 → (k r.1).2 ≠ 4) : (thE r k).2 ≠ 4 := by
  unfold thE
  split
  · rename_i q; exact hk q
  · exact h

theorem ckq2 {N : Int} {a b : List Zp} (ha : Ck N a) (hb : Ck N b) (la : a.length ≤ 2000) (lb : b.length ≤ 2000) : chkG [a, b] = 0 := by
  rw [chkG_short (by omega), ckL_iff]
  intro z hz
  have hab := ha.app hb
  have k := hab z hz
  refine ⟨k.1, ?_⟩
  cases e : a ++ b with
  | nil => rw [e] at hz; simp at hz
  | cons y r =>
    have hy := hab y (by rw [e]; exact List.mem_cons_self ..)
    simp only [List.headD_cons]
    exact k.2.trans hy.2.symm

theorem ckq1 {N : Int} {a : List Zp} (ha : Ck N a) (la : a.length ≤ 2000) : rchk a = 0 := by
  have := ckq2 ha (Ck.nil N) la (by simp)
  rw [chkG_short (by simp; omega), List.append_nil] at this
  unfold rchk
  rw [if_neg (by omega)]; exact this

theorem mi_eq {N : Int} {a b : List Zp} (ha : Ck N a) (hb : Ck N b) (la : a.length ≤ 2000) (lb : b.length ≤ 2000) : minR a b = mnP a b := by
  unfold minR ansE
  rw [if_pos (ckq2 ha hb la lb)]

theorem me_eq {N : Int} {a b : List Zp} (ha : Ck N a) (hb : Ck N b) (la : a.length ≤ 2000) (lb : b.length ≤ 2000) : meeR a b = coR (mtS a b) := by
  unfold meeR ansE coR
  rw [if_pos (ckq2 ha hb la lb)]

theorem ua_eq {N : Int} {a : List Zp} (ha : Ck N a) (la : a.length ≤ 2000) : uaR dnP a = coR (eaS dnP a) := by
  unfold uaR coR
  rw [if_pos (ckq1 ha la), ua_ea fun z hz => (dn_ok (ha z hz)).1]

theorem ua_one {N : Int} {b : Zp} (hb : Ok1 N b) : RQ (uaR dnP [b]) (dnR b) := by
  rw [ua_eq (Ck.one hb) (by simp)]
  unfold coR dnR eaS
  rw [flatS_one]
  unfold oneS
  split
  · rename_i q; exact ⟨by rw [q]; rfl, fun _ => rfl⟩
  · rename_i q; exact ⟨rfl, fun e => absurd e q⟩

theorem dnR_ok {N : Int} {b : Zp} (hb : Ok1 N b) (h : (dnR b).2 = 0) : Ok1 N (dnP b).1 := (dn_ok hb).2 h

theorem co_len {s : Sq} (h : (coR s).2 = 0) : (coR s).1.length ≤ 2000 := colE_len h

theorem av_ok {N : Int} {g z b : Zp} (hg : Ok1 N g) (hz : Ok1 N z) (hb : Ok1 N b) : (avP g [z] b).2 ≠ 4 ∧ ((avP g [z] b).2 = 0 → Ck N (avP g [z] b).1 ∧ (avP g [z] b).1.length ≤ 2000) := by
  have D1 : (dnR b).2 ≠ 4 := (dn_ok hb).1
  constructor
  · unfold avP
    refine thE_no4 D1 fun q1 => ?_
    have o1 := dnR_ok hb q1
    refine thE_no4 (mnP_ok (Ck.one o1) (Ck.one hz)).1 fun q2 => thE_no4 (co_no4 (mtS_ok (Ck.one hg) (Ck.one o1)).1) fun q3 => thE_no4 (mnP_ok (Ck.one hb) (mtS_ok (Ck.one hg) (Ck.one o1)).2).1 fun q4 => thE_no4 (co_no4 (eaS_dn (mnP_ok (Ck.one hb) (mtS_ok (Ck.one hg) (Ck.one o1)).2).2).1) fun q5 => by simp
  · intro h
    unfold avP at h ⊢
    obtain ⟨q1, h, e1⟩ := thE_two h
    rw [e1]
    have o1 := dnR_ok hb q1
    obtain ⟨q2, h, e2⟩ := thE_two h
    rw [e2]
    obtain ⟨q3, h, e3⟩ := thE_two h
    rw [e3]
    obtain ⟨q4, h, e4⟩ := thE_two h
    rw [e4]
    obtain ⟨q5, h, e5⟩ := thE_two h
    rw [e5]
    have m1 := mtS_ok (Ck.one hg) (Ck.one o1)
    have m2 := mnP_ok (Ck.one hb) m1.2
    have m3 := eaS_dn m2.2
    have n1 := mnP_ok (Ck.one o1) (Ck.one hz)
    have l1 := mnP_one_len o1 (Ck.one hz)
    have l2 := mnP_one_len hb m1.2
    have l3 := mtS_len g (dnP b).1
    have l4 := m3.2.2
    refine ⟨n1.2.app m3.2.1, ?_⟩
    show ((mnP [z] [(dnP b).1]).1 ++ (eaS dnP (mnP (mtS [g] [(dnP b).1]).1 [b]).1).1).length ≤ 2000
    rw [List.length_append]
    simp only [List.length_cons, List.length_nil] at l1
    have l5 : (mtS [g] [(dnP b).1]).1.length * 121 ≤ 1 * 121 := Nat.mul_le_mul l3 (Nat.le_refl _)
    omega

theorem bef_av {N : Int} {g z b : Zp} {l : List Zp} (hg : Ok1 N g) (hz : Ok1 N z) (hb : Ok1 N b) (hl : Ck N l) (ll : l.length ≤ 2000) : RQ (befT g [z] b l) (thE (avP g [z] b) fun a => coR (mtS l a)) := by
  have AV := av_ok hg hz hb
  unfold befT
  unfold avP at AV ⊢
  rw [thE_assoc]
  refine RQ.th (ua_one hb) fun q1 => ?_
  have o1 := dnR_ok hb q1
  have c1 : Ck N (dnR b).1 := Ck.one o1
  have k1 : (dnR b).1.length ≤ 2000 := by simp [dnR]
  rw [thE_ok q1] at AV
  rw [thE_assoc, mi_eq (Ck.one hz) c1 (by simp) k1]
  refine RQ.th (RQ.refl _) fun q2 => ?_
  rw [thE_ok q2] at AV
  rw [thE_assoc, me_eq (Ck.one hg) c1 (by simp) k1]
  refine RQ.th (RQ.refl _) fun q3 => ?_
  rw [thE_ok q3] at AV
  have m1 := mtS_ok (Ck.one hg) c1
  have s1 := co_len q3
  have e3 : (coR (mtS [g] (dnR b).1)).1 = (mtS [g] (dnR b).1).1 := rfl
  rw [e3] at s1 AV ⊢
  rw [thE_assoc, mi_eq m1.2 (Ck.one hb) s1 (by simp)]
  refine RQ.th (RQ.refl _) fun q4 => ?_
  rw [thE_ok q4] at AV
  have m2 := mnP_ok (Ck.one hb) m1.2
  have s2 : (mnP (mtS [g] (dnR b).1).1 [b]).1.length ≤ 2000 := mnP_one q4
  rw [thE_assoc, ua_eq m2.2 s2]
  refine RQ.th (RQ.refl _) fun q5 => ?_
  rw [thE_ok q5] at AV
  obtain ⟨v1, v2⟩ := AV.2 rfl
  rw [thE_ok rfl, me_eq hl v1 ll v2]
  exact RQ.refl _

theorem bef_re {N : Int} {g z : Zp} (hg : Ok1 N g) (hz : Ok1 N z) : ∀ {M l : List Zp}, Ck N M → Ck N l → l.length ≤ 2000 → RQ (befL g [z] M l) (reS g [z] M l) ∧ (reS g [z] M l).2 ≠ 4
  | [], l, _, _, _ => ⟨RQ.refl _, by simp [reS]⟩
  | b :: r, l, hM, hl, ll => by
    have hb := hM b (List.mem_cons_self ..)
    have hr : Ck N r := fun y hy => hM y (List.mem_cons_of_mem _ hy)
    have AV := av_ok hg hz hb
    have e : reS g [z] (b :: r) l = thE (thE (avP g [z] b) fun a => coR (mtS l a)) (reS g [z] r) := by rw [thE_assoc]; rfl
    have go : (thE (avP g [z] b) fun a => coR (mtS l a)).2 = 0 → Ck N (thE (avP g [z] b) fun a => coR (mtS l a)).1 ∧ (thE (avP g [z] b) fun a => coR (mtS l a)).1.length ≤ 2000 := fun q => by
      obtain ⟨q1, q2, e2⟩ := thE_two q
      rw [e2]
      exact ⟨(mtS_ok hl (AV.2 q1).1).2, co_len q2⟩
    rw [e]
    refine ⟨RQ.th (bef_av hg hz hb hl ll) fun q => (bef_re hg hz hr (go q).1 (go q).2).1, ?_⟩
    refine thE_no4 (thE_no4 AV.1 fun q => co_no4 (mtS_ok hl (AV.2 q).1).1) fun q => (bef_re hg hz hr (go q).1 (go q).2).2

theorem befR_re {N : Int} {g : Zp} {M : List Zp} (hg : Ok1 N g) (hM : Ck N M) : RQ (befR g M) (reP g M) ∧ (reP g M).2 ≠ 4 := by
  unfold befR reP
  refine ⟨RQ.th (ua_one hg) fun q => ?_, thE_no4 (dn_ok hg).1 fun q => ?_⟩
  · have o := dnR_ok hg q
    exact (bef_re hg o hM (Ck.one o) (by simp)).1
  · have o := dnR_ok hg q
    exact (bef_re hg o hM (Ck.one o) (by simp)).2

theorem zsS_eq : ∀ l : List Zp, zsS l = (l, 0)
  | [] => rfl
  | x :: r => by
    show seqA (emS (x, 0)) (zsS r) = _
    rw [zsS_eq r]
    simp [emS, oneS, seqA]

theorem befS_eq {N : Int} {g : Zp} {M : List Zp} (hg : Ok1 N g) (hM : Ck N M) : befS (befR g M) = reP g M := by
  obtain ⟨⟨h1, h2⟩, h4⟩ := befR_re hg hM
  unfold befS
  by_cases q : (befR g M).2 = 0
  · have e1 : (reP g M) = ((befR g M).1, 0) := by rw [h2 q]; exact Prod.ext rfl (h1.symm.trans q)
    rw [if_pos q, zsS_eq, q, e1]
    simp [erS, seqA]
  · have e1 : (reP g M) = ([], (befR g M).2) := Prod.ext (reP_nil (fun e => q (h1.trans e))) h1.symm
    rw [if_neg q, zsS_eq, e1, nil_seqA]
    unfold erS
    rw [if_neg q, emS_no (by exact q) (by show (befR g M).2 ≠ 4; rw [h1]; exact h4)]

theorem wit_eq {good bad : List Zp} (h : chkG [good, bad] = 0) : witR good bad = wtR good bad := by
  have e : witS good bad = wiS good bad := by
    have hl : ¬ (2000 < good.length ∨ 2000 < bad.length) := fun q => by rw [chkG_long q] at h; cases h
    rw [chkG_short hl] at h
    have k := ckL_iff.1 h
    unfold witS wiS
    refine flatS_congr fun g hg => ?_
    have hN : ∀ z ∈ good ++ bad, Ok1 ((good ++ bad).headD (0, [])).1 z := fun z hz => k z hz
    exact befS_eq (hN g (List.mem_append_left _ hg)) (fun z hz => hN z (List.mem_append_right _ hz))
  unfold witR wtR
  rw [e]

theorem wit_two (good bad : List Zp) : (witR good bad).2 = (wtR good bad).2 ∧ (if (witR good bad).2 = 0 then (witR good bad).1 else []) = (if (wtR good bad).2 = 0 then (wtR good bad).1 else []) := by
  by_cases h : chkG [good, bad] = 0
  · rw [wit_eq h]; exact ⟨rfl, rfl⟩
  · have e1 : (witR good bad).2 = chkG [good, bad] := ansE_bad h
    have e2 : (wtR good bad).2 = chkG [good, bad] := ansE_bad h
    rw [e1, e2, if_neg h, if_neg h]
    exact ⟨rfl, rfl⟩
end Go.Proofs.YtaegiihkgicdnaaGreat

namespace Go.Proofs.YtaegiihkgicdnaaGreat
open Go.RowKit

theorem reS_lb {n : Nat} {g : Zp} {d : List Zp} : ∀ {M l : List Zp}, Lb n l → Lb n (reS g d M l).1
  | [], _, h => h
  | _ :: _, _, h => thE_lb (thE_lb (reS_lb (mtS_lb h)))

theorem wiS_lb {n : Nat} {L M : List Zp} (h : Lb n L) : Lb n (wiS L M).1 := Lb.flat fun g hg => thE_lb (reS_lb fun z hz => by
  have e : z = (dnP g).1 := List.mem_singleton.1 hz
  rw [e, dnP_len]; exact h g hg)

theorem RsL.congr {r s : List Zp × Int} {w : World} {e : Ending} {w' : World} (h : RsL r w e w') (h1 : r.2 = s.2) (h2 : (if r.2 = 0 then r.1 else []) = (if s.2 = 0 then s.1 else [])) : RsL s w e w' := by
  obtain ⟨k1, ao, cap, L, rfl, k2, k3, k4⟩ := h
  exact ⟨k1, ao, cap, L, by rw [h1], k2, k3.trans h2, k4⟩

set_option maxRecDepth 100000 in
set_option maxHeartbeats 4000000 in
theorem rwithin_bad (L M : List ZV) (go ho : Option Addr) (gc hc : Nat) (w : World) (hL : RdW w go L) (hM : RdW w ho M) (hl : L.length ≤ 1000000) (hm : M.length ≤ 1000000) (hbad : chkG [L.map ZV.p, M.map ZV.p] ≠ 0) :
    Calls Tryz.prog 28 #[.slice go L.length gc, .slice ho M.length hc] w (fun e w' => Below w.heap.size w w' ∧ e = .returned (.tuple #[.slice none 0 0, .int .i64 (chkG [L.map ZV.p, M.map ZV.p])])) := by
  have BO := Lib.hid (bothW_any L M go ho gc hc w hL hM hl hm)
  generalize L.length = n at *
  generalize M.length = m at *
  clear hL hM hl hm
  obtain ⟨c, hc0⟩ : ∃ c, c = chkG [L.map ZV.p, M.map ZV.p] := ⟨_, rfl⟩
  rw [← hc0] at BO hbad ⊢
  have h0b : (c != 0) = true := by simpa using hbad
  clear hc0
  go_enter Tryz.func28, Tryz.ntmps28
  go_wp2_with fail
  refine BO.out.mono ?_
  rintro e w1 ⟨rfl, hb⟩
  have B1 := Lib.hid hb
  clear hb BO
  go_wp2_with fail
  go_ret2
  exact ⟨B1.out, rfl⟩

theorem rwithinW_any (L M : List ZV) (go ho : Option Addr) (gc hc : Nat) (w : World) (hL : RdW w go L) (hM : RdW w ho M) (hl : L.length ≤ 1000000) (hm : M.length ≤ 1000000) (hcap : M.length ≤ hc) :
    Calls Tryz.prog 28 #[.slice go L.length gc, .slice ho M.length hc] w (RsL (wtR (L.map ZV.p) (M.map ZV.p)) w) := by
  by_cases h : chkG [L.map ZV.p, M.map ZV.p] = 0
  · obtain ⟨k1, k2⟩ := hL.both hM h
    obtain ⟨e1, e2⟩ := wit_two (L.map ZV.p) (M.map ZV.p)
    exact (rwithin_any L M go ho gc hc w k1 k2 hl hm hcap).mono fun _ _ h => h.rs.congr e1 e2
  · refine (rwithin_bad L M go ho gc hc w hL hM hl hm h).mono ?_
    rintro e w' ⟨hb, rfl⟩
    have e1 : (wtR (L.map ZV.p) (M.map ZV.p)).2 = chkG [L.map ZV.p, M.map ZV.p] := ansE_bad h
    rw [← e1]
    exact rs_nil hb (by rw [e1]; exact h)

set_option maxRecDepth 100000 in
set_option maxHeartbeats 32000000 in
theorem withins_any (L M : List ZV) (go ho : Option Addr) (gc hc : Nat) (w : World) (hL : RdW w go L) (hM : RdW w ho M) (hgo : go = none → gc = 0) (hho : ho = none → hc = 0)
    (hbl : L.length ≤ 9223372036854775807 ∧ ∀ z ∈ L, z.l.length ≤ 9223372036854775807) (hbm : M.length ≤ 9223372036854775807 ∧ ∀ z ∈ M, z.l.length ≤ 9223372036854775807) (hzl : ∀ z ∈ L, z.a = none → z.c = 0) (hzm : ∀ z ∈ M, z.a = none → z.c = 0) (hcap : M.length ≤ hc) :
    Calls Tryz.prog 5 #[.slice go L.length gc, .slice ho M.length hc] w (Made (.bool true) w) := by
  obtain ⟨n, hn⟩ : ∃ n, n = L.length := ⟨_, rfl⟩
  obtain ⟨m, hm⟩ : ∃ m, m = M.length := ⟨_, rfl⟩
  have HN := Lib.hid hn
  have HMM := Lib.hid hm
  have RL := Lib.hid hL
  have RM := Lib.hid hM
  have GO := Lib.hid hgo
  have HO := Lib.hid hho
  have ZL := Lib.hid hzl
  have HCP := Lib.hid hcap
  have ZM := Lib.hid hzm
  have SH := Lib.hid (fun W => shown_any W)
  obtain ⟨w1, hw1⟩ : ∃ w1, w1 = w.alloc (.cells #[.slice go n gc, .slice ho m hc] 22) := ⟨_, rfl⟩
  have BE := Lib.hid (show Calls Tryz.prog 8 #[.int .i64 3, .slice (some ⟨w.heap.size, 0, none⟩) 2 2] w1 (BeRes [L, M] w1) from by
    rw [hw1, hn, hm]
    exact beyondW_any 3 [L, M] (some ⟨w.heap.size, 0, none⟩) 2 _ (two_w hL hM hgo hho) (by simp) (fun X hX => by
      simp at hX
      rcases hX with rfl | rfl
      · exact ⟨hbl.1, hbl.2⟩
      · exact ⟨hbm.1, hbm.2⟩))
  have B1 := Lib.hid (show Below w.heap.size w w1 by rw [hw1]; exact one_more _)
  rw [← hn, ← hm]
  clear hL hM hgo hho hbl hbm hzl hzm hn hm hcap
  go_enter Tryz.func5, Tryz.ntmps5
  go_wp2_with fail
  rw [← hw1]
  clear hw1
  refine BE.out.mono ?_
  rintro e w2 ⟨hb, bb, rfl, hfine⟩
  have BW := Lib.hid (below_on B1.out hb)
  have FI := Lib.hid hfine
  clear hb hfine BE B1
  cases bb with
  | true =>
    go_wp2_with fail
    refine (SH.out _).mono ?_
    rintro e w3 ⟨rfl, hb⟩
    have B3 := Lib.hid (below_on BW.out hb)
    clear hb
    go_wp2_with fail
    go_ret
    exact ⟨rfl, B3.out⟩
  | false =>
    have FL := Lib.hid (FI.out rfl L (by simp))
    have FM := Lib.hid (FI.out rfl M (by simp))
    have nle : n ≤ 3000 := by have := FL.out.1; have := HN.out; omega
    have mle : m ≤ 3000 := by have := FM.out.1; have := HMM.out; omega
    clear FI
    have LE1 := Lib.hid (show ∀ W, Below w.heap.size w W → Calls Tryz.prog 10 #[.slice go n gc] W (fun e w' => Below W.heap.size W w' ∧ ∃ ao cap Z, e = .returned (.slice ao Z.length cap) ∧ OwnZ W.heap.size W.heap.size w' (.slice ao Z.length cap) Z ∧ Z.map ZV.p = L.map ZV.p ∧ ∀ z ∈ Z, OwL W.heap.size w' z) from fun W h => by
      rw [HN.out]
      exact lentW_any L go gc W (RL.out.on h) (by have := HN.out; omega) (fun z hz => ⟨by have := FL.out.2 z hz; omega, ZL.out z hz⟩))
    have LE2 := Lib.hid (show ∀ W, Below w.heap.size w W → Calls Tryz.prog 10 #[.slice ho m hc] W (fun e w' => Below W.heap.size W w' ∧ ∃ ao cap Z, e = .returned (.slice ao Z.length cap) ∧ OwnZ W.heap.size W.heap.size w' (.slice ao Z.length cap) Z ∧ Z.map ZV.p = M.map ZV.p ∧ ∀ z ∈ Z, OwL W.heap.size w' z) from fun W h => by
      rw [HMM.out]
      exact lentW_any M ho hc W (RM.out.on h) (by have := HMM.out; omega) (fun z hz => ⟨by have := FM.out.2 z hz; omega, ZM.out z hz⟩))
    go_wp2_with fail
    refine (LE1.out _ BW.out).mono ?_
    rintro e w3 ⟨hb, uo, uc, U, rfl, ou, up, ul⟩
    have WS := Lib.hid BW.out.size
    have OU := Lib.hid (ou.low BW.out.size BW.out.size)
    have UP := Lib.hid up
    have UW := Lib.hid (show ∀ z ∈ U, WrL w3 z from fun z hz => (ul z hz).wr)
    have UN := Lib.hid (show U.length = n by have e := congrArg List.length up; simp at e; have := HN.out; omega)
    have BW := Lib.hid (below_on BW.out hb)
    obtain ⟨un, hun⟩ : ∃ un, un = U.length := ⟨_, rfl⟩
    have HUN := Lib.hid hun
    have unle : un ≤ 3000 := by have := UN.out; omega
    rw [← hun]
    clear hb ou up ul hun LE1
    go_wp2_with fail
    refine (LE2.out _ BW.out).mono ?_
    rintro e w4 ⟨hb, vo, vc, V, rfl, ov, vp, vl⟩
    have OU := Lib.hid (OU.out.on hb)
    have UW := Lib.hid (show ∀ z ∈ U, WrL w4 z from fun z hz => (UW.out z hz).on hb)
    have OV := Lib.hid (ov.low BW.out.size BW.out.size)
    have VP := Lib.hid vp
    have VN := Lib.hid (show V.length = m by have e := congrArg List.length vp; simp at e; have := HMM.out; omega)
    have BW := Lib.hid (below_on BW.out hb)
    obtain ⟨vn, hvn⟩ : ∃ vn, vn = V.length := ⟨_, rfl⟩
    have HVN := Lib.hid hvn
    have vnle : vn ≤ 3000 := by have := VN.out; omega
    rw [← hvn]
    clear hb ov vp vl hvn LE2
    have RU := Lib.hid (show RdZ 0 w4 uo U from OU.out.rd.1.low (Nat.zero_le _))
    have RV := Lib.hid (show RdZ 0 w4 vo V from OV.out.rd.1.low (Nat.zero_le _))
    have CU := Lib.hid OU.out.rd.2
    have CV := Lib.hid OV.out.rd.2
    have UB := Lib.hid (show ∀ z ∈ U, ∀ p, z.a = some p → w.heap.size ≤ p.block ∧ p.block < w4.heap.size from fun z hz p e => (OU.out.el z hz).2 p e)
    have LU := Lib.hid (show Lb 200 (U.map ZV.p) by rw [UP.out]; exact FL.out.lb)
    have SV := Lib.hid (show ∀ W, Below w4.heap.size w4 W → RdW W vo V from fun W h => (OV.out.rd.1.on h).weak)
    have SU := Lib.hid (show ∀ W, Below w4.heap.size w4 W → RdW W uo U from fun W h => (OU.out.rd.1.on h).weak)
    have WI1 := Lib.hid (show ∀ W, Below w4.heap.size w4 W → Calls Tryz.prog 27 #[.slice uo un uc, .slice vo vn vc] W (RsL (wtR (L.map ZV.p) (M.map ZV.p)) W) from fun W h => by
      have := fwithin_out U V uo vo uc vc W (RU.out.on h) (RV.out.on h) CU.out CV.out (by have := HUN.out; omega) (by have := HVN.out; omega)
      rw [UP.out, VP.out, ← HUN.out, ← HVN.out] at this; exact this.mono fun _ _ k => k.rs)
    have WI2 := Lib.hid (show ∀ W, Below w.heap.size w W → Calls Tryz.prog 28 #[.slice go n gc, .slice ho m hc] W (RsL (wtR (L.map ZV.p) (M.map ZV.p)) W) from fun W h => by rw [HN.out, HMM.out]; exact rwithinW_any L M go ho gc hc W (RL.out.on h) (RM.out.on h) (by have := HN.out; omega) (by have := HMM.out; omega) HCP.out)
    have SA1 := Lib.hid (show ∀ W, Below w.heap.size w W → RdW W uo U → Calls Tryz.prog 19 #[.slice uo un uc, .slice go n gc] W (Made (.bool true) W) from fun W h k => by
      rw [HN.out, HUN.out]
      exact rsameLW_any U L uo go uc gc W k (RL.out.on h) (by have := HUN.out; omega) UP.out (fun z hz => by have := LU.out z.p (List.mem_map.2 ⟨z, hz, rfl⟩); have e : z.l.length ≤ 200 := this; omega))
    have SA2 := Lib.hid (show ∀ W, Below w.heap.size w W → RdW W vo V → Calls Tryz.prog 19 #[.slice vo vn vc, .slice ho m hc] W (Made (.bool true) W) from fun W h k => by
      rw [HMM.out, HVN.out]
      exact rsameLW_any V M vo ho vc hc W k (RM.out.on h) (by have := HVN.out; omega) VP.out (fun z hz => by have := FM.out.lb z.p (by rw [← VP.out]; exact List.mem_map.2 ⟨z, hz, rfl⟩); have e : z.l.length ≤ 200 := this; omega))
    have LS1 := Lib.hid (show ∀ W (X Y : List ZV) xo xc yo yc, RdZ 0 W xo X → RdZ 0 W yo Y → X.length ≤ 1000000 → X.map ZV.p = (if (wtR (L.map ZV.p) (M.map ZV.p)).2 = 0 then (wtR (L.map ZV.p) (M.map ZV.p)).1 else []) → Y.map ZV.p = (if (wtR (L.map ZV.p) (M.map ZV.p)).2 = 0 then (wtR (L.map ZV.p) (M.map ZV.p)).1 else []) → Calls Tryz.prog 15 #[.slice xo X.length xc, .slice yo Y.length yc, .int .i64 (wtR (L.map ZV.p) (M.map ZV.p)).2, .int .i64 (wtR (L.map ZV.p) (M.map ZV.p)).2] W (Made (.bool true) W) from fun W X Y xo xc yo yc h1 h2 h3 h4 h5 => lsameR_any X Y xo yo xc yc _ W h1 h2 h3 (h4.trans h5.symm) (res_lb (r := wtR (L.map ZV.p) (M.map ZV.p)) (wiS_lb FL.out.lb) h4 (by omega)))
    have B4 := Lib.hid (Below.refl w4.heap.size w4)
    clear RU RV OV OU UW UB
    go_wp2_with fail
    refine (WI1.out _ B4.out).mono ?_
    rintro e w7 ⟨hb, xo, xc, X, rfl, rx, xp, xl⟩
    have RX := Lib.hid rx
    have XP := Lib.hid xp
    have XL := Lib.hid xl
    have B4 := Lib.hid (below_on B4.out hb)
    obtain ⟨me, hme⟩ : ∃ me, me = (wtR (L.map ZV.p) (M.map ZV.p)).2 := ⟨_, rfl⟩
    rw [← hme]
    obtain ⟨xn, hxn⟩ : ∃ xn, xn = X.length := ⟨_, rfl⟩
    rw [← hxn]
    have HME := Lib.hid hme
    have HXN := Lib.hid hxn
    clear hb rx xp xl WI1 hme hxn
    go_wp2_with fail
    refine (WI2.out _ (below_on BW.out B4.out)).mono ?_
    rintro e w8 ⟨hb, yo, yc, Y, rfl, ry, yp, yl⟩
    have SM := Lib.hid (LS1.out w8 X Y xo xc yo yc (RX.out.on hb) ry XL.out XP.out yp)
    have B4 := Lib.hid (below_on B4.out hb)
    rw [← HME.out, ← HXN.out] at SM
    rw [← HME.out]
    clear hb ry yp yl WI2 HME HXN RX XP XL LS1
    generalize Y.length = yn at *
    go_wp2_with fail
    refine SM.out.mono ?_
    rintro e w9 ⟨rfl, hb⟩
    have B4 := Lib.hid (below_on B4.out hb)
    clear hb SM
    go_wp2_with fail
    refine (SA1.out _ (below_on BW.out B4.out) (SU.out _ B4.out)).mono ?_
    rintro e w13 ⟨rfl, hb⟩
    have B4 := Lib.hid (below_on B4.out hb)
    clear hb SA1
    go_wp2_with fail
    refine (SA2.out _ (below_on BW.out B4.out) (SV.out _ B4.out)).mono ?_
    rintro e w14 ⟨rfl, hb⟩
    have B4 := Lib.hid (below_on B4.out hb)
    clear hb SA2
    go_wp2_with fail
    refine (SH.out _).mono ?_
    rintro e w17 ⟨rfl, hb⟩
    have B4 := Lib.hid (below_on BW.out (below_on B4.out hb))
    clear hb
    go_wp2_with fail
    go_ret
    exact ⟨rfl, B4.out⟩
end Go.Proofs.YtaegiihkgicdnaaGreat
