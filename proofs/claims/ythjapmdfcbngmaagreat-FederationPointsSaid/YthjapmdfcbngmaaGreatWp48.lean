/- A part. -/
import Derived.Test.YthjapmdfcbngmaaGreatWp43
import Derived.Test.YthjapmdfcbngmaaGreatWp35
import Derived.Test.YthjapmdfcbngmaaGreatWp11
import Derived.Test.YthjapmdfcbngmaaGreatWp33
import Derived.Test.YthjapmdfcbngmaaGreatWp47

namespace Go.Proofs.YthjapmdfcbngmaaGreat
open Go.RowKit

section
variable {n : Nat}

theorem mt_no4 {x y : Zp} (h : Ok1 (n : Int) x) (k : Ok1 (n : Int) y) (le : Zo.Le n x.2 y.2) : (mtP x y).2 ≠ 4 := by
  obtain ⟨n1, e0, ex, vx⟩ := h.vz
  obtain ⟨n2, e0', ey, vy⟩ := k.vz
  have q1 : n1 = n := by omega
  have q2 : n2 = n := by omega
  subst q1
  subst q2
  rw [ex, ey]
  show zmE (n2 : Int) n2 x.2 y.2 ≠ 4
  have e : zmE (n2 : Int) n2 x.2 y.2 = cloE n2 (meL x.2 y.2) := by unfold zmE; rw [if_pos (tw_vz vx vy)]; simp
  rw [e]
  have hl : (meL x.2 y.2).length = (n2 + 1) * (n2 + 1) := by rw [meL_len, vx.hl]
  have hv : ∀ a b, a ≤ n2 → b ≤ n2 → Zo.Wl (Zo.At n2 (meL x.2 y.2) a b) := fun a b ha hb => by
    rw [me_at1 vx.hl ha hb]; exact wl_min (vx.wl a b ha hb) (vy.wl a b ha hb)
  refine (over_no4 vx.hn hl hv vx (fun a b ha hb => ?_)).1
  rw [me_at1 vx.hl ha hb]
  have := le a b ha hb
  unfold imin; omega

theorem op_no {z : Zp} {c : Con} (h : Ok1 (n : Int) z) (hs : spE c.2.2 = 0) (hc : Zo.At n z.2 c.1.toNat c.2.1.toNat ≤ c.2.2) : (anP z [opC c]).2 ≠ 0 := by
  intro q
  obtain ⟨o1, l1, l2⟩ := an_less h q
  obtain ⟨p1, p2, _⟩ := okC_wl o1
  have nt : ntL c.2.2 = 1 - c.2.2 ∧ -4294967296 ≤ c.2.2 ∧ c.2.2 ≤ 4294967297 := by
    unfold spE lvB noB at hs
    split at hs
    · split at hs
      · cases hs
      · rename_i h1 h2
        refine ⟨?_, ?_⟩
        · unfold ntL lvB noB; rw [h1]; simp at h2 ⊢; exact fun q => absurd q h2
        · simp at h1 h2; omega
    · cases hs
  have o := an_ok h q
  have s : Sp n (anP z [opC c]).1 (anP z [opC c]).1 := by
    refine ⟨c.1.toNat, c.2.1.toNat, p2, p1, c.2.2, nt.2.1, nt.2.2, Int.le_trans (l1 _ _ p2 p1) hc, ?_⟩
    rw [← nt.1]; exact l2
  exact mt_no4 o o Le.self (s.none o o)

theorem cutR_gone : ∀ {cs : List Con} {z : Zp}, Ok1 (n : Int) z → (∀ c ∈ cs, spE c.2.2 = 0 ∧ c.1.toNat ≤ n ∧ c.2.1.toNat ≤ n ∧ Zo.At n z.2 c.1.toNat c.2.1.toNat ≤ c.2.2) → (cutR z cs).2 = 0 → (cutR z cs).1 = []
  | [], _, _, _, _ => rfl
  | c :: cs, z, h, hs, q => by
    unfold cutR at q ⊢
    obtain ⟨q1, q2⟩ := seqA_ok q
    obtain ⟨k1, k2, k3, k4⟩ := hs c (List.mem_cons_self ..)
    have r := op_no h k1 k4
    have e : (emS (anP z [opC c])).1 = [] := by
      by_cases e4 : (anP z [opC c]).2 = 4
      · rw [emS_em e4]
      · rw [emS_no r e4]
    rw [seqA_of q1, e, List.nil_append]
    by_cases a : (anP z [c]).2 = 0
    · rw [if_pos a] at q2 ⊢
      obtain ⟨_, l1, _⟩ := an_less h a
      exact cutR_gone (an_ok h a) (fun d hd => by
        obtain ⟨d1, d2, d3, d4⟩ := hs d (List.mem_cons_of_mem _ hd)
        exact ⟨d1, d2, d3, Int.le_trans (l1 _ _ d2 d3) d4⟩) q2
    · rw [if_neg a]

theorem rdc_ix {z : Zp} (h : Ok1 (n : Int) z) {c : Con} (hc : c ∈ rdcL (n : Int) z.2) : c.1.toNat ≤ n ∧ c.2.1.toNat ≤ n ∧ c.2.2 = Zo.At n z.2 c.1.toNat c.2.1.toNat := by
  obtain ⟨n1, e0, ex, v⟩ := h.vz
  have q1 : n1 = n := by omega
  subst q1
  refine ⟨?_, ?_, rdc_at v hc⟩ <;>
  · unfold rdcL at hc
    rw [if_pos v.hc, Int.toNat_natCast] at hc
    unfold redL redS redT at hc
    simp only [List.mem_flatMap, List.mem_range] at hc
    obtain ⟨i, hi, j, hj, hm⟩ := hc
    split at hm
    · rw [List.mem_singleton] at hm
      subst hm
      simp
      omega
    · cases hm

theorem cutS_gone {z x : Zp} (h : Ok1 (n : Int) z) (k : Ok1 (n : Int) x) (le : Zo.Le n z.2 x.2) (q : (cutS z x (rdcL x.1 x.2)).2 = 0) : (cutS z x (rdcL x.1 x.2)).1 = [] := by
  rw [k.2] at q ⊢
  unfold cutS at q ⊢
  rw [if_neg (mt_no4 h k le)] at q ⊢
  by_cases h0 : (mtP z x).2 = 0
  · rw [if_pos h0] at q ⊢
    exact cutR_gone h (fun c hc => by
      obtain ⟨i1, i2, i3⟩ := rdc_ix k hc
      exact ⟨(rdc_ok hc).2, i1, i2, by rw [i3]; exact le _ _ i1 i2⟩) q
  · rw [if_neg h0]

theorem woS_gone {x : Zp} {L : List Zp} (k : Ok1 (n : Int) x) (hL : Ck (n : Int) L) (le : ∀ z ∈ L, Zo.Le n z.2 x.2) (q : (woS x L).2 = 0) : (woS x L).1 = [] := by
  unfold woS at q ⊢
  split
  · rename_i e
    rw [if_pos e] at q
    unfold woC at q ⊢
    induction L with
    | nil => rfl
    | cons z r ih =>
      unfold flatS at q ⊢
      obtain ⟨q1, q2⟩ := seqA_ok q
      rw [seqA_of q1, cutS_gone (hL z (List.mem_cons_self ..)) k (le z (List.mem_cons_self ..)) q1, List.nil_append]
      exact ih (fun y hy => hL y (List.mem_cons_of_mem _ hy)) (fun y hy => le y (List.mem_cons_of_mem _ hy)) q2
  · rfl

theorem woS_less {x : Zp} {b : Zp} {L : List Zp} (k : Ok1 (n : Int) b) (hL : Ck (n : Int) L) (le : ∀ z ∈ L, Zo.Le n z.2 x.2) : ∀ z ∈ (woS b L).1, Zo.Le n z.2 x.2 := by
  intro z hz
  unfold woS at hz
  split at hz
  · unfold woC at hz
    obtain ⟨y, hy, hz⟩ := flat_mem hz
    exact fun i j hi hj => Int.le_trans ((cutS_sp (hL y hy) k).1 z hz i j hi hj) (le y hy i j hi hj)
  · simp at hz

theorem mnP_gone {x : Zp} : ∀ {M L : List Zp}, Ck (n : Int) L → Ck (n : Int) M → (∀ z ∈ L, Zo.Le n z.2 x.2) → (x ∈ M ∨ L = []) → (mnP L M).2 = 0 → (mnP L M).1 = []
  | [], L, _, _, _, h, _ => by
    rcases h with h | h
    · simp at h
    · exact h
  | b :: r, L, hL, hM, le, h, q => by
    have hb := hM b (List.mem_cons_self ..)
    unfold mnP at q ⊢
    split
    · rename_i e
      rw [if_pos e] at q
      have e0 := (colE_zero e).2
      refine mnP_gone (woS_ok hb hL).2.1 (fun y hy => hM y (List.mem_cons_of_mem _ hy)) (woS_less hb hL le) ?_ q
      rcases h with h | h
      · rcases List.mem_cons.1 h with rfl | h
        · exact Or.inr (woS_gone hb hL le e0)
        · exact Or.inl h
      · subst h
        exact Or.inr (woS_gone hb hL (fun z hz => by simp at hz) e0)
    · rfl

theorem hl_less {x y : Zp} (h : Ok1 (n : Int) x) (k : Ok1 (n : Int) y) {u : Zp} (lx : Zo.Le n x.2 u.2) (ly : Zo.Le n y.2 u.2) : Zo.Le n (hlP x y).1.2 u.2 := by
  obtain ⟨n1, e0, ex, vx⟩ := h.vz
  have q1 : n1 = n := by omega
  subst q1
  rw [ex]
  intro i j hi hj
  have le : Zo.Le n1 (Zo.clo n1 (huL x.2 y.2)) (huL x.2 y.2) := Zo.le_clo (by rw [huL_len, vx.hl])
  have a := le i j hi hj
  rw [hu_at1 vx.hl hi hj] at a
  have b := lx i j hi hj
  have c := ly i j hi hj
  show Zo.At n1 (Zo.clo n1 (huL x.2 y.2)) i j ≤ Zo.At n1 u.2 i j
  unfold imax at a; omega

theorem try_yes {x y u : Zp} (h : Ok1 (n : Int) x) (k : Ok1 (n : Int) y) (hu : u = x ∨ u = y) (lx : Zo.Le n x.2 u.2) (ly : Zo.Le n y.2 u.2) (q : (tryP x y).2 = 0) : (tryP x y).1.2 = true := by
  unfold tryP at q ⊢
  by_cases h0 : (hlP x y).2 = 0
  · rw [if_neg (fun f => f h0)] at q ⊢
    by_cases m0 : (mnP [(hlP x y).1] [x, y]).2 = 0
    · rw [if_neg (fun f => f m0)]
      have e := mnP_gone (x := u) (M := [x, y]) (Ck.one (hl_ok h k h0)) (fun z hz => by
        simp at hz
        rcases hz with rfl | rfl <;> assumption) (fun z hz => by
        rw [List.mem_singleton] at hz
        rw [hz]; exact hl_less h k lx ly) (Or.inl (by rcases hu with rfl | rfl <;> simp)) m0
      simp [e]
    · rw [if_pos m0] at q
      exact absurd q m0
  · rw [if_pos h0] at q
    exact absurd q h0
end
end Go.Proofs.YthjapmdfcbngmaaGreat

namespace Go.Proofs.YthjapmdfcbngmaaGreat
open Go.RowKit

theorem try_ok {N : Int} {x y : Zp} (h : Ok1 N x) (k : Ok1 N y) (q : (tryP x y).2 = 0) : Ok1 N (tryP x y).1.1 := by
  unfold tryP at q ⊢
  by_cases h0 : (hlP x y).2 = 0
  · rw [if_neg (fun f => f h0)] at q ⊢
    by_cases m0 : (mnP [(hlP x y).1] [x, y]).2 = 0
    · rw [if_neg (fun f => f m0)]
      exact hl_ok h k h0
    · rw [if_pos m0] at q
      exact absurd q m0
  · rw [if_pos h0] at q
    exact absurd q h0

section
variable {N : Int} {l : List Zp} (hC : Ck N l)
include hC

theorem rpK_some {i : Nat} : ∀ {n k : Nat} {r : Pr}, i < l.length → rpK l i n k = some r → i < k → r.2 = 0 → r.1.2.1 ≠ 0 ∧ Ok1 N r.1.2.2
  | 0, _, _, _, h, _, _ => by cases h
  | n + 1, k, r, hi, h, hk, h0 => by
    rw [rpK] at h
    split at h
    · rename_i hkl
      rw [try_eq (ck_gz hC hi) (ck_gz hC hkl)] at h
      split at h
      · rename_i q
        injection h with h; subst h
        exact absurd h0 q
      · rename_i q
        split at h
        · injection h with h; subst h
          exact ⟨by show k ≠ 0; omega, try_ok (ck_gz hC hi) (ck_gz hC hkl) (by simpa using q)⟩
        · exact rpK_some hi h (by omega) h0
    · cases h

theorem rpK_all {i : Nat} : ∀ {n k : Nat}, i < l.length → rpK l i n k = none → l.length ≤ k + n → ∀ b, k ≤ b → b < l.length → Clr l i b
  | 0, k, _, _, hn, b, hb, hl => by omega
  | n + 1, k, hi, h, hn, b, hb, hl => by
    rw [rpK, if_pos (by omega), try_eq (ck_gz hC hi) (ck_gz hC (by omega))] at h
    split at h
    · cases h
    · rename_i q
      split at h
      · cases h
      · rename_i q2
        by_cases e : b = k
        · subst e
          exact ⟨by simpa using q, by simpa using q2⟩
        · exact rpK_all hi h (by omega) b (by omega) hl

theorem rpI_all : ∀ {n i : Nat}, (rpI l n i).2 = 0 → (rpI l n i).1.2.1 = 0 → l.length ≤ i + n → ∀ a b, i ≤ a → a < b → b < l.length → Clr l a b
  | 0, _, _, _, hn, a, b, _, _, _ => by omega
  | n + 1, i, h0, h1, hn, a, b, ha, hab, hb => by
    have hi : i < l.length := by omega
    rw [rpI, if_pos hi] at h0 h1
    cases e : rpK l i (l.length - (i + 1)) (i + 1) with
    | none =>
      rw [e] at h0 h1
      by_cases c : a = i
      · subst c
        exact rpK_all hC hi e (by omega) b (by omega) hb
      · exact rpI_all h0 h1 (by omega) a b (by omega) hab hb
    | some r =>
      rw [e] at h0 h1
      exact absurd h1 (rpK_some hC hi e (by omega) h0).1

theorem rpI_some : ∀ {n i : Nat}, (rpI l n i).2 = 0 → (rpI l n i).1.2.1 ≠ 0 → Ok1 N (rpI l n i).1.2.2
  | 0, _, _, h1 => absurd rfl h1
  | n + 1, i, h0, h1 => by
    rw [rpI] at h0 h1 ⊢
    split
    · rename_i hi
      rw [if_pos hi] at h0 h1
      cases e : rpK l i (l.length - (i + 1)) (i + 1) with
      | none => rw [e] at h0 h1; exact rpI_some h0 h1
      | some r => rw [e] at h0 h1; exact (rpK_some hC hi e (by omega) h0).2
    · rename_i hi
      rw [if_neg hi] at h1
      exact absurd rfl h1
end

theorem riP_all {N : Int} : ∀ {m : Nat} {l : List Zp}, Ck N l → l.length < m → (riP m l).2 = 0 → Ck N (riP m l).1 ∧ ∀ a b, a < b → b < (riP m l).1.length → Clr (riP m l).1 a b
  | 0, _, _, h, _ => by omega
  | m + 1, l, hC, hm, q => by
    unfold riP at q ⊢
    by_cases h0 : (rpI l l.length 0).2 = 0
    · rw [if_neg (fun f => f h0)] at q ⊢
      by_cases h1 : (rpI l l.length 0).1.2.1 = 0
      · rw [if_pos h1]
        exact ⟨hC, fun a b hab hb => rpI_all hC h0 h1 (by omega) a b (Nat.zero_le _) hab hb⟩
      · rw [if_neg h1] at q ⊢
        have k := rpI_ok h0 h1
        have o := rpI_some hC h0 h1
        refine riP_all (fun z hz => ?_) ?_ q
        · have := List.mem_of_mem_eraseIdx hz
          exact (List.mem_or_eq_of_mem_set this).elim (hC z) (fun e => by rw [e]; exact o)
        · rw [List.length_eraseIdx, if_pos (by rw [List.length_set]; exact k.2), List.length_set]
          omega
    · rw [if_pos h0] at q
      exact absurd q h0

theorem inR_le {n : Nat} {x y : Zp} (h : Ok1 (n : Int) x) (b : inR x.1 y.1 x.2 y.2 = true) : Zo.Le n y.2 x.2 := by
  obtain ⟨n1, e0, ex, vx⟩ := h.vz
  have q1 : n1 = n := by omega
  subst q1
  intro i j hi hj
  unfold inR inB at b
  simp only [Bool.and_eq_true, List.all_eq_true, List.mem_range, decide_eq_true_eq] at b
  exact b.2 (Zo.ix n1 i j) (by rw [vx.hl]; exact Zo.ix_lt hi hj)

theorem si_none {n : Nat} {L : List Zp} (hL : Ck (n : Int) L) (hc : rchk L = 0) (q : (siR L).2 = 0) : Ck (n : Int) (siR L).1 ∧ ∀ i k, i < (siR L).1.length → k < (siR L).1.length → i ≠ k → inR (gz (siR L).1 k).1 (gz (siR L).1 i).1 (gz (siR L).1 k).2 (gz (siR L).1 i).2 = false := by
  rw [← sim_eq hc] at q ⊢
  have q2 : (riP ((wpP L.length 0 L).length + 1) (wpP L.length 0 L)).2 = 0 := by
    unfold riR at q
    rw [if_pos hc] at q
    exact q
  obtain ⟨r1, r2⟩ := riP_all (wp_ck hL) (Nat.lt_succ_self _) q2
  show Ck (n : Int) (riP ((wpP L.length 0 L).length + 1) (wpP L.length 0 L)).1 ∧ ∀ i k, i < (riP ((wpP L.length 0 L).length + 1) (wpP L.length 0 L)).1.length → k < (riP ((wpP L.length 0 L).length + 1) (wpP L.length 0 L)).1.length → i ≠ k → inR (gz (riP ((wpP L.length 0 L).length + 1) (wpP L.length 0 L)).1 k).1 (gz (riP ((wpP L.length 0 L).length + 1) (wpP L.length 0 L)).1 i).1 (gz (riP ((wpP L.length 0 L).length + 1) (wpP L.length 0 L)).1 k).2 (gz (riP ((wpP L.length 0 L).length + 1) (wpP L.length 0 L)).1 i).2 = false
  generalize (riP ((wpP L.length 0 L).length + 1) (wpP L.length 0 L)).1 = M at *
  refine ⟨r1, fun i k hi hk hne => ?_⟩
  have oi := ck_gz r1 hi
  have ok := ck_gz r1 hk
  cases b : inR (gz M k).1 (gz M i).1 (gz M k).2 (gz M i).2 with
  | false => rfl
  | true =>
    exfalso
    have le := inR_le ok b
    by_cases c : i < k
    · obtain ⟨c1, c2⟩ := r2 i k c hk
      have := try_yes oi ok (Or.inr rfl) le Le.self c1
      rw [this] at c2; cases c2
    · obtain ⟨c1, c2⟩ := r2 k i (by omega) hi
      have := try_yes ok oi (Or.inl rfl) Le.self le c1
      rw [this] at c2; cases c2
end Go.Proofs.YthjapmdfcbngmaaGreat

namespace Go.Proofs.YthjapmdfcbngmaaGreat
open Go.RowKit

set_option maxRecDepth 100000 in
set_option maxHeartbeats 8000000 in
theorem lnone_any (L : List ZV) (go : Option Addr) (gc : Nat) (w : World) (hL : RdZ 0 w go L) (hl : L.length ≤ 1000000) (hno : ∀ i k, i < (L.map ZV.p).length → k < (L.map ZV.p).length → i ≠ k → inR (gz (L.map ZV.p) k).1 (gz (L.map ZV.p) i).1 (gz (L.map ZV.p) k).2 (gz (L.map ZV.p) i).2 = false) :
    Calls Tryz.prog 33 #[.slice go L.length gc] w (Made (.bool true) w) := by
  have RL := Lib.hid hL
  have NO := Lib.hid hno
  obtain ⟨n, hn⟩ : ∃ n, n = L.length := ⟨_, rfl⟩
  have HN := Lib.hid hn
  have nle : n ≤ 1000000 := by omega
  rw [← hn]
  clear hL hl hn hno
  go_enter Tryz.func33, Tryz.ntmps33
  go_wp2_with fail
  go_loopw [3] (fun k wr => ∃ i : Nat, k = .int .i64 i ∧ i ≤ n ∧ Hid (Below w.heap.size w wr)) (fun k _ => n - (intOf k).toNat)
  case atStart => exact ⟨0, rfl, by omega, Lib.hid (Below.refl _ _)⟩
  case round =>
    generalize wr = wq at *
    obtain ⟨i, rfl, hi, BQ⟩ := hrel
    by_cases hin : i < n
    · obtain ⟨y, hy⟩ : ∃ y, y = L[i]'(by have := HN.out; omega) := ⟨_, rfl⟩
      have YP := Lib.hid (show gz (L.map ZV.p) i = y.p by rw [gz_eq (by have := HN.out; simp; omega), hy]; simp)
      have YZ := Lib.hid (show ZAt 0 w y from RL.out.el y (by rw [hy]; exact List.getElem_mem _))
      obtain ⟨b, eb, h2, h3⟩ := RL.out.hd i (by have := HN.out; omega)
      rw [← hy] at h2 h3
      obtain ⟨yl, hyl⟩ : ∃ yl, yl = y.l.length := ⟨_, rfl⟩
      rw [← hyl] at h3
      have HYL := Lib.hid hyl
      have GY := Lib.hid (And.intro h2 h3)
      clear hy h2 h3 hyl
      subst eb
      go_wp2_with fail
      go_loopw [4] (fun k wr => ∃ t : Nat, k = .int .i64 t ∧ t ≤ n ∧ Hid (Below w.heap.size w wr)) (fun k _ => n - (intOf k).toNat)
      case atStart => exact ⟨0, rfl, by omega, BQ⟩
      case round =>
        generalize wr = wo at *
        obtain ⟨t, rfl, ht, BE⟩ := hrel
        by_cases htn : t < n
        · obtain ⟨x, hx⟩ : ∃ x, x = L[t]'(by have := HN.out; omega) := ⟨_, rfl⟩
          have XP := Lib.hid (show gz (L.map ZV.p) t = x.p by rw [gz_eq (by have := HN.out; simp; omega), hx]; simp)
          have HX := Lib.hid (show ZAt 0 w x from RL.out.el x (by rw [hx]; exact List.getElem_mem _))
          obtain ⟨b', eb, h0, h1⟩ := RL.out.hd t (by have := HN.out; omega)
          have eab : b = b' := by injection eb with e
          subst eab
          rw [← hx] at h0 h1
          obtain ⟨xl, hxl⟩ : ∃ xl, xl = x.l.length := ⟨_, rfl⟩
          rw [← hxl] at h1
          obtain ⟨v, hv⟩ : ∃ v, v = inR x.N y.N x.l y.l := ⟨_, rfl⟩
          obtain ⟨er, her⟩ : ∃ er, er = inE x.N y.N x.l y.l := ⟨_, rfl⟩
          have IN := Lib.hid (show ∀ W, Below w.heap.size w W → Calls Tryz.prog 76 #[.agg #[.int .i64 x.N, .slice x.a xl x.c], .agg #[.int .i64 y.N, .slice y.a yl y.c]] W (Made (.tuple #[.bool v, .int .i64 er]) W) from fun W h => by
            rw [hxl, HYL.out, hv, her]
            exact includes_gen x.N y.N x.l y.l x.a y.a x.c y.c W (HX.out.on h).1 (YZ.out.on h).1)
          have VF := Lib.hid (show i ≠ t → v = false from fun h => by
            have := NO.out i t (by have := HN.out; simp; omega) (by have := HN.out; simp; omega) h
            rw [XP.out, YP.out] at this
            rw [hv]; exact this)
          have GX := Lib.hid (And.intro h0 h1)
          clear hx h0 h1 hxl hv her eb
          go_upto_region 7 with (fail)
          have KS := Lib.hid (show ∀ W, Below wo.heap.size wo W → (W.cell? (b.add (t * 2)) = some (.int .i64 x.N) ∧ W.cell? ⟨(b.add (t * 2)).block, (b.add (t * 2)).off + 1, none⟩ = some (.slice x.a xl x.c) ∧ W.cell? (b.add (i * 2)) = some (.int .i64 y.N) ∧ W.cell? ⟨(b.add (i * 2)).block, (b.add (i * 2)).off + 1, none⟩ = some (.slice y.a yl y.c)) from fun W h => ⟨kept (below_on BE.out h) GX.out.1, kept (below_on BE.out h) GX.out.2, kept (below_on BE.out h) GY.out.1, kept (below_on BE.out h) GY.out.2⟩)
          obtain ⟨wc, hwc⟩ : ∃ wc, wc = wo.drew := ⟨_, rfl⟩
          have Bc := Lib.hid (show Below wo.heap.size wo wc by rw [hwc]; exact (Below.refl _ _).drew)
          refine wp_region_held_drew (S := (fun W => (W.cell? (b.add (t * 2)) = some (.int .i64 x.N) ∧ W.cell? ⟨(b.add (t * 2)).block, (b.add (t * 2)).off + 1, none⟩ = some (.slice x.a xl x.c) ∧ W.cell? (b.add (i * 2)) = some (.int .i64 y.N) ∧ W.cell? ⟨(b.add (i * 2)).block, (b.add (i * 2)).off + 1, none⟩ = some (.slice y.a yl y.c)))) (by kernel_rfl) (by rw [← hwc]; exact KS.out _ Bc.out) (fun h0 => ?_)
          rw [← hwc] at h0 ⊢
          clear hwc
          refine tkH (i := 0) (v := ?v1) rfl (Or.inl ⟨by rfl, ?hy1⟩) h0 ?rest1
          case hy1 => (intro w' hS; (try dsimp only at hS); go_simp; try (with_reducible rfl))
          simp only [Act.put, sA, sB, sD, sE, sF]
          refine tkH (i := 1) (v := ?v2) rfl (Or.inl ⟨by rfl, ?hy2⟩) h0 ?rest2
          case hy2 => (intro w' hS; (try dsimp only at hS); go_simp; try (with_reducible rfl))
          simp only [Act.put, sZ]
          refine tkH (i := 2) (v := ?v3) rfl (Or.inl ⟨by rfl, ?hy3⟩) h0 ?rest3
          case hy3 => (intro w' hS; (try dsimp only at hS); go_simp; try (with_reducible rfl))
          simp only [Act.put, sZ]
          refine tkH (i := 3) (v := ?v4) rfl (Or.inl ⟨by rfl, ?hy4⟩) h0 ?rest4
          case hy4 => (intro w' hS; (try dsimp only at hS); go_simp; try (with_reducible rfl))
          simp only [Act.put, sZ]
          refine tkH (i := 4) (v := ?v5) rfl (Or.inl ⟨by rfl, ?hy5⟩) h0 ?rest5
          case hy5 => (intro w' hS; (try dsimp only at hS); go_simp; try (with_reducible rfl))
          simp only [Act.put, sZ]
          refine tkH (i := 5) (v := ?v6) rfl (Or.inl ⟨by rfl, ?hy6⟩) h0 ?rest6
          case hy6 => (intro w' hS; (try dsimp only at hS); go_simp; try (with_reducible rfl))
          simp only [Act.put, sZ]
          refine tkH (i := 6) (v := ?v7) rfl (Or.inl ⟨by rfl, ?hy7⟩) h0 ?rest7
          case hy7 => (intro w' hS; (try dsimp only at hS); go_simp; try (with_reducible rfl))
          simp only [Act.put, sZ]
          refine tkH (i := 7) (v := ?v8) rfl (Or.inl ⟨by rfl, ?hy8⟩) h0 ?rest8
          case hy8 => (intro w' hS; (try dsimp only at hS); go_simp; try (with_reducible rfl))
          simp only [Act.put, sZ]
          refine wpAnyH_ready (rs := [8]) (by kernel_rfl) (by simp) (AllReadyH.cons rfl (fun K hK => ?_) AllReadyH.nil)
          rw [if_pos (by rfl)]
          go_simp
          refine (IN.out wc (below_on BE.out Bc.out)).mono ?_
          rintro e wd ⟨rfl, hb⟩
          have Bc := Lib.hid (below_on Bc.out hb)
          clear hb
          obtain ⟨wc, hwc⟩ : ∃ wc, wc = wd := ⟨_, rfl⟩
          rw [← hwc] at Bc ⊢
          clear hwc
          go_simp
          refine hK.out _ _ (KS.out _ Bc.out) (fun h0_1 => ?_)
          clear hK K h0
          refine tkH (i := 9) (v := ?v9) rfl (Or.inl ⟨by rfl, ?hy9⟩) h0_1 ?rest9
          case hy9 => (intro w' hS; (try dsimp only at hS); go_simp; try (with_reducible rfl))
          simp only [Act.put, sZ]
          refine tkH (i := 10) (v := ?v10) rfl (Or.inl ⟨by rfl, ?hy10⟩) h0_1 ?rest10
          case hy10 => (intro w' hS; (try dsimp only at hS); go_simp; try (with_reducible rfl))
          simp only [Act.put, sZ]
          refine tkH (i := 11) (v := ?v11) rfl (Or.inl ⟨by rfl, ?hy11⟩) h0_1 ?rest11
          case hy11 => (intro w' hS; (try dsimp only at hS); go_simp; try (with_reducible rfl))
          simp only [Act.put, sZ]
          refine tkH (i := 12) (v := ?v12) rfl (Or.inl ⟨by rfl, ?hy12⟩) h0_1 ?rest12
          case hy12 => (intro w' hS; (try dsimp only at hS); go_simp; try (with_reducible rfl))
          simp only [Act.put, sZ]
          refine tkH (i := 13) (v := ?v13) rfl (Or.inl ⟨by rfl, ?hy13⟩) h0_1 ?rest13
          case hy13 => (intro w' hS; (try dsimp only at hS); go_simp; try (with_reducible rfl))
          simp only [Act.put, sA, sB, sC, sD]
          try simp only [sF]
          try simp only [sE]
          refine wpAnyH_done (by kernel_rfl) ?_ _
          try simp only [Exit.then]
          have BB := Lib.hid (below_on BE.out Bc.out)
          by_cases hti : i = t
          · have q1 : ((i : Int) != (t : Int)) = false := by simp [hti]
            clear hti
            go_wp2_with fail
            go_roundw
            case rel => exact ⟨t + 1, by go_num, by omega, BB⟩
            case measure => simp [intOf]; omega
          · have q1 : ((i : Int) != (t : Int)) = true := by simp; omega
            have vf := VF.out hti
            clear hti VF IN
            subst vf
            go_wp2_with fail
            go_roundw
            case rel => exact ⟨t + 1, by go_num, by omega, BB⟩
            case measure => simp [intOf]; omega
        · go_wp2_with fail
          go_roundw
          case rel => exact ⟨i + 1, by go_num, by omega, BE⟩
          case measure => simp [intOf]; omega
    · go_wp2_with fail
      go_ret
      exact ⟨rfl, BQ.out⟩
end Go.Proofs.YthjapmdfcbngmaaGreat

namespace Go.Proofs.YthjapmdfcbngmaaGreat
open Go.RowKit

theorem mnP_len2 : ∀ {M L : List Zp}, (mnP L M).2 = 0 → L.length ≤ 2000 → (mnP L M).1.length ≤ 2000
  | [], _, _, h => h
  | b :: r, L, q, _ => by
    unfold mnP at q ⊢
    split
    · rename_i e
      rw [if_pos e] at q
      exact mnP_len2 q (colE_zero e).1
    · simp

structure PtsM (n : Nat) (D : Int) (X : Nat → Int) (ps : List Pq) (L M : List Zp) : Prop where
  hp : Zo.Pt n D X 1099511627776
  ho : Ov D X ps
  hr : ∀ l, chkE n l = 0 → rdE n l ps = 0
  cl : rchk L = 0
  kl : Ck (n : Int) L
  cm : rchk M = 0
  km : Ck (n : Int) M
  nl : L.length ≤ 2000

theorem pt_wide {n : Nat} {D : Int} {X : Nat → Int} (h : Zo.Pt n D X 2147483647) : Zo.Pt n D X 1099511627776 := ⟨h.pos, h.zero, h.low, fun i hi => by
  have := h.high i hi
  have := h.pos
  omega⟩

theorem pts_of {ps : List Pq} {L M : List Zp} (e : (hsF ps L).2 = 0) (g : (hsF ps M).2 = 0) (hne : L ≠ []) : ∃ n D X, PtsM n D X ps L M := by
  obtain ⟨c1, f1⟩ := hsF_chk e
  obtain ⟨c2, f2⟩ := hsF_chk g
  obtain ⟨n1, k1⟩ := rchk_ck c1
  obtain ⟨n2, k2⟩ := rchk_ck c2
  cases L with
  | nil => exact absurd rfl hne
  | cons z r =>
    have hz := k1 z (List.mem_cons_self ..)
    have rz := f1 z r rfl
    obtain ⟨n, e0, ez, vz⟩ := hz.vz
    have k1' : Ck (n : Int) (z :: r) := by rw [← e0]; exact k1
    have rn : rdE n z.2 ps = 0 := by rw [ez] at rz; exact rz
    obtain ⟨p1, p2, p3, _⟩ := rd_parts rn
    have k2' : Ck (n : Int) M := by
      cases M with
      | nil => exact Ck.nil _
      | cons y s =>
        have ry := f2 y s rfl
        have hy := k2 y (List.mem_cons_self ..)
        have : y.1 = (n : Int) := by
          unfold rdE at ry
          split at ry
          · rename_i q
            rw [← q.2.1, p2]
          · cases ry
        rw [← this]
        exact k2
    refine ⟨n, _, _, pt_wide ((ov_of p3).pt p2 p3), ov_of p3, fun l h => by rw [rdE_other h p1]; exact rn, c1, k1', c2, k2', n1⟩

section
variable {n : Nat} {D : Int} {X : Nat → Int} {ps : List Pq} {L M : List Zp}

theorem lw_yes {r : Bool × Int} {want : Bool} (h : r.2 = 0) (k : r.1 = want) : lwB r want = true := by
  unfold lwB
  simp [h, k]

theorem bool_of {a : Bool} {P : Prop} (h : a = true ↔ P) (b : Bool) (k : b = true ↔ P) : a = b := by
  cases a <;> cases b <;> simp_all

theorem pts_minus (h : PtsM n D X ps L M) (q : (minR L M).2 = 0) : lwB (hsF ps (minR L M).1) ((hsF ps L).1 && !(hsF ps M).1) = true := by
  have m0 := (ansE_zero q).2
  have kz := (mnP_ok h.km h.kl).2
  have a := hsF_in h.ho h.hr (ck_rchk (mnP_len2 m0 h.nl) kz) kz
  have l := (hsF_in h.ho h.hr h.cl h.kl).2
  have m := (hsF_in h.ho h.hr h.cm h.km).2
  refine lw_yes a.1 (bool_of (a.2.trans (mnP_in h.hp h.kl h.km m0)) _ ?_)
  rw [← l, ← m]
  cases (hsF ps L).1 <;> cases (hsF ps M).1 <;> simp

theorem pts_apart (h : PtsM n D X ps L M) (h1 : L.length = 1) : ∀ i k, ∀ hi : i < (minR L M).1.length, ∀ hk : k < i, (mtP ((minR L M).1[i]) ((minR L M).1[k]'(by omega))).2 = 4 := by
  intro i k hi hk
  obtain ⟨z, rfl⟩ : ∃ z, L = [z] := List.length_eq_one_iff.1 h1
  exact apart_of (h.kl z (List.mem_singleton.2 rfl)) h.km hi hk

theorem pts_meet (h : PtsM n D X ps L M) (q : (meeR L M).2 = 0) : lwB (hsF ps (meeR L M).1) ((hsF ps L).1 && (hsF ps M).1) = true := by
  obtain ⟨n0, m0⟩ := colE_zero (ansE_zero q).2
  have kz := (mtS_ok h.kl h.km).2
  have a := hsF_in h.ho h.hr (ck_rchk n0 kz) kz
  have l := (hsF_in h.ho h.hr h.cl h.kl).2
  have m := (hsF_in h.ho h.hr h.cm h.km).2
  refine lw_yes a.1 (bool_of (a.2.trans (mtS_in h.hp h.kl h.km m0)) _ ?_)
  rw [← l, ← m]
  cases (hsF ps L).1 <;> cases (hsF ps M).1 <;> simp

theorem pts_simp (h : PtsM n D X ps L M) (q : (siR L).2 = 0) : lwB (hsF ps (siR L).1) (hsF ps L).1 = true ∧ ∀ i k, i < (siR L).1.length → k < (siR L).1.length → i ≠ k → inR (gz (siR L).1 k).1 (gz (siR L).1 i).1 (gz (siR L).1 k).2 (gz (siR L).1 i).2 = false := by
  have s0 : (siP L).2 = 0 := (ansE_zero q).2
  obtain ⟨kz, iz⟩ := siP_in h.hp h.kl s0
  have len : (siP L).1.length ≤ 2000 := Nat.le_trans (joP_len _ _ _ _) (Nat.le_trans (wpP_len _ _ _) h.nl)
  have a := hsF_in h.ho h.hr (ck_rchk len kz) kz
  have l := (hsF_in h.ho h.hr h.cl h.kl).2
  exact ⟨lw_yes a.1 (bool_of (a.2.trans iz) _ l), (si_none h.kl h.cl q).2⟩
end
end Go.Proofs.YthjapmdfcbngmaaGreat
