/- The contract of layer 3's Free.; Contracts for layer 3's And: which constraints are wrong.; The contract of layer 3's And.; The contract of layer 4's reference: Reduce; lists of constraints that a call has made.; Contracts of layer 4's classes: next.; Contracts of layer 4's keepsWithin, keepsBetween, keeps. -/
import Derived.Test.YtmlknjiifjdimaaG7
import Derived.Test.YtmlknjiifjdimaaG8
import Derived.Test.YtmlknjiifjdimaaG4

namespace Go.Proofs.Ytmlknjiifjdimaa
open Go.RowKit

theorem rlL_at {n i : Nat} {l : List Int} (hl : l.length = (n + 1) * (n + 1)) (hi : i ≤ n) {a b : Nat} (ha : a ≤ n) (hb : b ≤ n) : Zo.At n (rlL n i l) a b = if a = i ∨ b = i then 1099511627776 else Zo.At n l a b := by
  have := (Zo.fold_at (N := n + 1) (f := rlS n i) (p := fun t a b => decide ((a = t ∧ b = i) ∨ (a = i ∧ b = t))) (v := 1099511627776) (fun x t ht hx => ⟨by simpa [rlS] using hx, fun a b _ hb => by
    unfold rlS
    rw [Zo.At_set (by simpa using hx) (by omega) hi _ hb, Zo.At_set hx hi (by omega) _ hb]
    by_cases c1 : a = t ∧ b = i
    · simp [c1]
    · by_cases c2 : a = i ∧ b = t
      · simp [c2]
      · rw [if_neg c1, if_neg c2, if_neg (by simp; omega)]⟩) hl (n + 1) (Nat.le_refl _)).2 a b ha hb
  rw [show rlL n i l = (List.range (n + 1)).foldl (rlS n i) l from rfl, this]
  by_cases c : a = i ∨ b = i
  · rw [if_pos c, if_pos]
    rw [List.any_eq_true]
    by_cases ca : a = i
    · exact ⟨b, List.mem_range.2 (by omega), by simp [ca]⟩
    · exact ⟨a, List.mem_range.2 (by omega), by simp; omega⟩
  · rw [if_neg c, if_neg]
    intro h
    rw [List.any_eq_true] at h
    obtain ⟨s, _, hs⟩ := h
    simp at hs
    omega

theorem frL_at {n i : Nat} {l : List Int} (hl : l.length = (n + 1) * (n + 1)) (hi : i ≤ n) {a b : Nat} (ha : a ≤ n) (hb : b ≤ n) : Zo.At n (frL n i l) a b = if (a = i ∨ b = i) ∧ a ≠ b then 1099511627776 else Zo.At n l a b := by
  have := (Zo.fold_at (N := n + 1) (f := frS n i) (p := fun t a b => decide (t ≠ i ∧ ((a = t ∧ b = i) ∨ (a = i ∧ b = t)))) (v := 1099511627776) (fun x t ht hx => ⟨by rw [frS_len]; exact hx, fun a b _ hb => by
    unfold frS
    by_cases ct : t = i
    · rw [if_pos ct, if_neg (by simp; omega)]
    · rw [if_neg ct, Zo.At_set (by simpa using hx) (by omega) hi _ hb, Zo.At_set hx hi (by omega) _ hb]
      by_cases c1 : a = t ∧ b = i
      · simp [c1, ct]
      · by_cases c2 : a = i ∧ b = t
        · simp [c2, ct]
        · rw [if_neg c1, if_neg c2, if_neg (by simp; omega)]⟩) hl (n + 1) (Nat.le_refl _)).2 a b ha hb
  rw [show frL n i l = (List.range (n + 1)).foldl (frS n i) l from rfl, this]
  by_cases c : (a = i ∨ b = i) ∧ a ≠ b
  · rw [if_pos c, if_pos]
    rw [List.any_eq_true]
    by_cases ca : a = i
    · exact ⟨b, List.mem_range.2 (by omega), by simp [ca]; omega⟩
    · exact ⟨a, List.mem_range.2 (by omega), by simp; omega⟩
  · rw [if_neg c, if_neg]
    intro h
    rw [List.any_eq_true] at h
    obtain ⟨s, _, hs⟩ := h
    simp at hs
    omega

theorem fr_pre {n i : Nat} {l : List Int} (hl : l.length = (n + 1) * (n + 1)) (hi : i ≤ n) (hc : chkE n l = 0) : Zo.pre n (rlL n i l) = Zo.pre n (frL n i l) := by
  obtain ⟨dg, _⟩ := chk_diag hc
  refine Zo.pre_eq (by rw [rlL_len, hl]) (by rw [frL_len, hl]) fun a b ha hb => ⟨fun h => ?_, fun h => ?_⟩
  · rw [rlL_at hl hi ha hb, frL_at hl hi ha hb]
    by_cases c : a = i ∨ b = i
    · rw [if_pos c, if_pos ⟨c, h.2⟩]
    · rw [if_neg c, if_neg (by omega)]
  · rw [rlL_at hl hi ha hb, frL_at hl hi ha hb]
    by_cases c : a = i ∨ b = i
    · rw [if_pos c]
      by_cases e : a = b
      · rw [if_neg (by omega)]
        subst e
        rw [dg a ha]; decide
      · rw [if_pos ⟨c, e⟩]
    · rw [if_neg c, if_neg (by omega)]

theorem rlL_64 {n i : Nat} {l : List Int} (h : Zo.A64 l) : Zo.A64 (rlL n i l) := fold_64 (fun _ _ h => Zo.gt_range _ _ _ (Zo.gt_range _ _ _ h no_in) no_in) h _

theorem enter_fr (args : Array Value) (W : World) : (callFunc 89 args).run Try.prog W = .ok (.enter 89 args) W := by go_simp

theorem ck_nat {n : Nat} {i first : Int} (h : ckB n i first = true) (h0 : 0 ≤ first) : ∃ k : Nat, i = k ∧ k ≤ n ∧ first ≤ k := by
  unfold ckB at h; simp at h; exact ⟨i.toNat, by omega, by omega, by omega⟩

theorem ch_fr (N : Int) (l : List Int) (ao : Option Addr) (cap : Nat) (i : Int) (p : Addr) (w : World) (hA : Arg w ao l) (hp : w.cell? p = some (.int .i64 i)) :
    Calls Try.prog 76 #[.agg #[.int .i64 N, .slice ao l.length cap], .bool (ckB N i 1), .func (.func 89) #[] #[.pointer (some p)]] w (ZRes w N (Zo.clo N.toNat (frL N.toNat i.toNat l)) (frE N l i)) := by
  by_cases hc : chkE N l = 0
  · cases hk : ckB N i 1
    · refine (changed_bad N l ao cap false _ w hA (Or.inr rfl)).mono fun e w' h => h.bad ?_
      unfold frE; rw [if_neg]
      unfold ckB at hk; simp at hk; omega
    · obtain ⟨n, rfl, hn, hl, hne⟩ := chk_ok hc
      obtain ⟨k, rfl, hkn, hk1⟩ := ck_nat hk (by omega)
      have := changed_ok n l (rlL n k l) ao cap 89 #[.pointer (some p)] w hA hn hl hc (rlL_64 (chk_64 hc).1) enter_fr (fun W b hb _ hM => fr1_any b n k p l W hn hkn hM (kept hb hp))
      rw [show frE (n : Int) l k = cloE n (rlL n k l) by unfold frE; rw [if_pos ⟨hc, by omega, by omega⟩, cloE_pre (fr_pre hl hkn hc)]; rfl]
      rw [Zo.clo_pre (fr_pre hl hkn hc)] at this
      exact this
  · refine (changed_bad N l ao cap _ _ w hA (Or.inl (by unfold okB; simpa using hc))).mono fun e w' h => h.bad ?_
    unfold frE; rw [if_neg (by omega)]

set_option maxRecDepth 100000 in
set_option maxHeartbeats 4000000 in
theorem zfr_gen (N : Int) (l : List Int) (ao : Option Addr) (cap : Nat) (i : Int) (w : World) (hA : Arg w ao l) :
    Calls Try.prog 32 #[.agg #[.int .i64 N, .slice ao l.length cap], .int .i64 i] w (ZRes w N (Zo.clo N.toNat (frL N.toNat i.toNat l)) (frE N l i)) := by
  have CH := Lib.hid (show ∀ W p, Below w.heap.size w W → W.cell? p = some (.int .i64 i) → _ from fun W p h hp => ch_fr N l ao cap i p W (hA.on h) hp)
  have CK := Lib.hid (fun W => isClock_any N i 1 (.slice ao l.length cap) W)
  generalize Zo.clo N.toNat (frL N.toNat i.toNat l) = r at *
  generalize frE N l i = er at *
  generalize ckB N i 1 = ck at *
  generalize l.length = len at *
  obtain ⟨w0, hw0⟩ : ∃ w0, w0 = ((w.alloc (.cells #[.int .i64 N, .slice ao len cap] 25)).alloc (.cells #[.int .i64 i] 3)).alloc (.cells #[.int .i64 0, .slice none 0 0] 25) := ⟨_, rfl⟩
  have b0 : w0.cell? ⟨w.heap.size, 0, none⟩ = some (.int .i64 N) := by rw [hw0]; go_simp
  have b1 : w0.cell? ⟨w.heap.size, 1, none⟩ = some (.slice ao len cap) := by rw [hw0]; go_simp
  have b2 : w0.cell? ⟨w.heap.size + 1, 0, none⟩ = some (.int .i64 i) := by rw [hw0]; go_simp
  have rs : Two w0 (w.heap.size + 1 + 1) (.int .i64 0) (.slice none 0 0) := by
    rw [hw0]
    have := Two.made ((w.alloc (.cells #[.int .i64 N, .slice ao len cap] 25)).alloc (.cells #[.int .i64 i] 3)) (.int .i64 0) (.slice none 0 0) 25
    simpa using this
  have z0 : w0.heap.size = w.heap.size + 3 := by rw [hw0]; simp
  have E0 := Lib.hid (show Below w.heap.size w w0 by rw [hw0]; exact past_three (Below.refl _ _))
  have KS := Lib.hid (show ∀ w' : World, Below w0.heap.size w0 w' → w'.cell? ⟨w.heap.size, 0, none⟩ = some (.int .i64 N) ∧ w'.cell? ⟨w.heap.size, 1, none⟩ = some (.slice ao len cap) ∧ w'.cell? ⟨w.heap.size + 1, 0, none⟩ = some (.int .i64 i) from fun w' h => ⟨kept h b0, kept h b1, kept h b2⟩)
  have KP := Lib.hid (show ∀ (w' : World) (u v : Value), Below w0.heap.size w0 w' → (((w'.setCell ⟨w.heap.size + 1 + 1, 0, none⟩ u).setCell ⟨w.heap.size + 1 + 1, 1, none⟩ v).cell? ⟨w.heap.size, 0, none⟩ = some (.int .i64 N) ∧ ((w'.setCell ⟨w.heap.size + 1 + 1, 0, none⟩ u).setCell ⟨w.heap.size + 1 + 1, 1, none⟩ v).cell? ⟨w.heap.size, 1, none⟩ = some (.slice ao len cap) ∧ ((w'.setCell ⟨w.heap.size + 1 + 1, 0, none⟩ u).setCell ⟨w.heap.size + 1 + 1, 1, none⟩ v).cell? ⟨w.heap.size + 1, 0, none⟩ = some (.int .i64 i)) from
    fun w' u v h => ⟨aside_two (kept h b0) (by show w.heap.size ≠ _; omega) u v, aside_two (kept h b1) (by show w.heap.size ≠ _; omega) u v, aside_two (kept h b2) (by show w.heap.size + 1 ≠ _; omega) u v⟩)
  have HRS := Lib.hid rs
  have BD := Lib.hid (show Below w0.heap.size w0 w0.drew from (Below.refl _ _).drew)
  clear hA b0 b1 b2 rs
  go_enter Try.func32, Try.ntmps32
  go_wp2_with fail
  rw [← hw0]
  clear hw0
  by_cases he : er = 0
  · subst he
    go_region_held3 (fun w' => w'.cell? ⟨w.heap.size, 0, none⟩ = some (.int .i64 N) ∧ w'.cell? ⟨w.heap.size, 1, none⟩ = some (.slice ao len cap) ∧ w'.cell? ⟨w.heap.size + 1, 0, none⟩ = some (.int .i64 i)) (first | exact KS.out _ BD.out | exact KS.out _ (by assumption) | exact KP.out _ _ _ (by assumption))
      (first | (go_at_call 74; refine (CK.out _).mono ?_; rintro e wa ⟨rfl, hba⟩; have hb1 := below_on BD.out hba) | (go_at_call 76; refine (CH.out _ _ (below_on E0.out hb1) (KS.out _ hb1).2.2).mono ?_; intro e wb hz; obtain ⟨g, c, rfl, hg, hO⟩ := hz.ok rfl; have hb2 := below_on hb1 hz.1; obtain ⟨q0, q1, q2, q3⟩ := (HRS.out.kept hb2).facts))
    all_goals
      go_wp2_with fail
      refine bodyPost_ret (v := .tuple #[.agg #[.int .i64 N, .slice (some ⟨g, 0, none⟩) r.length c], .int .i64 0]) (by simp [results, Try.results32, go_sem, q0, q1]) rfl (zres_over E0.out hb2 hO.1 (Nat.le_trans hb1.size hg) (by omega) (by omega) _ _)
  · go_region_held3 (fun w' => w'.cell? ⟨w.heap.size, 0, none⟩ = some (.int .i64 N) ∧ w'.cell? ⟨w.heap.size, 1, none⟩ = some (.slice ao len cap) ∧ w'.cell? ⟨w.heap.size + 1, 0, none⟩ = some (.int .i64 i)) (first | exact KS.out _ BD.out | exact KS.out _ (by assumption) | exact KP.out _ _ _ (by assumption))
      (first | (go_at_call 74; refine (CK.out _).mono ?_; rintro e wa ⟨rfl, hba⟩; have hb1 := below_on BD.out hba) | (go_at_call 76; refine (CH.out _ _ (below_on E0.out hb1) (KS.out _ hb1).2.2).mono ?_; intro e wb hz; obtain ⟨rfl, hzb⟩ := hz.no he; have hb2 := below_on hb1 hzb; obtain ⟨q0, q1, q2, q3⟩ := (HRS.out.kept hb2).facts))
    all_goals
      go_wp2_with fail
      refine bodyPost_ret (v := .tuple #[.agg #[.int .i64 0, .slice none 0 0], .int .i64 er]) (by simp [results, Try.results32, go_sem, q0, q1]) rfl (zres_over0 E0.out hb2 he (by omega) _ _)
end Go.Proofs.Ytmlknjiifjdimaa

namespace Go.Proofs.Ytmlknjiifjdimaa
open Go.RowKit

def okZ (N : Int) (c : Con) : Bool := ckB N c.1 0 && (ckB N c.2.1 0 && lvB c.2.2)

theorem okZ_nat (n : Nat) (c : Con) : okZ n c = okC n c := by
  unfold okZ okC ckB
  cases lvB c.2.2
  · simp
  · rw [Bool.eq_iff_iff]; simp; omega

set_option maxRecDepth 100000 in
set_option maxHeartbeats 1000000 in
theorem and1_any (N I J L : Int) (v : Value) (pb : Nat) (w : World) (h0 : w.cell? ⟨pb, 0, none⟩ = some (.int .i64 N)) (h1 : w.cell? ⟨pb, 1, none⟩ = some v) :
    Calls Try.prog 73 #[.agg #[.int .i64 I, .int .i64 J, .int .i64 L], .pointer (some ⟨pb, 0, none⟩)] w (Made (.bool (!okZ N (I, J, L))) w) := by
  have C1 := Lib.hid (fun W => isClock_any N I 0 v W)
  have C2 := Lib.hid (fun W => isClock_any N J 0 v W)
  have C3 := Lib.hid (fun W => limValid_free L W)
  have HO := Lib.hid (show okZ N (I, J, L) = (ckB N I 0 && (ckB N J 0 && lvB L)) from rfl)
  generalize okZ N (I, J, L) = ok at *
  generalize ckB N I 0 = k1 at *
  generalize ckB N J 0 = k2 at *
  generalize lvB L = k3 at *
  obtain ⟨w0, hw0⟩ : ∃ w0, w0 = w.alloc (.cells #[.int .i64 I, .int .i64 J, .int .i64 L] 56) := ⟨_, rfl⟩
  have a0 : w0.cell? ⟨pb, 0, none⟩ = some (.int .i64 N) := by rw [hw0]; exact kept (one_more _) h0
  have a1 : w0.cell? ⟨pb, 1, none⟩ = some v := by rw [hw0]; exact kept (one_more _) h1
  have x0 : w0.cell? ⟨w.heap.size, 0, none⟩ = some (.int .i64 I) := by rw [hw0]; go_simp
  have x1 : w0.cell? ⟨w.heap.size, 1, none⟩ = some (.int .i64 J) := by rw [hw0]; go_simp
  have x2 : w0.cell? ⟨w.heap.size, 2, none⟩ = some (.int .i64 L) := by rw [hw0]; go_simp
  have E0 := Lib.hid (show Below w.heap.size w w0 by rw [hw0]; exact one_more _)
  have KS := Lib.hid (show ∀ w' : World, Below w0.heap.size w0 w' → (w'.cell? ⟨pb, 0, none⟩ = some (.int .i64 N) ∧ w'.cell? ⟨pb, 1, none⟩ = some v) ∧ w'.cell? ⟨w.heap.size, 0, none⟩ = some (.int .i64 I) ∧ w'.cell? ⟨w.heap.size, 1, none⟩ = some (.int .i64 J) ∧ w'.cell? ⟨w.heap.size, 2, none⟩ = some (.int .i64 L) from
    fun w' h => ⟨⟨kept h a0, kept h a1⟩, kept h x0, kept h x1, kept h x2⟩)
  have y0 : (w.alloc (.cells #[.int .i64 I, .int .i64 J, .int .i64 L] 56)).cell? ⟨pb, 0, none⟩ = some (.int .i64 N) := kept (one_more _) h0
  have y1 : (w.alloc (.cells #[.int .i64 I, .int .i64 J, .int .i64 L] 56)).cell? ⟨pb, 1, none⟩ = some v := kept (one_more _) h1
  clear h0 h1
  go_enter Try.func73, Try.ntmps73
  go_wp2_with fail
  rw [← hw0]
  clear hw0 y0 y1
  refine (C1.out _).mono ?_
  rintro e w1 ⟨rfl, hb1⟩
  clear a0 a1 x0 x1 x2
  obtain ⟨⟨a0, a1⟩, x0, x1, x2⟩ := KS.out _ hb1
  have B1 := Lib.hid hb1
  clear hb1
  cases k1
  · have HR := Lib.hid (show ok = false by rw [HO.out]; rfl)
    go_wp2_with fail
    go_ret
    exact ⟨ret_bool (by rw [HR.out]; rfl), below_on E0.out B1.out⟩
  · go_wp2_with fail
    refine (C2.out _).mono ?_
    rintro e w2 ⟨rfl, hb2⟩
    have B2 := Lib.hid (below_on B1.out hb2)
    clear hb2 a0 a1 x0 x1 x2
    obtain ⟨⟨a0, a1⟩, x0, x1, x2⟩ := KS.out _ B2.out
    cases k2
    · have HR := Lib.hid (show ok = false by rw [HO.out]; rfl)
      go_wp2_with fail
      go_ret
      exact ⟨ret_bool (by rw [HR.out]; rfl), below_on E0.out B2.out⟩
    · go_wp2_with fail
      refine (C3.out _).mono ?_
      rintro e w3 ⟨rfl, hw⟩
      rw [hw]; clear hw w3
      have HR := Lib.hid (show ok = k3 by rw [HO.out]; rfl)
      go_wp2_with fail
      go_ret
      exact ⟨ret_bool (by rw [HR.out]), below_on E0.out B2.out⟩

def aokB (N : Int) (cs : List Con) : Bool := cs.all (okZ N)

/-- The number of the first wrong constraint, or -1. -/
def Idx (N : Int) (cs : List Con) (w : World) (e : Ending) (w' : World) : Prop := ∃ r : Int, e = .returned (.int .i64 r) ∧ (decide (0 ≤ r) = !aokB N cs) ∧ Below w.heap.size w w'

set_option maxRecDepth 100000 in
set_option maxHeartbeats 4000000 in
theorem index_any (N : Int) (v : Value) (pb : Nat) (cs : List Con) (dao : Option Addr) (dc : Nat) (w : World) (hD : Arg3 w dao cs) (hdl : cs.length ≤ 1000) (h0 : w.cell? ⟨pb, 0, none⟩ = some (.int .i64 N)) (h1 : w.cell? ⟨pb, 1, none⟩ = some v) :
    Calls Try.prog 119 #[.slice dao cs.length dc, .func (.func 73) #[] #[.pointer (some ⟨pb, 0, none⟩)]] w (Idx N cs w) := by
  have hd : ∃ d, (cs ≠ [] → dao = some d) ∧ Rd3 w d cs := by
    by_cases he : cs = []
    · exact ⟨⟨0, 0, none⟩, fun h => absurd he h, by rw [he]; intro j hj; simp at hj⟩
    · obtain ⟨d, h2, h3⟩ := hD he
      exact ⟨d, fun _ => h2, h3⟩
  obtain ⟨d, hdo, hR⟩ := hd
  have HR := Lib.hid hR
  have C1 := Lib.hid (show ∀ (W : World) (c : Con), Below w.heap.size w W → Calls Try.prog 73 #[.agg #[.int .i64 c.1, .int .i64 c.2.1, .int .i64 c.2.2], .pointer (some ⟨pb, 0, none⟩)] W (Made (.bool (!okZ N c)) W) from fun W c h => and1_any N c.1 c.2.1 c.2.2 v pb W (kept h h0) (kept h h1))
  obtain ⟨len, hlen⟩ : ∃ len, len = cs.length := ⟨_, rfl⟩
  have HL := Lib.hid hlen
  have hz : ∀ t : Nat, t < len → dao = some d := fun t ht => hdo (by intro e; rw [e] at hlen; simp at hlen; omega)
  have hl2 : len ≤ 1000 := by omega
  rw [← hlen]
  clear hlen hR hD h0 h1 hdl hdo
  go_enter Try.func119, Try.ntmps119
  go_wp2_with fail
  go_loopw [8] (fun s wr => ∃ t : Nat, t ≤ len ∧ s = .int .i64 t ∧ Hid (∀ i, i < t → okZ N (gc cs i) = true) ∧ Hid (Below w.heap.size w wr)) (fun s _ => len - (intOf s).toNat)
  case atStart => exact ⟨0, by omega, rfl, Lib.hid (fun i hi => by omega), Lib.hid (Below.refl _ _)⟩
  case round =>
    obtain ⟨t, ht, rfl, HT, HB⟩ := hrel
    by_cases htn : t < len
    · obtain rfl := hz t htn
      obtain ⟨c0, c1, c2⟩ := (HR.out.on HB.out) t (by rw [← HL.out]; exact htn)
      obtain ⟨c, hc⟩ : ∃ c, c = gc cs t := ⟨_, rfl⟩
      rw [← hc] at c0 c1 c2
      have HC := Lib.hid hc
      have CC := C1.out
      have C2 := Lib.hid (fun W h => CC W c h)
      clear hc CC
      cases ho : okZ N c
      · rw [ho] at C2
        have HE := Lib.hid (show aokB N cs = false by
          unfold aokB
          rw [List.all_eq_false]
          have hlt : t < cs.length := by rw [← HL.out]; exact htn
          exact ⟨cs[t], List.getElem_mem hlt, by rw [show cs[t] = c by rw [HC.out]; simp [gc, hlt], ho]; simp⟩)
        clear ho
        go_wp2_with fail
        refine (C2.out _ HB.out).mono ?_
        rintro e w1 ⟨rfl, hb⟩
        have HB1 := Lib.hid (below_on HB.out hb)
        clear hb c0 c1 c2
        go_wp2_with fail
        go_ret
        exact ⟨t, rfl, by rw [HE.out]; simp, HB1.out⟩
      · rw [ho] at C2
        have HO := Lib.hid ho
        clear ho
        go_wp2_with fail
        refine (C2.out _ HB.out).mono ?_
        rintro e w1 ⟨rfl, hb⟩
        have HB1 := Lib.hid (below_on HB.out hb)
        clear hb c0 c1 c2
        go_wp2_with fail
        go_roundw
        case rel =>
          refine ⟨t + 1, by omega, by go_num, Lib.hid (fun i hi => ?_), HB1⟩
          by_cases e : i = t
          · rw [e, ← HC.out]; exact HO.out
          · exact HT.out i (by omega)
        case measure => simp [intOf]; omega
    · have HE := Lib.hid (show aokB N cs = true by
        unfold aokB
        rw [List.all_eq_true]
        intro x hx
        obtain ⟨i, hi, rfl⟩ := List.getElem_of_mem hx
        have := HT.out i (by have := HL.out; omega)
        simpa [gc, hi] using this)
      go_wp2_with fail
      go_ret
      exact ⟨-1, rfl, by rw [HE.out]; rfl, HB.out⟩

set_option maxRecDepth 100000 in
theorem contains_any (N : Int) (v : Value) (pb : Nat) (cs : List Con) (dao : Option Addr) (dc : Nat) (w : World) (hD : Arg3 w dao cs) (hdl : cs.length ≤ 1000) (h0 : w.cell? ⟨pb, 0, none⟩ = some (.int .i64 N)) (h1 : w.cell? ⟨pb, 1, none⟩ = some v) :
    Calls Try.prog 72 #[.slice dao cs.length dc, .func (.func 73) #[] #[.pointer (some ⟨pb, 0, none⟩)]] w (Made (.bool (!aokB N cs)) w) := by
  have CI := Lib.hid (index_any N v pb cs dao dc w hD hdl h0 h1)
  generalize cs.length = len at *
  clear hD h0 h1
  go_enter Try.func72, Try.ntmps72
  go_wp2_with fail
  refine CI.out.mono ?_
  rintro e w1 ⟨r, rfl, hr, hb⟩
  have HB := Lib.hid hb
  have HRR := Lib.hid hr
  clear hb hr
  go_wp2_with fail
  go_ret
  exact ⟨ret_bool HRR.out, HB.out⟩
end Go.Proofs.Ytmlknjiifjdimaa

namespace Go.Proofs.Ytmlknjiifjdimaa
open Go.RowKit

theorem MSt.alloc {w0 w : World} {b n : Nat} {l : List Int} (h : MSt w0 b n l w) (o : Obj) : MSt w0 b n l (w.alloc o) := ⟨h.1.alloc o, grown_trans h.2 (World.grownBy_alloc w o _)⟩

/-- What lay there ahead of the call of changed is there while its matrix turns. -/
theorem MSt.old {w0 w w' : World} {b n : Nat} {x : List Int} (hb : Below w0.heap.size w0 w) (hle : w0.heap.size ≤ b) (h : MSt w b n x w') {p : Addr} {v : Value} (hp : w0.cell? p = some v) : w'.cell? p = some v := by
  have hlt := World.block_lt_of_cell? w0 _ hp
  exact h.2.cell (kept hb hp) (by simp; omega)

theorem Rd3.mst {w0 w w' : World} {b n : Nat} {x : List Int} {d : Addr} {cs : List Con} (hR : Rd3 w0 d cs) (hb : Below w0.heap.size w0 w) (hle : w0.heap.size ≤ b) (h : MSt w b n x w') : Rd3 w' d cs :=
  fun j hj => ⟨h.old hb hle (hR j hj).1, h.old hb hle (hR j hj).2.1, h.old hb hle (hR j hj).2.2⟩

set_option maxRecDepth 100000 in
set_option maxHeartbeats 4000000 in
theorem and2_any (b n : Nat) (l : List Int) (cs : List Con) (dao : Option Addr) (dc : Nat) (lb : Addr) (w0 w : World) (hn : n ≤ 10) (hD : Arg3 w0 dao cs) (hdl : cs.length ≤ 1000) (hok : ∀ k, k < cs.length → okC n (gc cs k) = true)
    (hlb : w0.cell? lb = some (.slice dao cs.length dc)) (hb : Below w0.heap.size w0 w) (hle : w0.heap.size ≤ b) (h : Mx w b n l) :
    Calls Try.prog 77 #[.pointer (some ⟨b, 0, none⟩), .pointer (some lb)] w (Chg w b n (anL n cs l)) := by
  have hd : ∃ d, (cs ≠ [] → dao = some d) ∧ Rd3 w0 d cs := by
    by_cases he : cs = []
    · exact ⟨⟨0, 0, none⟩, fun h => absurd he h, by rw [he]; intro j hj; simp at hj⟩
    · obtain ⟨d, h2, h3⟩ := hD he
      exact ⟨d, fun _ => h2, h3⟩
  obtain ⟨d, hdo, hR⟩ := hd
  have KR := Lib.hid (show ∀ x w', MSt w b n x w' → Rd3 w' d cs from fun x w' hm => hR.mst hb hle hm)
  have HM := Lib.hid (show MSt w b n l w from ⟨h, World.grownBy.refl _ _⟩)
  have c0 : w.cell? lb = some (.slice dao cs.length dc) := kept hb hlb
  have HLL := Lib.hid h.2
  have OK := Lib.hid hok
  obtain ⟨len, hlen⟩ : ∃ len, len = cs.length := ⟨_, rfl⟩
  have HL := Lib.hid hlen
  have hz : ∀ t : Nat, t < len → dao = some d := fun t ht => hdo (by intro e; rw [e] at hlen; simp at hlen; omega)
  have hl2 : len ≤ 1000 := by omega
  rw [← hlen] at c0
  clear hlen hR hD hdl hdo hok hlb hb hle h
  go_enter Try.func77, Try.ntmps77
  go_wp2_with fail
  clear c0
  go_loopw [7] (fun s wr => ∃ (t : Nat) (x : List Int), t ≤ len ∧ s = .int .i64 t ∧ Hid (x.length = (n + 1) * (n + 1) ∧ x = (List.range t).foldl (anS n cs) l ∧ MSt w b n x wr)) (fun s _ => len - (intOf s).toNat)
  case atStart => exact ⟨0, l, by omega, rfl, Lib.hid ⟨HLL.out, rfl, HM.out⟩⟩
  case round =>
    obtain ⟨t, x, ht, rfl, HX⟩ := hrel
    by_cases htn : t < len
    · obtain rfl := hz t htn
      obtain ⟨c0, c1, c2⟩ := (KR.out _ _ HX.out.2.2) t (by rw [← HL.out]; exact htn)
      obtain ⟨c, hc⟩ : ∃ c, c = gc cs t := ⟨_, rfl⟩
      have hok := OK.out t (by rw [← HL.out]; exact htn)
      rw [← hc] at c0 c1 c2 hok
      have HC := Lib.hid hc
      unfold okC at hok
      simp only [Bool.and_eq_true, decide_eq_true_eq] at hok
      obtain ⟨⟨i1, i2, j1, j2⟩, _⟩ := hok
      obtain ⟨ci, cj, cl⟩ := c
      simp only at i1 i2 j1 j2 c0 c1 c2
      obtain ⟨i, rfl⟩ := Int.eq_ofNat_of_zero_le i1
      obtain ⟨j, rfl⟩ := Int.eq_ofNat_of_zero_le j1
      have TT := Lib.hid (fun (w' : World) (h : MSt w b n x w') => tighten_st (i := i) (j := j) cl hn (by omega) (by omega) h)
      have HS := Lib.hid (show anS n cs x t = x.set (Zo.ix n i j) (imin (Zo.At n x i j) cl) by unfold anS; rw [← HC.out]; rfl)
      clear hc
      go_wp2_with fail
      refine (TT.out _ (HX.out.2.2.alloc _)).mono ?_
      rintro e w1 ⟨rfl, hm⟩
      have HM1 := Lib.hid hm
      clear hm c0 c1 c2
      go_wp2_with fail
      go_roundw
      case rel => exact ⟨t + 1, _, by omega, by go_num, Lib.hid ⟨by simpa using HX.out.1, by rw [Zo.fold_succ, ← HX.out.2.1, HS.out], HM1.out⟩⟩
      case measure => simp [intOf]; omega
    · have HE := Lib.hid (show x = anL n cs l by rw [HX.out.2.1]; unfold anL; rw [← HL.out, show t = len by omega])
      go_wp2_with fail
      go_end0
      exact ⟨rfl, by rw [← HE.out]; exact HX.out.2.2⟩

theorem enter_an (args : Array Value) (W : World) : (callFunc 77 args).run Try.prog W = .ok (.enter 77 args) W := by go_simp

theorem aok_nat {n : Nat} {cs : List Con} : aokB n cs = cs.all (okC n) := by
  unfold aokB; congr 1; funext c; exact okZ_nat n c

theorem anL_64 {n : Nat} {cs : List Con} {l : List Int} (h : Zo.A64 l) (hok : cs.all (okC n) = true) : Zo.A64 (anL n cs l) := by
  unfold anL
  refine Zo.fold_keeps (R := Zo.A64) cs.length (fun x t ht hx => ?_) l h _ (Nat.le_refl _)
  unfold anS imin
  refine hx.min_ _ _ _ _ ?_ _
  rw [List.all_eq_true] at hok
  have := hok _ (List.getElem_mem ht)
  rw [show cs[t] = gc cs t by simp [gc, ht]] at this
  unfold okC at this
  simp only [Bool.and_eq_true] at this
  have := vl_of_lv this.2
  unfold Zo.Vl at this
  omega

theorem ch_an (N : Int) (l : List Int) (ao : Option Addr) (cap : Nat) (cs : List Con) (dao : Option Addr) (dc : Nat) (lb : Addr) (w : World) (hA : Arg w ao l) (hD : Arg3 w dao cs) (hdl : cs.length ≤ 1000) (hlb : w.cell? lb = some (.slice dao cs.length dc)) :
    Calls Try.prog 76 #[.agg #[.int .i64 N, .slice ao l.length cap], .bool (aokB N cs), .func (.func 77) #[] #[.pointer (some lb)]] w (ZRes w N (Zo.clo N.toNat (anL N.toNat cs l)) (anG N cs l)) := by
  by_cases hc : chkE N l = 0
  · obtain ⟨n, rfl, hn, hl, hne⟩ := chk_ok hc
    cases hk : aokB n cs
    · refine (changed_bad n l ao cap false _ w hA (Or.inr rfl)).mono fun e w' h => h.bad ?_
      unfold anG anE; rw [if_pos hc]
      rw [aok_nat] at hk
      simp only [Int.toNat_natCast]
      rw [hk]; rfl
    · have hk2 := hk
      rw [aok_nat] at hk2
      have := changed_ok n l (anL n cs l) ao cap 77 #[.pointer (some lb)] w hA hn hl hc (anL_64 (chk_64 hc).1 hk2) enter_an (fun W b hb hle hM => and2_any b n l cs dao dc lb w W hn hD hdl (fun k hk' => by
        rw [List.all_eq_true] at hk2
        have := hk2 _ (List.getElem_mem hk')
        rwa [show cs[k] = gc cs k by simp [gc, hk']] at this) hlb hb hle hM)
      rw [show anG (n : Int) cs l = cloE n (anL n cs l) by unfold anG anE; rw [if_pos hc]; simp only [Int.toNat_natCast]; rw [hk2]; rfl]
      exact this
  · refine (changed_bad N l ao cap _ _ w hA (Or.inl (by unfold okB; simpa using hc))).mono fun e w' h => h.bad ?_
    unfold anG; rw [if_neg hc]

set_option maxRecDepth 100000 in
set_option maxHeartbeats 4000000 in
theorem zan_gen (N : Int) (l : List Int) (ao : Option Addr) (cap : Nat) (cs : List Con) (dao : Option Addr) (dc : Nat) (w : World) (hA : Arg w ao l) (hD : Arg3 w dao cs) (hdl : cs.length ≤ 1000) :
    Calls Try.prog 24 #[.agg #[.int .i64 N, .slice ao l.length cap], .slice dao cs.length dc] w (ZRes w N (Zo.clo N.toNat (anL N.toNat cs l)) (anG N cs l)) := by
  have CH := Lib.hid (show ∀ W lb, Below w.heap.size w W → W.cell? lb = some (.slice dao cs.length dc) → _ from fun W lb h hp => ch_an N l ao cap cs dao dc lb W (hA.on h) (hD.on h) hdl hp)
  have CT := Lib.hid (show ∀ W pb, Below w.heap.size w W → W.cell? ⟨pb, 0, none⟩ = some (.int .i64 N) → W.cell? ⟨pb, 1, none⟩ = some (.slice ao l.length cap) → _ from fun W pb h hp hq => contains_any N (.slice ao l.length cap) pb cs dao dc W (hD.on h) hdl hp hq)
  generalize Zo.clo N.toNat (anL N.toNat cs l) = r at *
  generalize anG N cs l = er at *
  generalize aokB N cs = ck at *
  generalize l.length = len at *
  generalize cs.length = clen at *
  obtain ⟨w0, hw0⟩ : ∃ w0, w0 = ((w.alloc (.cells #[.int .i64 N, .slice ao len cap] 25)).alloc (.cells #[.slice dao clen dc] 35)).alloc (.cells #[.int .i64 0, .slice none 0 0] 25) := ⟨_, rfl⟩
  have b0 : w0.cell? ⟨w.heap.size, 0, none⟩ = some (.int .i64 N) := by rw [hw0]; go_simp
  have b1 : w0.cell? ⟨w.heap.size, 1, none⟩ = some (.slice ao len cap) := by rw [hw0]; go_simp
  have b2 : w0.cell? ⟨w.heap.size + 1, 0, none⟩ = some (.slice dao clen dc) := by rw [hw0]; go_simp
  have rs : Two w0 (w.heap.size + 1 + 1) (.int .i64 0) (.slice none 0 0) := by
    rw [hw0]
    have := Two.made ((w.alloc (.cells #[.int .i64 N, .slice ao len cap] 25)).alloc (.cells #[.slice dao clen dc] 35)) (.int .i64 0) (.slice none 0 0) 25
    simpa using this
  have z0 : w0.heap.size = w.heap.size + 3 := by rw [hw0]; simp
  have E0 := Lib.hid (show Below w.heap.size w w0 by rw [hw0]; exact past_three (Below.refl _ _))
  have KS := Lib.hid (show ∀ w' : World, Below w0.heap.size w0 w' → w'.cell? ⟨w.heap.size, 0, none⟩ = some (.int .i64 N) ∧ w'.cell? ⟨w.heap.size, 1, none⟩ = some (.slice ao len cap) ∧ w'.cell? ⟨w.heap.size + 1, 0, none⟩ = some (.slice dao clen dc) from fun w' h => ⟨kept h b0, kept h b1, kept h b2⟩)
  have HRS := Lib.hid rs
  clear hA hD hdl rs
  go_enter Try.func24, Try.ntmps24
  go_wp2_with fail
  rw [← hw0]
  clear hw0
  refine (CT.out _ _ E0.out b0 b1).mono ?_
  rintro e w1 ⟨rfl, hb1⟩
  clear b0 b1 b2
  obtain ⟨b0, b1, b2⟩ := KS.out _ hb1
  have B1 := Lib.hid hb1
  clear hb1
  go_wp2_with fail
  refine (CH.out _ _ (below_on E0.out B1.out) b2).mono ?_
  intro e w4 hG
  obtain ⟨hb4, hres⟩ := hG
  have HB4 := Lib.hid (below_on B1.out hb4)
  obtain ⟨q0, q1, q2, q3⟩ := (HRS.out.kept HB4.out).facts
  have h1s := B1.out.size
  clear b0 b1 b2
  rcases hres with ⟨he, g, c, rfl, hgl, hO⟩ | ⟨he, rfl⟩
  · have HO := Lib.hid hO
    subst he
    clear hO hb4
    go_wp2_with fail
    refine bodyPost_ret (v := .tuple #[.agg #[.int .i64 N, .slice (some ⟨g, 0, none⟩) r.length c], .int .i64 0]) (by simp [results, Try.results24, go_sem, q0, q1]) rfl (zres_over E0.out HB4.out HO.out (by omega) (by omega) (by omega) _ _)
  · have HEE := Lib.hid he
    clear he hb4
    go_wp2_with fail
    refine bodyPost_ret (v := .tuple #[.agg #[.int .i64 0, .slice none 0 0], .int .i64 er]) (by simp [results, Try.results24, go_sem, q0, q1]) rfl (zres_over0 E0.out HB4.out HEE.out (by omega) _ _)
end Go.Proofs.Ytmlknjiifjdimaa

namespace Go.Proofs.Ytmlknjiifjdimaa
open Go.RowKit

/-- The cells of constraints. -/
def conV (cs : List Con) : List Value := cs.flatMap fun c => [.int .i64 c.1, .int .i64 c.2.1, .int .i64 c.2.2]

theorem conV_len (cs : List Con) : (conV cs).length = cs.length * 3 := by
  unfold conV; rw [List.length_flatMap]
  induction cs with
  | nil => rfl
  | cons c cs ih => simp only [List.map_cons, List.sum_cons, List.length_cons] at ih ⊢; rw [ih]; simp; omega

theorem conV_app (cs : List Con) (i j x : Int) : conV (cs ++ [(i, j, x)]) = conV cs ++ [.int .i64 i, .int .i64 j, .int .i64 x] := by unfold conV; rw [List.flatMap_append]; rfl

theorem conV_at (cs : List Con) (k : Nat) (hk : k < cs.length) : (conV cs)[k * 3]? = some (.int .i64 (gc cs k).1) ∧ (conV cs)[k * 3 + 1]? = some (.int .i64 (gc cs k).2.1) ∧ (conV cs)[k * 3 + 2]? = some (.int .i64 (gc cs k).2.2) := by
  induction cs generalizing k with
  | nil => simp at hk
  | cons c cs ih =>
    cases k with
    | zero => exact ⟨rfl, rfl, rfl⟩
    | succ k =>
      have := ih k (by simp at hk; omega)
      have e : conV (c :: cs) = [.int .i64 c.1, .int .i64 c.2.1, .int .i64 c.2.2] ++ conV cs := rfl
      have g : gc (c :: cs) (k + 1) = gc cs k := by simp [gc]
      rw [e, g, show (k + 1) * 3 = k * 3 + 3 by omega]
      refine ⟨?_, ?_, ?_⟩
      · rw [List.getElem?_append_right (by simp)]; exact this.1
      · rw [List.getElem?_append_right (by simp)]; simpa using this.2.1
      · rw [List.getElem?_append_right (by simp)]; simpa using this.2.2

/-- A list of constraints that a call has made. -/
def OwnC (w : World) (B : Nat) (v : Value) (cs : List Con) : Prop := w.ownsRow B 56 3 v cs.length (conV cs)

theorem OwnC.nil (w : World) (B : Nat) : OwnC w B (.slice none 0 0) [] := World.ownsRow_nil w B _ _

theorem OwnC.on {w w' : World} {B : Nat} {v : Value} {cs : List Con} (h : OwnC w B v cs) (hb : Below w.heap.size w w') : OwnC w' B v cs := by
  have hg : w.grownBy w' none := ⟨hb.os, hb.tape, hb.output, hb.size, fun k hk _ => hb.block k hk⟩
  exact World.ownsRow.kept h hg (by cases v.ownBlock <;> simp)

theorem OwnC.arg {w : World} {B : Nat} {v : Value} {cs : List Con} (h : OwnC w B v cs) : ∃ ao cap, v = .slice ao cs.length cap ∧ Arg3 w ao cs := by
  rcases h.2 with ⟨rfl, hn⟩ | ⟨g, cap, cur, rfl, hb, hg, hc, hm, hsz, htake⟩
  · exact ⟨none, 0, by rw [hn], fun hne => absurd (List.eq_nil_of_length_eq_zero hn) hne⟩
  · refine ⟨_, cap, rfl, fun _ => ⟨⟨g, 0, none⟩, rfl, fun j hj => ?_⟩⟩
    have hc := World.ownsRow.cellAt (g := g) (cap := cap) h
    obtain ⟨c0, c1, c2⟩ := conV_at cs j hj
    refine ⟨?_, ?_, ?_⟩
    · rw [addr_add]; exact (hc (j * 3) (by omega)).trans c0
    · rw [addr_add]; exact (hc (j * 3 + 1) (by omega)).trans c1
    · rw [addr_add]; exact (hc (j * 3 + 2) (by omega)).trans c2

theorem OwnC.low {w : World} {B B' : Nat} {v : Value} {cs : List Con} (h : OwnC w B v cs) (hb : B' ≤ B) : OwnC w B' v cs := by
  refine ⟨h.1, ?_⟩
  rcases h.2 with c | ⟨g, cap, cur, h1, h2, h3⟩
  · exact Or.inl c
  · exact Or.inr ⟨g, cap, cur, h1, by omega, h3⟩

/-- What Reduce leaves. -/
def CRes (w : World) (cs : List Con) (er : Int) (e : Ending) (w' : World) : Prop :=
  Below w.heap.size w w' ∧ ∃ v, e = .returned (.tuple #[v, .int .i64 er]) ∧ OwnC w' w.heap.size v cs

theorem cells_three {w w' : World} (x y z : Value) (t : TypeId) (hw : w' = w.alloc (.cells #[x, y, z] t)) : ∀ j u, ([x, y, z] : List Value)[j]? = some u → w'.cell? ((⟨w.heap.size, 0, none⟩ : Addr).add j) = some u := by
  subst hw
  intro j u hu
  rw [addr_add]
  match j, hu with
  | 0, hu => simp at hu; subst hu; go_simp
  | 1, hu => simp at hu; subst hu; go_simp
  | 2, hu => simp at hu; subst hu; go_simp

def redT (n : Nat) (l : List Int) (i t : Nat) : List Con := (List.range t).flatMap fun j => if kpB n l i j then [((i : Int), (j : Int), Zo.At n l i j)] else []

def redS (n : Nat) (l : List Int) (t : Nat) : List Con := (List.range t).flatMap fun i => redT n l i (n + 1)

def redL (n : Nat) (l : List Int) : List Con := redS n l (n + 1)

theorem redT_no {n i t : Nat} {l : List Int} (h : kpB n l i t = false) : redT n l i (t + 1) = redT n l i t := by
  unfold redT; rw [List.range_succ, List.flatMap_append]; simp [h]

theorem redT_yes {n i t : Nat} {l : List Int} (h : kpB n l i t = true) : redT n l i (t + 1) = redT n l i t ++ [((i : Int), (t : Int), Zo.At n l i t)] := by
  unfold redT; rw [List.range_succ, List.flatMap_append]; simp [h]

theorem redS_succ (n : Nat) (l : List Int) (t : Nat) : redS n l (t + 1) = redS n l t ++ redT n l t (n + 1) := by
  unfold redS; rw [List.range_succ, List.flatMap_append]; simp

theorem flat_le {α : Type} (f : Nat → List α) (b : Nat) (hf : ∀ i, (f i).length ≤ b) (t : Nat) : ((List.range t).flatMap f).length ≤ t * b := by
  induction t with
  | zero => simp
  | succ t ih =>
    rw [List.range_succ, List.flatMap_append, List.length_append]
    have := hf t
    simp only [List.flatMap_cons, List.flatMap_nil, List.append_nil]
    rw [Nat.add_mul]; omega

theorem redT_len (n : Nat) (l : List Int) (i t : Nat) : (redT n l i t).length ≤ t := by
  have := flat_le (fun j => if kpB n l i j then [((i : Int), (j : Int), Zo.At n l i j)] else []) 1 (fun j => by split <;> simp) t
  unfold redT; omega

theorem redS_len (n : Nat) (l : List Int) (t : Nat) : (redS n l t).length ≤ t * (n + 1) := flat_le _ _ (fun i => redT_len n l i (n + 1)) t

theorem redL_le {n : Nat} {l : List Int} (hn : n ≤ 10) : (redL n l).length ≤ 121 := by
  have := redS_len n l (n + 1)
  have : (n + 1) * (n + 1) ≤ 11 * 11 := Nat.mul_le_mul (by omega) (by omega)
  unfold redL; omega

theorem con_info : (Try.prog.info? 56).map (fun i => (i.zero, i.size, i.bytes)) = some (some (.agg #[.int .i64 0, .int .i64 0, .int .i64 0]), 3, 24) := by kernel_rfl

theorem rkept_len {n : Nat} {l : List Int} {a : Addr} {cap len : Nat} {w : World} (hn : n ≤ 10) (hl : l.length = (n + 1) * (n + 1)) (h : Rd w a l) (hlen : len = l.length) :
    ∀ (i j : Nat) (W : World), i ≤ n → j ≤ n → Below w.heap.size w W → Calls Try.prog 112 #[.agg #[.int .i64 n, .slice (some a) len cap], .int .i64 i, .int .i64 j] W (Made (.bool (kpB n l i j)) W) := by
  intro i j W hi hj h'
  have := rkept_any n i j l a cap W hn hi hj hl (h.on h')
  rw [← hlen] at this; exact this

set_option maxHeartbeats 3200000 in
theorem rreduce_any (n : Nat) (l : List Int) (a : Addr) (cap : Nat) (w : World) (hn : n ≤ 10) (hl : l.length = (n + 1) * (n + 1)) (hc : chkE n l = 0) (h : Rd w a l) :
    Calls Try.prog 55 #[.agg #[.int .i64 n, .slice (some a) l.length cap]] w (CRes w (redL n l) 0) := by
  obtain ⟨len, hlen⟩ : ∃ len, len = l.length := ⟨_, rfl⟩
  obtain ⟨i0, hi, hz0, hz1, hz2⟩ := info_parts con_info
  have AT := Lib.hid (mrat_len (cap := cap) hn hl h hlen)
  have KP := Lib.hid (rkept_len (cap := cap) hn hl h hlen)
  have CK := Lib.hid (show ∀ W, Below w.heap.size w W → Calls Try.prog 18 #[.agg #[.int .i64 n, .slice (some a) len cap]] W (Made (.int .i64 0) W) from fun W h' => by have := check_any n l a cap W hn hl (h.on h'); rw [hc, ← hlen] at this; exact this)
  rw [← hlen]
  obtain ⟨w0, hw0, e0, ks⟩ := zbox n a len cap w
  have KS := Lib.hid ks
  have E0 := Lib.hid e0
  have HW0 := Lib.hid hw0
  obtain ⟨b0, b1⟩ := ks w0 (Below.refl _ _)
  have RL := Lib.hid (show redS n l (n + 1) = redL n l from rfl)
  clear ks e0 hw0 hlen hl h hc
  go_enter Try.func55, Try.ntmps55
  go_wp2_with fail
  rw [← HW0.out]
  go_wp2_with fail
  refine (CK.out _ E0.out).mono ?_
  rintro e w1 ⟨rfl, hb1⟩
  have B1 := Lib.hid hb1
  have BH := Lib.hid (show Below w.heap.size w w1 from below_on E0.out hb1)
  clear hb1 b0 b1
  go_wp2_with fail
  go_loopw [4, 5] (fun v s wr => ∃ (t : Nat) (cs : List Con), t ≤ n + 1 ∧ s = .int .i64 t ∧ Hid (cs = redS n l t ∧ OwnC wr w0.heap.size v cs ∧ Below w0.heap.size w0 wr)) (fun _ s _ => n + 1 - (intOf s).toNat)
  case atStart => exact ⟨0, [], by omega, rfl, Lib.hid ⟨rfl, OwnC.nil _ _, B1.out⟩⟩
  case round =>
    obtain ⟨t, cs, ht, rfl, HX⟩ := hrel
    obtain ⟨b0, b1⟩ := KS.out _ HX.out.2.2
    by_cases htn : t ≤ n
    · go_wp2_with fail
      clear b0 b1
      go_loopw [4, 6] (fun v s wx => ∃ (j : Nat) (ds : List Con), j ≤ n + 1 ∧ s = .int .i64 j ∧ Hid (ds = redS n l t ++ redT n l t j ∧ OwnC wx w0.heap.size v ds ∧ Below w0.heap.size w0 wx)) (fun _ s _ => n + 1 - (intOf s).toNat)
      case atStart => exact ⟨0, cs, by omega, rfl, Lib.hid ⟨by rw [HX.out.1]; simp [redT], HX.out.2.1, HX.out.2.2⟩⟩
      case round =>
        obtain ⟨j, ds, hj, rfl, HY⟩ := hrel
        obtain ⟨b0, b1⟩ := KS.out _ HY.out.2.2
        by_cases hjn : j ≤ n
        · cases hkp : kpB n l t j
          · have HK := Lib.hid hkp
            clear hkp
            go_wp2_with fail
            refine (made_as (KP.out t j _ htn hjn (below_on E0.out HY.out.2.2)) HK.out).mono ?_
            rintro e w2 ⟨rfl, hb2⟩
            have HZ := Lib.hid (show ds = redS n l t ++ redT n l t (j + 1) ∧ OwnC w2 w0.heap.size _ ds ∧ Below w0.heap.size w0 w2 from ⟨by rw [redT_no HK.out]; exact HY.out.1, HY.out.2.1.on hb2, below_on HY.out.2.2 hb2⟩)
            clear hb2 b0 b1
            go_wp2_with fail
            go_roundw
            case rel => exact ⟨j + 1, ds, by omega, by go_num, HZ⟩
            case measure => simp [intOf]; omega
          · have HK := Lib.hid hkp
            obtain ⟨x, hx⟩ : ∃ x, x = Zo.At n l t j := ⟨_, rfl⟩
            have HXX := Lib.hid hx
            have A1 := Lib.hid (show ∀ W, Below w.heap.size w W → Calls Try.prog 113 #[.agg #[.int .i64 n, .slice (some a) len cap], .int .i64 t, .int .i64 j] W (Made (.int .i64 x) W) from fun W h' => by rw [hx]; exact AT.out t j W htn hjn h')
            clear hkp hx
            go_wp2_with fail
            refine (made_as (KP.out t j _ htn hjn (below_on E0.out HY.out.2.2)) HK.out).mono ?_
            rintro e w2 ⟨rfl, hb2⟩
            have B2 := Lib.hid hb2
            clear hb2 b0 b1
            obtain ⟨b0, b1⟩ := KS.out _ (below_on HY.out.2.2 B2.out)
            go_wp2_with fail
            refine (A1.out _ (below_on E0.out (below_on HY.out.2.2 B2.out))).mono ?_
            rintro e w3 ⟨rfl, hb3⟩
            have HZ := Lib.hid (show Below w0.heap.size w0 w3 from below_on (below_on HY.out.2.2 B2.out) hb3)
            have hown := (HY.out.2.1.on B2.out).on hb3
            have hdl : ds.length ≤ 1000 := by
              rw [HY.out.1, List.length_append]
              have := redS_len n l t
              have := redT_len n l t j
              have : t * (n + 1) ≤ 10 * 11 := Nat.mul_le_mul (by omega) (by omega)
              omega
            have hsz : w0.heap.size ≤ w3.heap.size := HZ.out.size
            clear hb3 b0 b1
            go_wp2_with (at_builtin; refine wpList_append_own _ rfl _ _ 35 rfl w0.heap.size 56 i0 (.agg #[.int .i64 0, .int .i64 0, .int .i64 0]) 3 24 Try.underlying35 hi hz0 hz1 hz2 rfl (by decide) _ _ _ rfl (World.ownsRow.alloc hown _) ⟨w3.heap.size, 0, none⟩ 1 1 [.int .i64 t, .int .i64 j, .int .i64 x] rfl rfl (cells_three _ _ _ _ rfl) (by simp [Value.oneCell']) (by unfold maxLen; omega) (by omega) (by simp; omega) ?_)
            intro v' w4 hown4 hgrow _
            have HZ4 := Lib.hid (show Below w0.heap.size w0 w4 from Below.grown (HZ.out.alloc HZ.out.size _) hgrow (by simp; omega) (fun k hk => (World.ownsRow.lt hown k hk).1))
            have HW := Lib.hid (show ds ++ [((t : Int), (j : Int), x)] = redS n l t ++ redT n l t (j + 1) ∧ OwnC w4 w0.heap.size v' (ds ++ [((t : Int), (j : Int), x)]) ∧ Below w0.heap.size w0 w4 from
              ⟨by rw [redT_yes HK.out, HY.out.1, HXX.out, List.append_assoc], by unfold OwnC; rw [conV_app, List.length_append]; exact hown4, HZ4.out⟩)
            clear hown4 hgrow hown hdl hsz
            go_wp2_with fail
            go_roundw
            case rel => exact ⟨j + 1, _, by omega, by go_num, HW⟩
            case measure => simp [intOf]; omega
        · have HE := Lib.hid (show ds = redS n l (t + 1) ∧ OwnC _ w0.heap.size _ ds ∧ Below w0.heap.size w0 _ from ⟨by rw [HY.out.1, redS_succ, show j = n + 1 by omega], HY.out.2⟩)
          go_wp2_with fail
          go_roundw
          case rel => exact ⟨t + 1, ds, by omega, by go_num, HE⟩
          case measure => simp [intOf]; omega
    · have HE := Lib.hid (show cs = redL n l by rw [HX.out.1, ← RL.out, show t = n + 1 by omega])
      go_wp2_with fail
      go_ret2
      exact ⟨below_on E0.out HX.out.2.2, _, rfl, by rw [← HE.out]; exact OwnC.low HX.out.2.1 E0.out.size⟩
end Go.Proofs.Ytmlknjiifjdimaa

namespace Go.Proofs.Ytmlknjiifjdimaa
open Go.RowKit

/-- The classes as an array: for each clock the first one of its class. -/
def Cls (A : Array Value) (n : Nat) (f : Nat → Nat) : Prop := A.size = 11 ∧ A.all (·.oneCell') = true ∧ ∀ k, k ≤ n → A[k]? = some (.int .i64 (f k)) ∧ f k ≤ n

theorem cls_cell {A : Array Value} {n : Nat} {f : Nat → Nat} (hA : Cls A n f) (w : World) : ∀ W, Below (w.alloc (.cells A 120)).heap.size (w.alloc (.cells A 120)) W → ∀ k, k ≤ n → W.cell? ⟨w.heap.size, k, none⟩ = some (.int .i64 (f k)) := by
  intro W h k hk
  refine kept h ?_
  rw [cell_of_row _ _ k A _ _ (heap_alloc_last w _)]
  exact (hA.2.2 k hk).1

def nxN (n : Nat) (f : Nat → Nat) (i : Nat) : Nat := ((List.range (n + 1)).find? fun k => decide (i < k) && decide (f k = f i)).getD (f i)

theorem nx_found {n i t : Nat} {f : Nat → Nat} (h1 : i < t) (h2 : t ≤ n) (h3 : f t = f i) (h4 : ∀ k, i < k → k < t → f k ≠ f i) : nxN n f i = t := by
  unfold nxN
  have : (List.range (n + 1)).find? (fun k => decide (i < k) && decide (f k = f i)) = some t := by
    rw [List.find?_range_eq_some]
    refine ⟨by simp [h1, h3], by simp; omega, fun j hj => ?_⟩
    by_cases c : i < j
    · simp [h4 j c hj]
    · simp [c]
  rw [this]; rfl

theorem nx_none {n i : Nat} {f : Nat → Nat} (h4 : ∀ k, i < k → k ≤ n → f k ≠ f i) : nxN n f i = f i := by
  unfold nxN
  have : (List.range (n + 1)).find? (fun k => decide (i < k) && decide (f k = f i)) = none := by
    rw [List.find?_range_eq_none]
    intro j hj
    by_cases c : i < j
    · simp [h4 j c (by omega)]
    · simp [c]
  rw [this]; rfl

set_option maxHeartbeats 1600000 in
theorem next_any (n i : Nat) (A : Array Value) (f : Nat → Nat) (w : World) (hn : n ≤ 10) (hi : i ≤ n) (hA : Cls A n f) :
    Calls Try.prog 151 #[.agg A, .int .i64 i, .int .i64 n] w (Made (.int .i64 (nxN n f i)) w) := by
  obtain ⟨w0, hw0⟩ : ∃ w0, w0 = w.alloc (.cells A 120) := ⟨_, rfl⟩
  have CC := Lib.hid (cls_cell hA w)
  have FB := Lib.hid (show ∀ k, k ≤ n → f k ≤ n from fun k hk => (hA.2.2 k hk).2)
  have HA := Lib.hid hA
  have E0 := Lib.hid (show Below w.heap.size w w0 by rw [hw0]; exact one_more _)
  rw [← hw0] at CC
  have HW0 := Lib.hid hw0
  clear hA hw0
  go_enter Try.func151, Try.ntmps151
  go_wp2_with fail
  rw [← HW0.out]
  have hi2 := hi
  go_loopw [7] (fun s wr => ∃ t : Nat, i < t ∧ t ≤ n + 1 ∧ s = .int .i64 t ∧ Hid (∀ k, i < k → k < t → f k ≠ f i) ∧ Hid (Below w0.heap.size w0 wr)) (fun s _ => n + 1 - (intOf s).toNat)
  case atStart => exact ⟨i + 1, by omega, by omega, by go_num, Lib.hid (fun k hk hk2 => by omega), Lib.hid (Below.refl _ _)⟩
  case round =>
    obtain ⟨t, hit, ht, rfl, HT, HB⟩ := hrel
    by_cases htn : t ≤ n
    · have c1 := CC.out _ HB.out t htn
      have c2 := CC.out _ HB.out i hi
      by_cases hf : f t = f i
      · have HF := Lib.hid (nx_found hit htn hf HT.out)
        have D : (((f t : Nat) : Int) == ((f i : Nat) : Int)) = true := by simp [hf]
        clear hf
        generalize f t = x at *
        generalize f i = y at *
        go_wp2_with fail
        go_quiet (fail)
        go_wp2_with fail
        go_ret
        exact ⟨ret_int (by rw [HF.out]), below_on E0.out (below_drewN HB.out _)⟩
      · have HT2 := Lib.hid (show ∀ k, i < k → k < t + 1 → f k ≠ f i from fun k h1 h2 => by
          by_cases e : k = t
          · rw [e]; exact hf
          · exact HT.out k h1 (by omega))
        have D : (((f t : Nat) : Int) == ((f i : Nat) : Int)) = false := by simp; omega
        clear hf
        go_wp2_with fail
        go_quiet (fail)
        go_wp2_with fail
        go_roundw
        case rel => exact ⟨t + 1, by omega, by omega, by go_num, HT2, Lib.hid (below_drewN HB.out _)⟩
        case measure => simp [intOf]; omega
    · have c2 := CC.out _ HB.out i hi
      have HF := Lib.hid (nx_none (n := n) (f := f) (i := i) (fun k h1 h2 => HT.out k h1 (by omega)))
      go_wp2_with fail
      go_ret
      exact ⟨ret_int (by rw [HF.out]), below_on E0.out HB.out⟩
end Go.Proofs.Ytmlknjiifjdimaa

namespace Go.Proofs.Ytmlknjiifjdimaa
open Go.RowKit

theorem cls_size : (Try.prog.info? 120).map (·.size) = some 11 := by kernel_rfl

/-- Block b holds the classes. -/
def Crow (w : World) (b : Nat) (A : Array Value) : Prop := w.heap[b]? = some (.cells A 120 (0, 0)) ∧ A.size = 11

theorem Crow.lt {w : World} {b : Nat} {cs : Array Value} (h : Crow w b cs) : b < w.heap.size := by
  by_cases e : b < w.heap.size
  · exact e
  · have := h.1; rw [Array.getElem?_eq_none (by omega)] at this; cases this

theorem Crow.kept {w w' : World} {b : Nat} {cs : Array Value} (h : Crow w b cs) (hb : Below w.heap.size w w') : Crow w' b cs := ⟨(hb.block b h.lt).trans h.1, h.2⟩

theorem Crow.made (w : World) {A : Array Value} (h : A.size = 11) : Crow (w.alloc (.cells A 120)) w.heap.size A := ⟨heap_alloc_last w _, h⟩

theorem Crow.alloc {w : World} {b : Nat} {A : Array Value} (h : Crow w b A) (o : Obj) : Crow (w.alloc o) b A := h.kept (one_more o)

theorem Crow.cell {w : World} {b : Nat} {A : Array Value} (h : Crow w b A) {n : Nat} {f : Nat → Nat} (hA : Cls A n f) {k : Nat} (hk : k ≤ n) : w.cell? ⟨b, k, none⟩ = some (.int .i64 (f k)) := by
  rw [cell_of_row _ _ k A _ _ h.1]; exact (hA.2.2 k hk).1

theorem wplc_load {ops : Array Oper} {rest : List Oper} {o : Oper} {a : Act} {w : World} {Q : Exit → Act → World → Prop} (hgd : o.guard = none) (x : Operand) (ho : o.op = .load 120 x)
    (b : Nat) (hx : a.eval x = .pointer (some ⟨b, 0, none⟩)) (cs : Array Value) (hv : Crow w b cs) (h : wpList Try.prog ops Q rest (a.put o.dst (.agg cs)) w) : wpList Try.prog ops Q (o :: rest) a w :=
  wpList_load_row hgd _ x ho b hx _ cs (0, 0) _ hv.1 Try.underlying120 rfl (by rw [hv.2]; exact cls_size) h

def kwB (n : Nat) (l : List Int) (f : Nat → Nat) (i j : Nat) : Bool := decide (j = nxN n f i) && !plB n l i j

def kbX (n : Nat) (l : List Int) (f : Nat → Nat) (i j k : Nat) : Bool := decide (f k = j) && plB n l i k

def kbY (n : Nat) (l : List Int) (f : Nat → Nat) (i j k : Nat) : Bool := decide (f k = k) && !decide (k = i) && !decide (k = j) && suB (Zo.At n l i k) (Zo.At n l k j) (Zo.At n l i j)

def kbB (n : Nat) (l : List Int) (f : Nat → Nat) (i j : Nat) : Bool := decide (f i = i) && decide (f j = j) && (List.range (n + 1)).all fun k => !(kbX n l f i j k || kbY n l f i j k)

theorem kbB_no {n i j k : Nat} {l : List Int} {f : Nat → Nat} (hk : k < n + 1) (h : (kbX n l f i j k || kbY n l f i j k) = true) : kbB n l f i j = false := by
  unfold kbB
  have : ((List.range (n + 1)).all fun k => !(kbX n l f i j k || kbY n l f i j k)) = false := by
    rw [List.all_eq_false]; exact ⟨k, List.mem_range.2 hk, by rw [h]; simp⟩
  rw [this]; simp

theorem kbB_yes {n i j : Nat} {l : List Int} {f : Nat → Nat} (hi : f i = i) (hj : f j = j) (h : ∀ k, k < n + 1 → (kbX n l f i j k || kbY n l f i j k) = false) : kbB n l f i j = true := by
  unfold kbB
  simp only [hi, hj, decide_true, Bool.true_and, List.all_eq_true]
  intro k hk
  rw [h k (List.mem_range.1 hk)]; rfl

def ksB (n : Nat) (l : List Int) (f : Nat → Nat) (i j : Nat) : Bool := !decide (i = j) && !decide (Zo.At n l i j = 1099511627776) && (if f i = f j then kwB n l f i j else kbB n l f i j)

/-- The frame: the classes and a zone, boxed. -/
theorem czbox (n : Nat) (a : Addr) (len cap : Nat) (A : Array Value) (f : Nat → Nat) (hA : Cls A n f) (w : World) : ∃ w0, w0 = (w.alloc (.cells A 120)).alloc (.cells #[.int .i64 n, .slice (some a) len cap] 25) ∧ Below w.heap.size w w0 ∧
    (∀ W : World, Below w0.heap.size w0 W → (W.cell? ⟨w.heap.size + 1, 0, none⟩ = some (.int .i64 n) ∧ W.cell? ⟨w.heap.size + 1, 1, none⟩ = some (.slice (some a) len cap))) ∧
    (∀ W : World, Below w0.heap.size w0 W → Crow W w.heap.size A) ∧ (∀ W : World, Below w0.heap.size w0 W → ∀ k, k ≤ n → W.cell? ⟨w.heap.size, k, none⟩ = some (.int .i64 (f k))) := by
  refine ⟨_, rfl, past_two (Below.refl _ _), fun W h => ?_, fun W h => ?_, fun W h k hk => ?_⟩
  · have := (Two.made (w.alloc (.cells A 120)) (.int .i64 n) (.slice (some a) len cap) 25).kept h
    have e : (w.alloc (.cells A 120)).heap.size = w.heap.size + 1 := by simp
    rw [e] at this
    exact ⟨this.facts.1, this.facts.2.1⟩
  · exact ((Crow.made w hA.1).alloc _).kept h
  · exact (((Crow.made w hA.1).alloc _).kept h).cell hA hk

theorem miat_len {n : Nat} {l : List Int} {a : Addr} {cap len : Nat} {w : World} (hn : n ≤ 10) (hl : l.length = (n + 1) * (n + 1)) (h : Rd w a l) (hlen : len = l.length) :
    ∀ (i j : Nat) (W : World), i ≤ n → j ≤ n → Below w.heap.size w W → Calls Try.prog 132 #[.agg #[.int .i64 n, .slice (some a) len cap], .int .i64 i, .int .i64 j] W (Made (.int .i64 (Zo.At n l i j)) W) := by
  intro i j W hi hj h'
  have := miat_any n i j l a cap W hn hi hj hl (h.on h')
  rw [← hlen] at this; exact this

theorem plain_len {n : Nat} {l : List Int} {a : Addr} {cap len : Nat} {w : World} (hn : n ≤ 10) (hl : l.length = (n + 1) * (n + 1)) (h : Rd w a l) (hlen : len = l.length) :
    ∀ (i j : Nat) (W : World), i ≤ n → j ≤ n → Below w.heap.size w W → Calls Try.prog 152 #[.agg #[.int .i64 n, .slice (some a) len cap], .int .i64 i, .int .i64 j] W (Made (.bool (plB n l i j)) W) := by
  intro i j W hi hj h'
  have := plain_any n i j l a cap W hn hi hj hl (h.on h')
  rw [← hlen] at this; exact this

theorem issum_len {n : Nat} {l : List Int} {a : Addr} {cap len : Nat} {w : World} (hn : n ≤ 10) (hl : l.length = (n + 1) * (n + 1)) (hv : ∀ i j, i ≤ n → j ≤ n → I64 (Zo.At n l i j)) (h : Rd w a l) (hlen : len = l.length) :
    ∀ (i k j : Nat) (W : World), i ≤ n → k ≤ n → j ≤ n → Below w.heap.size w W → Calls Try.prog 153 #[.agg #[.int .i64 n, .slice (some a) len cap], .int .i64 i, .int .i64 k, .int .i64 j] W (Made (.bool (suB (Zo.At n l i k) (Zo.At n l k j) (Zo.At n l i j))) W) := by
  intro i k j W hi hk hj h'
  have := issum_any n i k j l a cap W hn hi hk hj hl hv (h.on h')
  rw [← hlen] at this; exact this

set_option maxHeartbeats 3200000 in
theorem within_any (n i j : Nat) (l : List Int) (a : Addr) (cap : Nat) (A : Array Value) (f : Nat → Nat) (w : World) (hn : n ≤ 10) (hi : i ≤ n) (hj : j ≤ n) (hl : l.length = (n + 1) * (n + 1)) (h : Rd w a l) (hA : Cls A n f) :
    Calls Try.prog 134 #[.agg A, .agg #[.int .i64 n, .slice (some a) l.length cap], .int .i64 i, .int .i64 j] w (Made (.bool (kwB n l f i j)) w) := by
  obtain ⟨len, hlen⟩ : ∃ len, len = l.length := ⟨_, rfl⟩
  have PL := Lib.hid (plain_len (cap := cap) hn hl h hlen)
  have NX := Lib.hid (fun W => next_any n i A f W hn hi hA)
  rw [← hlen]
  obtain ⟨w0, hw0, e0, ks, kr, kc⟩ := czbox n a len cap A f hA w
  have KS := Lib.hid ks
  have KR := Lib.hid kr
  have E0 := Lib.hid e0
  have HW0 := Lib.hid hw0
  have HK := Lib.hid (show kwB n l f i j = (decide (j = nxN n f i) && !plB n l i j) from rfl)
  obtain ⟨b0, b1⟩ := ks w0 (Below.refl _ _)
  generalize nxN n f i = x at *
  have KR0 := Lib.hid (show Crow ((w.alloc (.cells A 120)).alloc (.cells #[.int .i64 n, .slice (some a) len cap] 25)) w.heap.size A by rw [← hw0]; exact kr _ (Below.refl _ _))
  have B0 := Lib.hid (Below.refl w0.heap.size w0)
  clear ks kr kc e0 hw0 hlen hl h hA
  by_cases hx : j = x
  · have D : ((j : Int) == (x : Int)) = true := by simp; omega
    have HF0 := Lib.hid (show kwB n l f i j = !plB n l i j by rw [HK.out, decide_eq_true hx]; rfl)
    clear hx
    cases hp : plB n l i j
    · have HP := Lib.hid hp
      have HF := Lib.hid (show kwB n l f i j = true by rw [HF0.out, hp]; rfl)
      clear hp
      go_enter Try.func134, Try.ntmps134
      go_wp2_with (refine wplc_load rfl _ rfl _ rfl _ KR0.out ?_)
      rw [← HW0.out]
      refine (NX.out _).mono ?_
      rintro e w1 ⟨rfl, hb1⟩
      have B1 := Lib.hid hb1
      clear hb1 b0 b1
      obtain ⟨b0, b1⟩ := KS.out _ B1.out
      go_wp2_with fail
      refine (made_as (PL.out i j _ hi hj (below_on E0.out B1.out)) HP.out).mono ?_
      rintro e w2 ⟨rfl, hb2⟩
      have B2 := Lib.hid (below_on B1.out hb2)
      clear hb2 b0 b1
      go_wp2_with fail
      go_ret
      exact ⟨ret_bool HF.out.symm, below_on E0.out B2.out⟩
    · have HP := Lib.hid hp
      have HF := Lib.hid (show kwB n l f i j = false by rw [HF0.out, hp]; rfl)
      clear hp
      go_enter Try.func134, Try.ntmps134
      go_wp2_with (refine wplc_load rfl _ rfl _ rfl _ KR0.out ?_)
      rw [← HW0.out]
      refine (NX.out _).mono ?_
      rintro e w1 ⟨rfl, hb1⟩
      have B1 := Lib.hid hb1
      clear hb1 b0 b1
      obtain ⟨b0, b1⟩ := KS.out _ B1.out
      go_wp2_with fail
      refine (made_as (PL.out i j _ hi hj (below_on E0.out B1.out)) HP.out).mono ?_
      rintro e w2 ⟨rfl, hb2⟩
      have B2 := Lib.hid (below_on B1.out hb2)
      clear hb2 b0 b1
      go_wp2_with fail
      go_ret
      exact ⟨ret_bool HF.out.symm, below_on E0.out B2.out⟩
  · have D : ((j : Int) == (x : Int)) = false := by simp; omega
    have HF := Lib.hid (show kwB n l f i j = false by rw [HK.out, decide_eq_false hx]; rfl)
    clear hx
    go_enter Try.func134, Try.ntmps134
    go_wp2_with (refine wplc_load rfl _ rfl _ rfl _ KR0.out ?_)
    rw [← HW0.out]
    refine (NX.out _).mono ?_
    rintro e w1 ⟨rfl, hb1⟩
    have B1 := Lib.hid hb1
    clear hb1 b0 b1
    go_wp2_with fail
    go_ret
    exact ⟨ret_bool HF.out.symm, below_on E0.out B1.out⟩
end Go.Proofs.Ytmlknjiifjdimaa
