/- Contracts of layer 3's open, of whatever zone, Check, and changed.; Plain mathematics: matrices whose closing begins alike.; The contract of Free of layer 3's reference.; Contracts of layer 3's Up, Down and Free.; Contracts of layer 3's Up and Down, in the reference's words.; Contracts of layer 3's Up and Down. -/
import Derived.Test.YtmlknjiifjdimaaG6
import Derived.Test.YtmlknjiifjdimaaG3

namespace Go.Proofs.Ytmlknjiifjdimaa
open Go.RowKit

theorem Cell.kept_row {w : World} {p : Addr} {v : Value} (h : Cell w p v) {b : Nat} (hne : p.block ≠ b) (cs : Array Value) : Cell (w.setRow b cs) p v :=
  ⟨by rw [cell_setRow_other w b cs p hne]; exact h.1, by unfold World.frozen?; rw [setRow_other w b _ cs hne]; exact h.2⟩

theorem Two.kept_row {w : World} {x : Nat} {u v : Value} (h : Two w x u v) {b : Nat} (hne : x ≠ b) (cs : Array Value) : Two (w.setRow b cs) x u v := ⟨h.1.kept_row hne cs, h.2.kept_row hne cs⟩

def okB (N : Int) (l : List Int) : Bool := decide (chkE N l = 0)

theorem open_gen (N : Int) (l : List Int) (ao : Option Addr) (cap : Nat) (w : World) (hA : Arg w ao l) :
    Calls Try.prog 67 #[.agg #[.int .i64 N, .slice ao l.length cap]] w (fun e w' => e = .returned (.tuple #[.agg (rdW N l), .bool (okB N l)]) ∧ Below w.heap.size w w') := by
  cases hr : rdB N l
  · refine (open_bad N l ao cap w hA hr).mono ?_
    rintro e w' ⟨rfl, hb⟩
    exact ⟨by unfold rdW okB; rw [hr, chk_read hr]; rfl, hb⟩
  · obtain ⟨n, rfl, hn, hl, hv⟩ := rdB_ok hr
    refine (open_ok n l ao cap w hA hn hl hv).mono ?_
    rintro e w' ⟨rfl, hb⟩
    exact ⟨by unfold rdW okB; rw [hr]; rfl, hb⟩

theorem rdW_size (N : Int) (l : List Int) : (rdW N l).size = 122 := by
  unfold rdW
  cases hr : rdB N l
  · exact mcs_size (by simp)
  · obtain ⟨n, rfl, hn, hl, hv⟩ := rdB_ok hr
    exact mcs_size (by rw [hl]; exact dsq_le hn)

theorem rdW_one (N : Int) (l : List Int) : (rdW N l).all (·.oneCell') = true := by
  unfold rdW; split <;> exact mcs_one _ _

theorem rdW_ok {n : Nat} {l : List Int} (h : chkE n l = 0) : rdW n l = mcs n l := by
  cases hr : rdB n l
  · rw [chk_read hr] at h; cases h
  · unfold rdW; rw [hr]; rfl

theorem chk_64 {n : Nat} {l : List Int} (h : chkE n l = 0) : Zo.A64 l ∧ rdL l = true := by
  cases hr : rdB n l
  · rw [chk_read hr] at h; cases h
  · obtain ⟨_, _, _, _, hv⟩ := rdB_ok hr
    exact ⟨a64_of hv, hv⟩

set_option maxRecDepth 100000 in
set_option maxHeartbeats 4000000 in
theorem zcheck_gen (N : Int) (l : List Int) (ao : Option Addr) (cap : Nat) (w : World) (hA : Arg w ao l) :
    Calls Try.prog 17 #[.agg #[.int .i64 N, .slice ao l.length cap]] w (Made (.int .i64 (chkE N l)) w) := by
  have hz := mx_zero
  have sz := rdW_size N l
  have s1 := rdW_one N l
  have CO := Lib.hid (show ∀ W, Below w.heap.size w W → Calls Try.prog 67 #[.agg #[.int .i64 N, .slice ao l.length cap]] W (fun e w' => e = .returned (.tuple #[.agg (rdW N l), .bool (okB N l)]) ∧ Below W.heap.size W w') from fun W h => open_gen N l ao cap W (hA.on h))
  have HE := Lib.hid (show chkE N l = if okB N l then 0 else 2 by
    unfold okB
    by_cases h : chkE N l = 0
    · simp [h]
    · simp [chk_two h])
  generalize rdW N l = A at *
  generalize okB N l = ok at *
  generalize chkE N l = ce at *
  generalize l.length = len at *
  have E0 := Lib.hid (one_more (w1 := w) (.cells #[.int .i64 N, .slice ao len cap] 25))
  clear hA
  go_enter Try.func17, Try.ntmps17
  go_wp2_with fail
  refine (CO.out _ E0.out).mono ?_
  rintro e w1 ⟨rfl, hb⟩
  have HB := Lib.hid (below_on E0.out hb)
  clear hb
  cases ok
  · go_wp2_with (refine wpl_store rfl _ _ rfl _ _ rfl rfl _ (Var.made _) sz s1 ?_)
    go_ret
    exact ⟨ret_int (by rw [HE.out]; rfl), Below.setRow (HB.out.alloc HB.out.size _) HB.out.size _⟩
  · go_wp2_with (refine wpl_store rfl _ _ rfl _ _ rfl rfl _ (Var.made _) sz s1 ?_)
    go_ret
    exact ⟨ret_int (by rw [HE.out]; rfl), Below.setRow (HB.out.alloc HB.out.size _) HB.out.size _⟩

set_option maxRecDepth 100000 in
set_option maxHeartbeats 4000000 in
/-- changed, where nothing is changed. -/
theorem changed_bad (N : Int) (l : List Int) (ao : Option Addr) (cap : Nat) (al : Bool) (fv : Value) (w : World) (hA : Arg w ao l) (h : okB N l = false ∨ al = false) :
    Calls Try.prog 76 #[.agg #[.int .i64 N, .slice ao l.length cap], .bool al, fv] w (ZRes w 0 [] 2) := by
  have hz := mx_zero
  have sz := rdW_size N l
  have s1 := rdW_one N l
  have CO := Lib.hid (show ∀ W, Below w.heap.size w W → Calls Try.prog 67 #[.agg #[.int .i64 N, .slice ao l.length cap]] W (fun e w' => e = .returned (.tuple #[.agg (rdW N l), .bool (okB N l)]) ∧ Below W.heap.size W w') from fun W h => open_gen N l ao cap W (hA.on h))
  generalize rdW N l = A at *
  generalize okB N l = ok at *
  generalize l.length = len at *
  obtain ⟨w0, hw0⟩ : ∃ w0, w0 = (w.alloc (.cells #[.int .i64 N, .slice ao len cap] 25)).alloc (.cells #[.int .i64 0, .slice none 0 0] 25) := ⟨_, rfl⟩
  have bx : Two w0 w.heap.size (.int .i64 N) (.slice ao len cap) := by rw [hw0]; exact (Two.made _ _ _ _).alloc _
  have rs : Two w0 (w.heap.size + 1) (.int .i64 0) (.slice none 0 0) := by
    rw [hw0]
    have := Two.made (w.alloc (.cells #[.int .i64 N, .slice ao len cap] 25)) (.int .i64 0) (.slice none 0 0) 25
    simpa using this
  have E0 := Lib.hid (show Below w.heap.size w w0 by rw [hw0]; exact past_two (Below.refl _ _))
  clear hA
  go_enter Try.func76, Try.ntmps76
  go_wp2_with fail
  rw [← hw0]
  clear hw0
  obtain ⟨b0, b1, b2, b3⟩ := bx.facts
  go_wp2_with fail
  refine (CO.out _ E0.out).mono ?_
  rintro e w1 ⟨rfl, hb⟩
  have rs1 := rs.kept hb
  have HB := Lib.hid (below_on E0.out hb)
  have hlt := rs1.lt
  have hsz := HB.out.size
  have rs2 := (rs1.alloc (.cells (mcs 0 []) 80))
  have rs3 : Two ((w1.alloc (.cells (mcs 0 []) 80)).setRow w1.heap.size A) (w.heap.size + 1) (.int .i64 0) (.slice none 0 0) :=
    rs2.kept_row (by omega) A
  obtain ⟨q0, q1, q2, q3⟩ := rs3.facts
  have HE := Lib.hid (show Below w.heap.size w ((w1.alloc (.cells (mcs 0 []) 80)).setRow w1.heap.size A) from Below.setRow (HB.out.alloc hsz _) hsz _)
  clear bx rs rs1 rs2 rs3 hb b0 b1 b2 b3
  cases ok
  · go_wp2_with (refine wpl_store rfl _ _ rfl _ _ rfl rfl _ (Var.made _) sz s1 ?_)
    refine bodyPost_ret (v := .tuple #[.agg #[.int .i64 0, .slice none 0 0], .int .i64 2]) (by simp [results, Try.results76, go_sem, q0, q1]) rfl (zres_bad ?_)
    exact (HE.out.setCell (by show w.heap.size ≤ w.heap.size + 1; omega) _).setCell (by show w.heap.size ≤ w.heap.size + 1; omega) _
  · have ha : al = false := by rcases h with h | h; cases h; exact h
    subst ha
    go_wp2_with (refine wpl_store rfl _ _ rfl _ _ rfl rfl _ (Var.made _) sz s1 ?_)
    refine bodyPost_ret (v := .tuple #[.agg #[.int .i64 0, .slice none 0 0], .int .i64 2]) (by simp [results, Try.results76, go_sem, q0, q1]) rfl (zres_bad ?_)
    exact (HE.out.setCell (by show w.heap.size ≤ w.heap.size + 1; omega) _).setCell (by show w.heap.size ≤ w.heap.size + 1; omega) _

set_option maxRecDepth 100000 in
set_option maxHeartbeats 4000000 in
/-- changed, where the change makes gl of the matrix. -/
theorem changed_ok (n : Nat) (l gl : List Int) (ao : Option Addr) (cap : Nat) (f : FuncId) (caps : Array Value) (w : World) (hA : Arg w ao l) (hn : n ≤ 10) (hl : l.length = (n + 1) * (n + 1)) (hc : chkE n l = 0) (h64 : Zo.A64 gl)
    (HF : ∀ (args : Array Value) (W : World), (callFunc f args).run Try.prog W = .ok (.enter f args) W)
    (CF : ∀ W b, Below w.heap.size w W → w.heap.size ≤ b → Mx W b n l → Calls Try.prog f (#[.pointer (some ⟨b, 0, none⟩)] ++ caps) W (fun e w' => e = .returned (.tuple #[]) ∧ MSt W b n gl w')) :
    Calls Try.prog 76 #[.agg #[.int .i64 n, .slice ao l.length cap], .bool true, .func (.func f) #[] caps] w (ZRes w n (Zo.clo n gl) (cloE n gl)) := by
  have hz := mx_zero
  have sz : (mcs n l).size = 122 := mcs_size (by rw [hl]; exact dsq_le hn)
  have s1 := mcs_one n l
  have CO := Lib.hid (show ∀ W, Below w.heap.size w W → Calls Try.prog 67 #[.agg #[.int .i64 n, .slice ao l.length cap]] W (fun e w' => e = .returned (.tuple #[.agg (mcs n l), .bool true]) ∧ Below W.heap.size W w') from fun W h => by
    have := open_gen n l ao cap W (hA.on h)
    rwa [rdW_ok hc, show okB n l = true by unfold okB; rw [hc]; rfl] at this)
  have HCF := Lib.hid CF
  have HMZ := Lib.hid (fun (b : Nat) (W : World) (h : Mx W b n gl) => mzone_any b n gl W hn h h64)
  have HLE := Lib.hid hl
  generalize l.length = len at CO ⊢
  obtain ⟨w0, hw0⟩ : ∃ w0, w0 = (w.alloc (.cells #[.int .i64 n, .slice ao len cap] 25)).alloc (.cells #[.int .i64 0, .slice none 0 0] 25) := ⟨_, rfl⟩
  have bx : Two w0 w.heap.size (.int .i64 n) (.slice ao len cap) := by rw [hw0]; exact (Two.made _ _ _ _).alloc _
  have rs : Two w0 (w.heap.size + 1) (.int .i64 0) (.slice none 0 0) := by
    rw [hw0]
    have := Two.made (w.alloc (.cells #[.int .i64 n, .slice ao len cap] 25)) (.int .i64 0) (.slice none 0 0) 25
    simpa using this
  have E0 := Lib.hid (show Below w.heap.size w w0 by rw [hw0]; exact past_two (Below.refl _ _))
  clear hA hl hc h64 CF
  go_enter Try.func76, Try.ntmps76
  go_wp2_with fail
  rw [← hw0]
  clear hw0
  obtain ⟨b0, b1, b2, b3⟩ := bx.facts
  go_wp2_with fail
  refine (CO.out _ E0.out).mono ?_
  rintro e w1 ⟨rfl, hb⟩
  have rs1 := rs.kept hb
  have HB := Lib.hid (below_on E0.out hb)
  have hlt := rs1.lt
  have hsz := HB.out.size
  have rs2 := (rs1.alloc (.cells (mcs 0 []) 80))
  obtain ⟨w2, hw2⟩ : ∃ w2, w2 = (w1.alloc (.cells (mcs 0 []) 80)).setRow w1.heap.size (mcs n l) := ⟨_, rfl⟩
  have rs3 : Two w2 (w.heap.size + 1) (.int .i64 0) (.slice none 0 0) := by rw [hw2]; exact rs2.kept_row (by omega) _
  have M2 : Mx w2 w1.heap.size n l := by rw [hw2]; exact ⟨((Var.made w1).put (mcs n l) sz).1, HLE.out⟩
  have HRS := Lib.hid rs3
  have HM2 := Lib.hid M2
  have HE := Lib.hid (show Below w.heap.size w w2 by rw [hw2]; exact Below.setRow (HB.out.alloc hsz _) hsz _)
  clear bx rs rs1 rs2 rs3 M2 hb b0 b1 b2 b3
  go_wp2_with (refine wpl_store rfl _ _ rfl _ _ rfl rfl _ (Var.made _) sz s1 ?_)
  rw [← hw2]
  clear hw2
  go_wp2_with fail
  refine (HCF.out _ _ HE.out hsz HM2.out).mono ?_
  rintro e w3 ⟨rfl, hM⟩
  have HM3 := Lib.hid hM.1
  have E3 := Lib.hid (grown_over HE.out hM.2 hsz)
  have rs3 := HRS.out.grown hM.2 (by omega)
  have HR3 := Lib.hid rs3
  clear hM rs3 HF HCF
  go_wp2_with fail
  refine (HMZ.out _ _ HM3.out).mono ?_
  intro e w4 hG
  obtain ⟨hg4, hres⟩ := hG
  have E4 := Lib.hid (grown_over E3.out hg4 hsz)
  obtain ⟨q0, q1, q2, q3⟩ := (HR3.out.grown hg4 (by omega)).facts
  have h34 := E3.out.size
  rcases hres with ⟨he, g, c, rfl, hgl, hO⟩ | ⟨he, rfl⟩
  · have HO := Lib.hid hO
    have HEE := Lib.hid he
    clear hO hg4 he
    go_wp2_with fail
    refine bodyPost_ret (v := .tuple #[.agg #[.int .i64 n, .slice (some ⟨g, 0, none⟩) (Zo.clo n gl).length c], .int .i64 0]) (by simp [results, Try.results76, go_sem, q0, q1]) rfl ⟨?_, Or.inl ⟨HEE.out, g, c, rfl, by omega, put_far HO.out (by have := HR3.out.lt; omega) _ _⟩⟩
    exact (E4.out.setCell (by show w.heap.size ≤ w.heap.size + 1; omega) _).setCell (by show w.heap.size ≤ w.heap.size + 1; omega) _
  · have HEE := Lib.hid he
    clear hg4 he
    go_wp2_with fail
    refine bodyPost_ret (v := .tuple #[.agg #[.int .i64 0, .slice none 0 0], .int .i64 (cloE n gl)]) (by simp [results, Try.results76, go_sem, q0, q1]) rfl ⟨?_, Or.inr ⟨HEE.out, rfl⟩⟩
    exact (E4.out.setCell (by show w.heap.size ≤ w.heap.size + 1; omega) _).setCell (by show w.heap.size ≤ w.heap.size + 1; omega) _
end Go.Proofs.Ytmlknjiifjdimaa

namespace Go.Proofs.Ytmlknjiifjdimaa.Zo

theorem At_ext {n : Nat} {x y : List Int} (hx : x.length = (n + 1) * (n + 1)) (hy : y.length = (n + 1) * (n + 1)) (h : ∀ a b, a ≤ n → b ≤ n → At n x a b = At n y a b) : x = y := by
  refine List.ext_getElem (by omega) fun i h1 h2 => ?_
  have c1 : i / (n + 1) ≤ n := by
    have : i < (n + 1) * (n + 1) := by omega
    have := Nat.div_lt_of_lt_mul this
    omega
  have c2 : i % (n + 1) ≤ n := by have := Nat.mod_lt i (show 0 < n + 1 by omega); omega
  have := h _ _ c1 c2
  unfold At ix gt at this
  rw [show i / (n + 1) * (n + 1) + i % (n + 1) = i by rw [Nat.mul_comm]; exact Nat.div_add_mod i (n + 1)] at this
  simpa [h1, h2] using this

theorem pre_at {n : Nat} {l : List Int} (hl : l.length = (n + 1) * (n + 1)) {a b : Nat} (ha : a ≤ n) (hb : b ≤ n) : At n (pre n l) a b = if a = 0 ∨ a = b then min (At n l a b) 1 else At n l a b := by
  have h : ∀ t, t ≤ n + 1 → ((List.range t).foldl (st1 n) l).length = (n + 1) * (n + 1) ∧ At n ((List.range t).foldl (st1 n) l) a b = if (a = 0 ∨ a = b) ∧ b < t then min (At n l a b) 1 else At n l a b := by
    intro t
    induction t with
    | zero => intro _; exact ⟨hl, by simp⟩
    | succ t ih =>
      intro ht
      obtain ⟨h1, h2⟩ := ih (by omega)
      rw [fold_succ]
      generalize (List.range t).foldl (st1 n) l = Y at *
      refine ⟨by simpa [st1] using h1, ?_⟩
      have e : st1 n Y t = (Y.set (ix n 0 t) (min (At n Y 0 t) 1)).set (ix n t t) (min (At n (Y.set (ix n 0 t) (min (At n Y 0 t) 1)) t t) 1) := rfl
      have l1 : (Y.set (ix n 0 t) (min (At n Y 0 t) 1)).length = (n + 1) * (n + 1) := by simpa using h1
      rw [e, At_set l1 (by omega) (by omega) _ hb, At_set h1 (by omega) (by omega) _ hb, At_set h1 (by omega) (by omega) _ (by omega)]
      by_cases c : b = t
      · subst c
        by_cases ca : a = 0
        · subst ca
          have e1 : At n Y 0 b = At n l 0 b := by rw [h2, if_neg (by omega)]
          by_cases cb : b = 0
          · subst cb; simp [e1]
          · rw [if_neg (by omega), if_pos ⟨rfl, rfl⟩, if_pos ⟨Or.inl rfl, by omega⟩, e1]
        · by_cases cb : a = b
          · subst cb
            have e1 : At n Y a a = At n l a a := by rw [h2, if_neg (by omega)]
            rw [if_pos ⟨rfl, rfl⟩, if_neg (by omega), if_pos ⟨Or.inr rfl, by omega⟩, e1]
          · rw [if_neg (by omega), if_neg (by omega), if_neg (by omega), h2, if_neg (by omega)]
      · rw [if_neg (by omega), if_neg (by omega), h2]
        by_cases ca : (a = 0 ∨ a = b) ∧ b < t
        · rw [if_pos ca, if_pos ⟨ca.1, by omega⟩]
        · rw [if_neg ca, if_neg (by omega)]
  have := (h (n + 1) (Nat.le_refl _)).2
  rw [show (List.range (n + 1)).foldl (st1 n) l = pre n l from rfl] at this
  rw [this]
  by_cases c : a = 0 ∨ a = b
  · rw [if_pos ⟨c, by omega⟩, if_pos c]
  · rw [if_neg (by omega), if_neg c]

theorem pre_len {n : Nat} {l : List Int} (hl : l.length = (n + 1) * (n + 1)) : (pre n l).length = (n + 1) * (n + 1) := rnd_length hl 0 (by omega)

theorem pre_eq {n : Nat} {x y : List Int} (hx : x.length = (n + 1) * (n + 1)) (hy : y.length = (n + 1) * (n + 1))
    (h : ∀ a b, a ≤ n → b ≤ n → (a ≠ 0 ∧ a ≠ b → At n x a b = At n y a b) ∧ (a = 0 ∨ a = b → min (At n x a b) 1 = min (At n y a b) 1)) : pre n x = pre n y := by
  refine At_ext (pre_len hx) (pre_len hy) fun a b ha hb => ?_
  rw [pre_at hx ha hb, pre_at hy ha hb]
  by_cases c : a = 0 ∨ a = b
  · rw [if_pos c, if_pos c]; exact (h a b ha hb).2 c
  · rw [if_neg c, if_neg c]; exact (h a b ha hb).1 (by omega)

theorem clo_pre {n : Nat} {x y : List Int} (h : pre n x = pre n y) : clo n x = clo n y := by unfold clo; rw [h]

/-- A fold of stores: each place gets its own value. -/
theorem fold_at {n : Nat} {N : Nat} {f : List Int → Nat → List Int} {p : Nat → Nat → Nat → Bool} {v : Int} (hf : ∀ (x : List Int) t, t < N → x.length = (n + 1) * (n + 1) → (f x t).length = (n + 1) * (n + 1) ∧ ∀ a b, a ≤ n → b ≤ n → At n (f x t) a b = if p t a b then v else At n x a b)
    {l : List Int} (hl : l.length = (n + 1) * (n + 1)) : ∀ t, t ≤ N → ((List.range t).foldl f l).length = (n + 1) * (n + 1) ∧ ∀ a b, a ≤ n → b ≤ n → At n ((List.range t).foldl f l) a b = if (List.range t).any (fun s => p s a b) then v else At n l a b := by
  intro t
  induction t with
  | zero => intro _; exact ⟨hl, fun a b _ _ => by simp⟩
  | succ t ih =>
    intro ht
    obtain ⟨h1, h2⟩ := ih (by omega)
    rw [fold_succ]
    obtain ⟨h3, h4⟩ := hf _ t (by omega) h1
    refine ⟨h3, fun a b ha hb => ?_⟩
    rw [h4 a b ha hb, h2 a b ha hb, List.range_succ, List.any_append]
    cases h5 : p t a b <;> cases h6 : (List.range t).any (fun s => p s a b) <;> simp [h5]
end Go.Proofs.Ytmlknjiifjdimaa.Zo

namespace Go.Proofs.Ytmlknjiifjdimaa
open Go.RowKit

def frS (n i : Nat) (x : List Int) (t : Nat) : List Int := if t = i then x else (x.set (Zo.ix n i t) 1099511627776).set (Zo.ix n t i) 1099511627776

def frL (n i : Nat) (l : List Int) : List Int := (List.range (n + 1)).foldl (frS n i) l

theorem frS_len (n i : Nat) (x : List Int) (t : Nat) : (frS n i x t).length = x.length := by unfold frS; split <;> simp

theorem frL_len (n i : Nat) (l : List Int) : (frL n i l).length = l.length := fold_len (frS_len n i) l (n + 1)

set_option maxHeartbeats 800000 in
theorem fr_out0 (n : Nat) (l : List Int) (a : Addr) (cap : Nat) (i : Int) (w : World) (hn : n ≤ 10) (hl : l.length = (n + 1) * (n + 1)) (hR : Rd w a l) (hc : chkE n l = 0) (hi : i < 1) :
    Calls Try.prog 33 #[.agg #[.int .i64 n, .slice (some a) l.length cap], .int .i64 i] w (ZRes w 0 [] 2) := by
  obtain ⟨len, hlen⟩ : ∃ len, len = l.length := ⟨_, rfl⟩
  obtain ⟨w0, hw0⟩ : ∃ w0, w0 = (w.alloc (.cells #[.int .i64 n, .slice (some a) len cap] 25)).alloc (.cells #[.int .i64 0, .slice none 0 0] 25) := ⟨_, rfl⟩
  have bx : Two w0 w.heap.size (.int .i64 n) (.slice (some a) len cap) := by rw [hw0]; exact (Two.made _ _ _ _).alloc _
  have rs : Two w0 (w.heap.size + 1) (.int .i64 0) (.slice none 0 0) := by
    rw [hw0]
    have := Two.made (w.alloc (.cells #[.int .i64 n, .slice (some a) len cap] 25)) (.int .i64 0) (.slice none 0 0) 25
    simpa using this
  have z0 : w0.heap.size = w.heap.size + 2 := by rw [hw0]; simp
  have e0 : Below w.heap.size w w0 := by rw [hw0]; exact past_two (Below.refl _ _)
  have R0 := hR.on e0
  have CK : Hid (∀ W, Rd W a l → Calls Try.prog 18 #[.agg #[.int .i64 n, .slice (some a) len cap]] W (Made (.int .i64 0) W)) := Lib.hid fun W h => by have := check_any n l a cap W hn hl h; rw [hc, ← hlen] at this; exact this
  have CP : Hid (∀ W, Rd W a l → Calls Try.prog 66 #[.agg #[.int .i64 n, .slice (some a) len cap]] W (fun e w' => ∃ g c, e = .returned (.agg #[.int .i64 n, .slice (some ⟨g, 0, none⟩) len c]) ∧ W.heap.size ≤ g ∧ Own w' g c l ∧ Below W.heap.size W w')) := Lib.hid fun W h => by have := copied_any n l a cap W (by rw [hl]; exact dsq_pos n) (by rw [hl]; have := dsq_le hn; omega) h; rw [← hlen] at this; exact this
  have HR := Lib.hid R0
  have HL := Lib.hid hl
  have HLn := Lib.hid hlen
  have E0 := Lib.hid e0
  rw [← hlen]
  clear hR R0 hl hlen hc e0
  go_enter Try.func33, Try.ntmps33
  go_wp2_with fail
  rw [← hw0]
  clear hw0
  obtain ⟨b0, b1, b2, b3⟩ := bx.facts
  go_wp2_with fail
  refine (CK.out _ HR.out).mono ?_
  rintro e w1 ⟨rfl, hb1⟩
  clear b0 b1 b2 b3
  replace bx := bx.kept hb1
  replace rs := rs.kept hb1
  have HR1 := Lib.hid (HR.out.on hb1)
  have E1 := Lib.hid (below_on E0.out hb1)
  have z1 := hb1.size
  clear hb1 HR E0
  obtain ⟨b0, b1, b2, b3⟩ := bx.facts
  clear b0 b1 b2 b3
  obtain ⟨b0, b1, b2, b3⟩ := rs.facts
  obtain ⟨c0, c1, _, _⟩ := bx.facts
  go_wp2_with fail
  refine bodyPost_ret (v := .tuple #[.agg #[.int .i64 0, .slice none 0 0], .int .i64 2]) (by simp [results, Try.results33, go_sem, b0, b1]) rfl (zres_bad ?_)
  exact (E1.out.setCell (by show w.heap.size ≤ w.heap.size + 1; omega) _).setCell (by show w.heap.size ≤ w.heap.size + 1; omega) _

set_option maxHeartbeats 800000 in
theorem fr_out1 (n : Nat) (l : List Int) (a : Addr) (cap : Nat) (i : Int) (w : World) (hn : n ≤ 10) (hl : l.length = (n + 1) * (n + 1)) (hR : Rd w a l) (hc : chkE n l = 0) (hi : ¬ i < 1 ∧ (n : Int) < i) :
    Calls Try.prog 33 #[.agg #[.int .i64 n, .slice (some a) l.length cap], .int .i64 i] w (ZRes w 0 [] 2) := by
  obtain ⟨h1, h2⟩ := hi
  obtain ⟨len, hlen⟩ : ∃ len, len = l.length := ⟨_, rfl⟩
  obtain ⟨w0, hw0⟩ : ∃ w0, w0 = (w.alloc (.cells #[.int .i64 n, .slice (some a) len cap] 25)).alloc (.cells #[.int .i64 0, .slice none 0 0] 25) := ⟨_, rfl⟩
  have bx : Two w0 w.heap.size (.int .i64 n) (.slice (some a) len cap) := by rw [hw0]; exact (Two.made _ _ _ _).alloc _
  have rs : Two w0 (w.heap.size + 1) (.int .i64 0) (.slice none 0 0) := by
    rw [hw0]
    have := Two.made (w.alloc (.cells #[.int .i64 n, .slice (some a) len cap] 25)) (.int .i64 0) (.slice none 0 0) 25
    simpa using this
  have z0 : w0.heap.size = w.heap.size + 2 := by rw [hw0]; simp
  have e0 : Below w.heap.size w w0 := by rw [hw0]; exact past_two (Below.refl _ _)
  have R0 := hR.on e0
  have CK : Hid (∀ W, Rd W a l → Calls Try.prog 18 #[.agg #[.int .i64 n, .slice (some a) len cap]] W (Made (.int .i64 0) W)) := Lib.hid fun W h => by have := check_any n l a cap W hn hl h; rw [hc, ← hlen] at this; exact this
  have CP : Hid (∀ W, Rd W a l → Calls Try.prog 66 #[.agg #[.int .i64 n, .slice (some a) len cap]] W (fun e w' => ∃ g c, e = .returned (.agg #[.int .i64 n, .slice (some ⟨g, 0, none⟩) len c]) ∧ W.heap.size ≤ g ∧ Own w' g c l ∧ Below W.heap.size W w')) := Lib.hid fun W h => by have := copied_any n l a cap W (by rw [hl]; exact dsq_pos n) (by rw [hl]; have := dsq_le hn; omega) h; rw [← hlen] at this; exact this
  have HR := Lib.hid R0
  have HL := Lib.hid hl
  have HLn := Lib.hid hlen
  have E0 := Lib.hid e0
  rw [← hlen]
  clear hR R0 hl hlen hc e0
  go_enter Try.func33, Try.ntmps33
  go_wp2_with fail
  rw [← hw0]
  clear hw0
  obtain ⟨b0, b1, b2, b3⟩ := bx.facts
  go_wp2_with fail
  refine (CK.out _ HR.out).mono ?_
  rintro e w1 ⟨rfl, hb1⟩
  clear b0 b1 b2 b3
  replace bx := bx.kept hb1
  replace rs := rs.kept hb1
  have HR1 := Lib.hid (HR.out.on hb1)
  have E1 := Lib.hid (below_on E0.out hb1)
  have z1 := hb1.size
  clear hb1 HR E0
  obtain ⟨b0, b1, b2, b3⟩ := bx.facts
  clear b0 b1 b2 b3
  obtain ⟨b0, b1, b2, b3⟩ := rs.facts
  obtain ⟨c0, c1, _, _⟩ := bx.facts
  go_wp2_with fail
  refine bodyPost_ret (v := .tuple #[.agg #[.int .i64 0, .slice none 0 0], .int .i64 2]) (by simp [results, Try.results33, go_sem, b0, b1]) rfl (zres_bad ?_)
  exact (E1.out.setCell (by show w.heap.size ≤ w.heap.size + 1; omega) _).setCell (by show w.heap.size ≤ w.heap.size + 1; omega) _

set_option maxHeartbeats 1600000 in
theorem fr_any (n : Nat) (l : List Int) (a : Addr) (cap : Nat) (i : Nat) (w : World) (hn : n ≤ 10) (hl : l.length = (n + 1) * (n + 1)) (hR : Rd w a l) (hc : chkE n l = 0) (hi1 : 1 ≤ i) (hi2 : i ≤ n) :
    Calls Try.prog 33 #[.agg #[.int .i64 n, .slice (some a) l.length cap], .int .i64 i] w (ZRes w n (Zo.clo n (frL n i l)) (cloE n (frL n i l))) := by
  obtain ⟨len, hlen⟩ : ∃ len, len = l.length := ⟨_, rfl⟩
  obtain ⟨w0, hw0⟩ : ∃ w0, w0 = (w.alloc (.cells #[.int .i64 n, .slice (some a) len cap] 25)).alloc (.cells #[.int .i64 0, .slice none 0 0] 25) := ⟨_, rfl⟩
  have bx : Two w0 w.heap.size (.int .i64 n) (.slice (some a) len cap) := by rw [hw0]; exact (Two.made _ _ _ _).alloc _
  have rs : Two w0 (w.heap.size + 1) (.int .i64 0) (.slice none 0 0) := by
    rw [hw0]
    have := Two.made (w.alloc (.cells #[.int .i64 n, .slice (some a) len cap] 25)) (.int .i64 0) (.slice none 0 0) 25
    simpa using this
  have z0 : w0.heap.size = w.heap.size + 2 := by rw [hw0]; simp
  have e0 : Below w.heap.size w w0 := by rw [hw0]; exact past_two (Below.refl _ _)
  have R0 := hR.on e0
  have CK : Hid (∀ W, Rd W a l → Calls Try.prog 18 #[.agg #[.int .i64 n, .slice (some a) len cap]] W (Made (.int .i64 0) W)) := Lib.hid fun W h => by have := check_any n l a cap W hn hl h; rw [hc, ← hlen] at this; exact this
  have CP : Hid (∀ W, Rd W a l → Calls Try.prog 66 #[.agg #[.int .i64 n, .slice (some a) len cap]] W (fun e w' => ∃ g c, e = .returned (.agg #[.int .i64 n, .slice (some ⟨g, 0, none⟩) len c]) ∧ W.heap.size ≤ g ∧ Own w' g c l ∧ Below W.heap.size W w')) := Lib.hid fun W h => by have := copied_any n l a cap W (by rw [hl]; exact dsq_pos n) (by rw [hl]; have := dsq_le hn; omega) h; rw [← hlen] at this; exact this
  have HR := Lib.hid R0
  have HL := Lib.hid hl
  have HLn := Lib.hid hlen
  have E0 := Lib.hid e0
  rw [← hlen]
  clear hR R0 hl hlen hc e0
  go_enter Try.func33, Try.ntmps33
  go_wp2_with fail
  rw [← hw0]
  clear hw0
  obtain ⟨b0, b1, b2, b3⟩ := bx.facts
  go_wp2_with fail
  refine (CK.out _ HR.out).mono ?_
  rintro e w1 ⟨rfl, hb1⟩
  clear b0 b1 b2 b3
  replace bx := bx.kept hb1
  replace rs := rs.kept hb1
  have HR1 := Lib.hid (HR.out.on hb1)
  have E1 := Lib.hid (below_on E0.out hb1)
  have z1 := hb1.size
  clear hb1 HR E0
  obtain ⟨b0, b1, b2, b3⟩ := bx.facts
  go_wp2_with fail
  refine (CP.out _ HR1.out).mono ?_
  rintro e w2 ⟨g, c, rfl, hg, ho, hb2⟩
  clear b0 b1 b2 b3
  replace bx := bx.kept hb2
  replace rs := rs.kept hb2
  have E2 := Lib.hid (below_on E1.out hb2)
  have z2 := hb2.size
  clear hb2 E1 HR1
  obtain ⟨b0, b1, b2, b3⟩ := bx.facts
  obtain ⟨w3, hw3⟩ : ∃ w3, w3 = (w2.setCell ⟨w.heap.size, 0, none⟩ (.int .i64 n)).setCell ⟨w.heap.size, 1, none⟩ (.slice (some ⟨g, 0, none⟩) len c) := ⟨_, rfl⟩
  have bx3 : Two w3 w.heap.size (.int .i64 n) (.slice (some ⟨g, 0, none⟩) len c) := by rw [hw3]; exact bx.put _ _
  have rs3 : Two w3 (w.heap.size + 1) (.int .i64 0) (.slice none 0 0) := by rw [hw3]; exact rs.aside (by omega) _ _
  have O3 : Own w3 g c l := by rw [hw3]; exact put_far ho (by omega) _ _
  have E3 : Below w.heap.size w w3 := by rw [hw3]; exact (E2.out.setCell (by show w.heap.size ≤ w.heap.size; omega) _).setCell (by show w.heap.size ≤ w.heap.size; omega) _
  have S3 := Lib.hid (show St w3 g c l w3 from ⟨O3, World.grownBy.refl _ _⟩)
  have HE3 := Lib.hid E3
  clear ho O3 E3 E2 rs bx
  go_wp2_with fail
  rw [← hw3]
  clear hw3 b0 b1 b2 b3
  go_loopw [6] (fun s wr => ∃ (t : Nat) (x : List Int), t ≤ n + 1 ∧ s = .int .i64 t ∧ x.length = len ∧ Hid (x = (List.range t).foldl (frS n i) l) ∧ Hid (St w3 g c x wr)) (fun s _ => n + 1 - (intOf s).toNat)
  case atStart => exact ⟨0, l, by omega, rfl, HLn.out.symm, Lib.hid rfl, S3⟩
  case round =>
    obtain ⟨t, x, ht, rfl, hx, HX, HT⟩ := hrel
    have bx4 := bx3.grown HT.out.2 (by omega)
    obtain ⟨b0, b1, b2, b3⟩ := bx4.facts
    have lx : x.length = (n + 1) * (n + 1) := by rw [hx, HLn.out, HL.out]
    by_cases htn : t ≤ n
    · by_cases hti : t = i
      · have T0 : ((t : Int) != (i : Int)) = false := by simp; omega
        have HS := Lib.hid (show frS n i x t = x by unfold frS; rw [if_pos hti])
        clear hti
        go_wp2_with fail
        go_roundw
        case rel => exact ⟨t + 1, x, by omega, by go_num, hx, Lib.hid (by rw [Zo.fold_succ, ← HX.out, HS.out]), HT⟩
        case measure => simp [intOf]; omega
      · have T0 : ((t : Int) != (i : Int)) = true := by simp; omega
        have HS := Lib.hid (show frS n i x t = (x.set (Zo.ix n i t) 1099511627776).set (Zo.ix n t i) 1099511627776 by unfold frS; rw [if_neg hti])
        have SE : Hid (∀ w' : World, St w3 g c x w' → Calls Try.prog 79 #[.agg #[.int .i64 n, .slice (some ⟨g, 0, none⟩) len c], .int .i64 i, .int .i64 t, .int .i64 1099511627776] w' (fun e w' => e = .returned (.tuple #[]) ∧ St w3 g c (x.set (Zo.ix n i t) 1099511627776) w')) :=
          Lib.hid fun w' h => by have := set_st (i := i) (j := t) 1099511627776 hn hi2 htn lx h; rw [hx] at this; exact this
        have SE2 : Hid (∀ w' : World, St w3 g c (x.set (Zo.ix n i t) 1099511627776) w' → Calls Try.prog 79 #[.agg #[.int .i64 n, .slice (some ⟨g, 0, none⟩) len c], .int .i64 t, .int .i64 i, .int .i64 1099511627776] w' (fun e w' => e = .returned (.tuple #[]) ∧ St w3 g c ((x.set (Zo.ix n i t) 1099511627776).set (Zo.ix n t i) 1099511627776) w')) :=
          Lib.hid fun w' h => by have := set_st (i := t) (j := i) 1099511627776 hn htn hi2 (by simpa using lx) h; rw [List.length_set, hx] at this; exact this
        clear hti
        go_wp2_with fail
        refine (SE.out _ HT.out).mono ?_
        rintro e w4 ⟨rfl, s4⟩
        clear b0 b1 b2 b3
        have bx5 := bx3.grown s4.2 (by omega)
        obtain ⟨b0, b1, b2, b3⟩ := bx5.facts
        have S4 := Lib.hid s4
        clear s4
        go_wp2_with fail
        refine (SE2.out _ S4.out).mono ?_
        rintro e w5 ⟨rfl, s5⟩
        have S5 := Lib.hid s5
        clear s5
        go_wp2_with fail
        go_roundw
        case rel => exact ⟨t + 1, _, by omega, by go_num, by simpa using hx, Lib.hid (by rw [Zo.fold_succ, ← HX.out, HS.out]), S5⟩
        case measure => simp [intOf]; omega
    · have HX2 := Lib.hid (show x = frL n i l by rw [HX.out, show t = n + 1 by omega]; rfl)
      by_cases hE : cloE n x = 0
      · have CL : Hid (∀ W, Own W g c x → Calls Try.prog 65 #[.agg #[.int .i64 n, .slice (some ⟨g, 0, none⟩) len c]] W (fun e w' => e = .returned (.tuple #[.agg #[.int .i64 n, .slice (some ⟨g, 0, none⟩) len c], .int .i64 0]) ∧ Own w' g c (Zo.clo n x) ∧ W.grownBy w' (some g))) := Lib.hid fun W h => by have := closed_ok W hn lx h hE; rw [hx] at this; exact this
        have HEE := Lib.hid hE
        clear hE
        go_wp2_with fail
        refine (CL.out _ HT.out.1).mono ?_
        rintro e w5 ⟨rfl, ho5, hg5⟩
        have rs5 := (rs3.grown HT.out.2 (by omega)).grown hg5 (by omega)
        obtain ⟨q0, q1, q2, q3⟩ := rs5.facts
        have E5 := Lib.hid (grown_over (grown_over HE3.out HT.out.2 (by omega)) hg5 (by omega))
        have HO5 := Lib.hid ho5
        clear ho5 hg5
        go_wp2_with fail
        refine bodyPost_ret (v := .tuple #[.agg #[.int .i64 n, .slice (some ⟨g, 0, none⟩) len c], .int .i64 0]) (by simp [results, Try.results33, go_sem, q0, q1]) rfl ⟨(E5.out.setCell (by show w.heap.size ≤ w.heap.size + 1; omega) _).setCell (by show w.heap.size ≤ w.heap.size + 1; omega) _, Or.inl ⟨by rw [← HX2.out]; exact HEE.out, g, c, ?_, by omega, ?_⟩⟩
        · rw [Zo.clo_length, frL_len, ← HLn.out]
        · rw [← HX2.out]; exact put_far HO5.out (by omega) _ _
      · have CL : Hid (∀ W, Own W g c x → Calls Try.prog 65 #[.agg #[.int .i64 n, .slice (some ⟨g, 0, none⟩) len c]] W (fun e w' => e = .returned (.tuple #[.agg #[.int .i64 0, .slice none 0 0], .int .i64 (cloE n x)]) ∧ Own w' g c (Zo.clo n x) ∧ W.grownBy w' (some g))) := Lib.hid fun W h => by have := closed_no W hn lx h hE; rw [hx] at this; exact this
        have HEE := Lib.hid hE
        clear hE
        go_wp2_with fail
        refine (CL.out _ HT.out.1).mono ?_
        rintro e w5 ⟨rfl, ho5, hg5⟩
        have rs5 := (rs3.grown HT.out.2 (by omega)).grown hg5 (by omega)
        obtain ⟨q0, q1, q2, q3⟩ := rs5.facts
        have E5 := Lib.hid (grown_over (grown_over HE3.out HT.out.2 (by omega)) hg5 (by omega))
        have HO5 := Lib.hid ho5
        clear ho5 hg5
        go_wp2_with fail
        refine bodyPost_ret (v := .tuple #[.agg #[.int .i64 0, .slice none 0 0], .int .i64 (cloE n x)]) (by simp [results, Try.results33, go_sem, q0, q1]) rfl ⟨(E5.out.setCell (by show w.heap.size ≤ w.heap.size + 1; omega) _).setCell (by show w.heap.size ≤ w.heap.size + 1; omega) _, Or.inr ⟨by rw [← HX2.out]; exact HEE.out, ?_⟩⟩
        rw [HX2.out]

def frB (N i : Int) : Bool := decide (1 ≤ i ∧ i ≤ N)

def frE (N : Int) (l : List Int) (i : Int) : Int := if chkE N l = 0 ∧ 1 ≤ i ∧ i ≤ N then cloE N.toNat (frL N.toNat i.toNat l) else 2

theorem fr_gen (N : Int) (l : List Int) (ao : Option Addr) (cap : Nat) (i : Int) (w : World) (hA : Arg w ao l) :
    Calls Try.prog 33 #[.agg #[.int .i64 N, .slice ao l.length cap], .int .i64 i] w (ZRes w N (Zo.clo N.toNat (frL N.toNat i.toNat l)) (frE N l i)) := by
  by_cases hc : chkE N l = 0
  · obtain ⟨n, rfl, hn, hl, hne⟩ := chk_ok hc
    obtain ⟨a, rfl, hR⟩ := hA hne
    by_cases h1 : i < 1
    · exact (fr_out0 n l a cap i w hn hl hR hc h1).mono fun e w' h => h.bad (by unfold frE; rw [if_neg (by omega)])
    by_cases h2 : (n : Int) < i
    · exact (fr_out1 n l a cap i w hn hl hR hc ⟨h1, h2⟩).mono fun e w' h => h.bad (by unfold frE; rw [if_neg (by omega)])
    obtain ⟨k, rfl⟩ : ∃ k : Nat, i = k := ⟨i.toNat, by omega⟩
    have := fr_any n l a cap k w hn hl hR hc (by omega) (by omega)
    rw [show frE (n : Int) l (k : Int) = cloE n (frL n k l) by unfold frE; rw [if_pos ⟨hc, by omega, by omega⟩]; rfl]
    exact this
  · exact (fr_bad N l ao cap i w hA (chk_two hc)).mono fun e w' h => h.bad (by unfold frE; rw [if_neg (fun x => hc x.1)])
end Go.Proofs.Ytmlknjiifjdimaa

namespace Go.Proofs.Ytmlknjiifjdimaa
open Go.RowKit

/-- Up: the first element of each row is set. -/
def umS (n : Nat) (x : List Int) (t : Nat) : List Int := x.set (Zo.ix n t 0) 1099511627776

def umL (n : Nat) (l : List Int) : List Int := (List.range (n + 1)).foldl (umS n) l

theorem umL_len (n : Nat) (l : List Int) : (umL n l).length = l.length := fold_len (fun x t => by simp [umS]) l _

/-- Down: the elements of the first row are set. -/
def dmS (n : Nat) (x : List Int) (t : Nat) : List Int := x.set (Zo.ix n 0 t) 1099511627776

def dmL (n : Nat) (l : List Int) : List Int := (List.range (n + 1)).foldl (dmS n) l

theorem dmL_len (n : Nat) (l : List Int) : (dmL n l).length = l.length := fold_len (fun x t => by simp [dmS]) l _

/-- release: row i and column i are set. -/
def rlS (n i : Nat) (x : List Int) (t : Nat) : List Int := (x.set (Zo.ix n i t) 1099511627776).set (Zo.ix n t i) 1099511627776

def rlL (n i : Nat) (l : List Int) : List Int := (List.range (n + 1)).foldl (rlS n i) l

theorem rlL_len (n i : Nat) (l : List Int) : (rlL n i l).length = l.length := fold_len (fun x t => by simp [rlS]) l _

/-- Returns nothing; the matrix at b is gl. -/
def Chg (w : World) (b n : Nat) (gl : List Int) (e : Ending) (w' : World) : Prop := e = .returned (.tuple #[]) ∧ MSt w b n gl w'

set_option maxRecDepth 100000 in
set_option maxHeartbeats 4000000 in
theorem up1_any (b n : Nat) (l : List Int) (w : World) (hn : n ≤ 10) (h : Mx w b n l) : Calls Try.prog 80 #[.pointer (some ⟨b, 0, none⟩)] w (Chg w b n (umL n l)) := by
  have HM := Lib.hid (show MSt w b n l w from ⟨h, World.grownBy.refl _ _⟩)
  have KD := Lib.hid (show ∀ (x : List Int) (w' : World), MSt w b n x w' → w'.cell? ⟨b, 0, none⟩ = some (.int .i64 n) from fun x w' h => h.1.dim)
  have TR := Lib.hid (fun (x : List Int) (i : Nat) (hi : i ≤ n) (w' : World) (h : MSt w b n x w') => row_any b n i w' hn hi h.1.dim)
  have HL := Lib.hid h.2
  have c0 := h.dim
  clear h
  go_enter Try.func80, Try.ntmps80
  go_wp2_with fail
  clear c0
  go_loopw [8] (fun s wr => ∃ (t : Nat) (x : List Int), t ≤ n + 1 ∧ s = .int .i64 t ∧ Hid (x.length = (n + 1) * (n + 1) ∧ x = (List.range t).foldl (umS n) l ∧ MSt w b n x wr)) (fun s _ => n + 1 - (intOf s).toNat)
  case atStart => exact ⟨0, l, by omega, rfl, Lib.hid ⟨HL.out, rfl, HM.out⟩⟩
  case round =>
    obtain ⟨t, x, ht, rfl, HX⟩ := hrel
    by_cases htn : t ≤ n
    · have tix := Zo.ix_lt htn (show 0 ≤ n by omega)
      have c1 : wr.cell? ⟨b, 1 + t * (n + 1), none⟩ = some (.int .i64 (Zo.At n x t 0)) := by
        have := HX.out.2.2.1.at (j := Zo.ix n t 0) (by rw [HX.out.1]; exact tix)
        simpa [Zo.ix, Zo.At] using this
      have f1 := HX.out.2.2.1.free (1 + t * (n + 1))
      have ST := Lib.hid (show MSt w b n (umS n x t) (wr.setCell ⟨b, 1 + t * (n + 1), none⟩ (.int .i64 1099511627776)) from by
        have := HX.out.2.2.put (Zo.ix n t 0) 1099511627776 (by rw [HX.out.1]; exact tix)
        simpa [Zo.ix, umS] using this)
      clear tix
      go_wp2_with fail
      refine (TR.out _ _ htn _ HX.out.2.2).mono ?_
      rintro e w1 ⟨rfl, hw⟩
      rw [hw]; clear hw w1
      go_wp2_with fail
      clear c1 f1
      go_roundw
      case rel => exact ⟨t + 1, _, by omega, by go_num, Lib.hid ⟨by simpa [umS] using HX.out.1, by rw [Zo.fold_succ, ← HX.out.2.1], ST.out⟩⟩
      case measure => simp [intOf]; omega
    · have HE := Lib.hid (show x = umL n l by rw [HX.out.2.1, show t = n + 1 by omega]; rfl)
      go_wp2_with fail
      go_end0
      exact ⟨rfl, by rw [← HE.out]; exact HX.out.2.2⟩

set_option maxRecDepth 100000 in
set_option maxHeartbeats 4000000 in
theorem dn1_any (b n : Nat) (l : List Int) (w : World) (hn : n ≤ 10) (h : Mx w b n l) : Calls Try.prog 82 #[.pointer (some ⟨b, 0, none⟩)] w (Chg w b n (dmL n l)) := by
  have HM := Lib.hid (show MSt w b n l w from ⟨h, World.grownBy.refl _ _⟩)
  have KD := Lib.hid (show ∀ (x : List Int) (w' : World), MSt w b n x w' → w'.cell? ⟨b, 0, none⟩ = some (.int .i64 n) from fun x w' h => h.1.dim)
  have TR := Lib.hid (fun (x : List Int) (i : Nat) (hi : i ≤ n) (w' : World) (h : MSt w b n x w') => row_any b n i w' hn hi h.1.dim)
  have HL := Lib.hid h.2
  have c0 := h.dim
  clear h
  go_enter Try.func82, Try.ntmps82
  go_wp2_with fail
  clear c0
  go_loopw [8] (fun s wr => ∃ (t : Nat) (x : List Int), t ≤ n + 1 ∧ s = .int .i64 t ∧ Hid (x.length = (n + 1) * (n + 1) ∧ x = (List.range t).foldl (dmS n) l ∧ MSt w b n x wr)) (fun s _ => n + 1 - (intOf s).toNat)
  case atStart => exact ⟨0, l, by omega, rfl, Lib.hid ⟨HL.out, rfl, HM.out⟩⟩
  case round =>
    obtain ⟨t, x, ht, rfl, HX⟩ := hrel
    by_cases htn : t ≤ n
    · have tix := Zo.ix_lt (show 0 ≤ n by omega) htn
      have c1 : wr.cell? ⟨b, 1 + t, none⟩ = some (.int .i64 (Zo.At n x 0 t)) := by
        have := HX.out.2.2.1.at (j := Zo.ix n 0 t) (by rw [HX.out.1]; exact tix)
        simpa [Zo.ix, Zo.At] using this
      have f1 := HX.out.2.2.1.free (1 + t)
      have ST := Lib.hid (show MSt w b n (dmS n x t) (wr.setCell ⟨b, 1 + t, none⟩ (.int .i64 1099511627776)) from by
        have := HX.out.2.2.put (Zo.ix n 0 t) 1099511627776 (by rw [HX.out.1]; exact tix)
        simpa [Zo.ix, dmS] using this)
      clear tix
      go_wp2_with fail
      refine (TR.out _ 0 (by omega) _ HX.out.2.2).mono ?_
      rintro e w1 ⟨rfl, hw⟩
      rw [hw]; clear hw w1
      go_wp2_with fail
      clear c1 f1
      go_roundw
      case rel => exact ⟨t + 1, _, by omega, by go_num, Lib.hid ⟨by simpa [dmS] using HX.out.1, by rw [Zo.fold_succ, ← HX.out.2.1], ST.out⟩⟩
      case measure => simp [intOf]; omega
    · have HE := Lib.hid (show x = dmL n l by rw [HX.out.2.1, show t = n + 1 by omega]; rfl)
      go_wp2_with fail
      go_end0
      exact ⟨rfl, by rw [← HE.out]; exact HX.out.2.2⟩

set_option maxRecDepth 100000 in
set_option maxHeartbeats 4000000 in
theorem release_any (b n i : Nat) (l : List Int) (w : World) (hn : n ≤ 10) (hi : i ≤ n) (h : Mx w b n l) : Calls Try.prog 86 #[.pointer (some ⟨b, 0, none⟩), .int .i64 i] w (Chg w b n (rlL n i l)) := by
  have HM := Lib.hid (show MSt w b n l w from ⟨h, World.grownBy.refl _ _⟩)
  have TR := Lib.hid (fun (x : List Int) (i : Nat) (hi : i ≤ n) (w' : World) (h : MSt w b n x w') => row_any b n i w' hn hi h.1.dim)
  have HL := Lib.hid h.2
  have c0 := h.dim
  clear h
  go_enter Try.func86, Try.ntmps86
  go_wp2_with fail
  clear c0
  go_loopw [10] (fun s wr => ∃ (t : Nat) (x : List Int), t ≤ n + 1 ∧ s = .int .i64 t ∧ Hid (x.length = (n + 1) * (n + 1) ∧ x = (List.range t).foldl (rlS n i) l ∧ MSt w b n x wr)) (fun s _ => n + 1 - (intOf s).toNat)
  case atStart => exact ⟨0, l, by omega, rfl, Lib.hid ⟨HL.out, rfl, HM.out⟩⟩
  case round =>
    obtain ⟨t, x, ht, rfl, HX⟩ := hrel
    by_cases htn : t ≤ n
    · have tit := Zo.ix_lt hi htn
      have tti := Zo.ix_lt htn hi
      have c1 : wr.cell? ⟨b, 1 + i * (n + 1) + t, none⟩ = some (.int .i64 (Zo.At n x i t)) := by
        have := HX.out.2.2.1.at (j := Zo.ix n i t) (by rw [HX.out.1]; exact tit)
        rwa [show 1 + Zo.ix n i t = 1 + i * (n + 1) + t by unfold Zo.ix; omega] at this
      have f1 := HX.out.2.2.1.free (1 + i * (n + 1) + t)
      have S1 := HX.out.2.2.put (Zo.ix n i t) 1099511627776 (by rw [HX.out.1]; exact tit)
      rw [show 1 + Zo.ix n i t = 1 + i * (n + 1) + t by unfold Zo.ix; omega] at S1
      have c2 := S1.1.at (j := Zo.ix n t i) (by rw [List.length_set, HX.out.1]; exact tti)
      rw [show 1 + Zo.ix n t i = 1 + t * (n + 1) + i by unfold Zo.ix; omega] at c2
      have f2 := S1.1.free (1 + t * (n + 1) + i)
      have S2 := S1.put (Zo.ix n t i) 1099511627776 (by rw [List.length_set, HX.out.1]; exact tti)
      rw [show 1 + Zo.ix n t i = 1 + t * (n + 1) + i by unfold Zo.ix; omega] at S2
      have ST := Lib.hid (show MSt w b n (rlS n i x t) _ from S2)
      clear tit tti S1 S2
      go_wp2_with fail
      refine (TR.out _ _ hi _ HX.out.2.2).mono ?_
      rintro e w1 ⟨rfl, hw⟩
      rw [hw]; clear hw w1
      go_wp2_with fail
      refine (TR.out _ _ htn _ HX.out.2.2).mono ?_
      rintro e w1 ⟨rfl, hw⟩
      rw [hw]; clear hw w1
      go_wp2_with fail
      clear c1 f1 c2 f2
      go_roundw
      case rel => exact ⟨t + 1, _, by omega, by go_num, Lib.hid ⟨by simpa [rlS] using HX.out.1, by rw [Zo.fold_succ, ← HX.out.2.1], ST.out⟩⟩
      case measure => simp [intOf]; omega
    · have HE := Lib.hid (show x = rlL n i l by rw [HX.out.2.1, show t = n + 1 by omega]; rfl)
      go_wp2_with fail
      go_end0
      exact ⟨rfl, by rw [← HE.out]; exact HX.out.2.2⟩

set_option maxRecDepth 100000 in
theorem fr1_any (b n i : Nat) (p : Addr) (l : List Int) (w : World) (hn : n ≤ 10) (hi : i ≤ n) (h : Mx w b n l) (hp : w.cell? p = some (.int .i64 i)) :
    Calls Try.prog 89 #[.pointer (some ⟨b, 0, none⟩), .pointer (some p)] w (Chg w b n (rlL n i l)) := by
  have RE := Lib.hid (release_any b n i l w hn hi h)
  clear h
  go_enter Try.func89, Try.ntmps89
  go_wp2_with fail
  refine RE.out.mono ?_
  rintro e w1 ⟨rfl, hm⟩
  have HM := Lib.hid hm
  clear hm hp
  go_wp2_with fail
  go_end0
  exact ⟨rfl, HM.out⟩

def ckB (N i first : Int) : Bool := decide (first ≤ i ∧ i ≤ N)

set_option maxHeartbeats 400000 in
theorem isClock_any (N i first : Int) (v : Value) (w : World) : Calls Try.prog 74 #[.agg #[.int .i64 N, v], .int .i64 i, .int .i64 first] w (Made (.bool (ckB N i first)) w) := by
  by_cases h : first ≤ i
  · by_cases g : i ≤ N
    · have H := Lib.hid (show ckB N i first = true by unfold ckB; simp; omega)
      go_enter Try.func74, Try.ntmps74
      go_wp2_with fail
      go_ret
      exact ⟨ret_bool H.out.symm, one_more _⟩
    · have H := Lib.hid (show ckB N i first = false by unfold ckB; simp; omega)
      have D : decide (i ≤ N) = false := by simp; omega
      go_enter Try.func74, Try.ntmps74
      go_wp2_with fail
      go_ret
      exact ⟨ret_bool H.out.symm, one_more _⟩
  · have H := Lib.hid (show ckB N i first = false by unfold ckB; simp; omega)
    have D : decide (first ≤ i) = false := by simp; omega
    go_enter Try.func74, Try.ntmps74
    go_wp2_with fail
    go_ret
    exact ⟨ret_bool H.out.symm, one_more _⟩
end Go.Proofs.Ytmlknjiifjdimaa

namespace Go.Proofs.Ytmlknjiifjdimaa
open Go.RowKit

theorem cloE_pre {n : Nat} {x y : List Int} (h : Zo.pre n x = Zo.pre n y) : cloE n x = cloE n y := by
  unfold cloE cloB; rw [Zo.clo_pre h]

theorem chk_diag {n : Nat} {l : List Int} (h : chkE n l = 0) : (∀ a, a ≤ n → Zo.At n l a a = 1) ∧ ∀ a, a ≤ n → Zo.At n l 0 a ≤ 1 := by
  have hc : chkB n l = true := by
    unfold chkE at h
    cases e : chkB n l
    · rw [e] at h; simp at h
    · rfl
  unfold chkB at hc
  simp only [Bool.and_eq_true, Int.toNat_natCast] at hc
  have h1 := chk1_iff.1 hc.1.2
  constructor
  · intro a ha
    have := h1 a (by omega) a (by omega)
    unfold okI at this
    simp at this
    exact this.1.2
  · intro a ha
    have := h1 0 (by omega) a (by omega)
    unfold okI at this
    simp at this
    exact this.2

theorem umL_at {n : Nat} {l : List Int} (hl : l.length = (n + 1) * (n + 1)) {a b : Nat} (ha : a ≤ n) (hb : b ≤ n) : Zo.At n (umL n l) a b = if b = 0 then 1099511627776 else Zo.At n l a b := by
  have := (Zo.fold_at (N := n + 1) (f := umS n) (p := fun t a b => decide (a = t ∧ b = 0)) (v := 1099511627776) (fun x t ht hx => ⟨by simpa [umS] using hx, fun a b _ hb => by
    unfold umS; rw [Zo.At_set hx (by omega) (by omega) _ hb]; simp⟩) hl (n + 1) (Nat.le_refl _)).2 a b ha hb
  rw [show umL n l = (List.range (n + 1)).foldl (umS n) l from rfl, this]
  by_cases c : b = 0
  · rw [if_pos c, if_pos]
    rw [List.any_eq_true]
    exact ⟨a, List.mem_range.2 (by omega), by simpa using c⟩
  · rw [if_neg c, if_neg]
    intro h
    rw [List.any_eq_true] at h
    obtain ⟨s, _, hs⟩ := h
    simp at hs
    exact c hs.2

theorem upL_at {n : Nat} {l : List Int} (hl : l.length = (n + 1) * (n + 1)) {a b : Nat} (ha : a ≤ n) (hb : b ≤ n) : Zo.At n (upL n l) a b = if a ≠ 0 ∧ b = 0 then 1099511627776 else Zo.At n l a b := by
  have := (Zo.fold_at (N := n) (f := upS n) (p := fun t a b => decide (a = t + 1 ∧ b = 0)) (v := 1099511627776) (fun x t ht hx => ⟨by simpa [upS] using hx, fun a b _ hb => by
    unfold upS; rw [Zo.At_set hx (by omega) (by omega) _ hb]; simp⟩) hl n (Nat.le_refl _)).2 a b ha hb
  rw [show upL n l = (List.range n).foldl (upS n) l from rfl, this]
  by_cases c : a ≠ 0 ∧ b = 0
  · rw [if_pos c, if_pos]
    rw [List.any_eq_true]
    exact ⟨a - 1, List.mem_range.2 (by omega), by simp; omega⟩
  · rw [if_neg c, if_neg]
    intro h
    rw [List.any_eq_true] at h
    obtain ⟨s, _, hs⟩ := h
    simp at hs
    omega

theorem dmL_at {n : Nat} {l : List Int} (hl : l.length = (n + 1) * (n + 1)) {a b : Nat} (ha : a ≤ n) (hb : b ≤ n) : Zo.At n (dmL n l) a b = if a = 0 then 1099511627776 else Zo.At n l a b := by
  have := (Zo.fold_at (N := n + 1) (f := dmS n) (p := fun t a b => decide (a = 0 ∧ b = t)) (v := 1099511627776) (fun x t ht hx => ⟨by simpa [dmS] using hx, fun a b _ hb => by
    unfold dmS; rw [Zo.At_set hx (by omega) (by omega) _ hb]; simp⟩) hl (n + 1) (Nat.le_refl _)).2 a b ha hb
  rw [show dmL n l = (List.range (n + 1)).foldl (dmS n) l from rfl, this]
  by_cases c : a = 0
  · rw [if_pos c, if_pos]
    rw [List.any_eq_true]
    exact ⟨b, List.mem_range.2 (by omega), by simpa using c⟩
  · rw [if_neg c, if_neg]
    intro h
    rw [List.any_eq_true] at h
    obtain ⟨s, _, hs⟩ := h
    simp at hs
    exact c hs.1

theorem dnL_at {n : Nat} {l : List Int} (hl : l.length = (n + 1) * (n + 1)) {a b : Nat} (ha : a ≤ n) (hb : b ≤ n) : Zo.At n (dnL n l) a b = if a = 0 ∧ b ≠ 0 then 1 else Zo.At n l a b := by
  have := (Zo.fold_at (N := n) (f := dnS n) (p := fun t a b => decide (a = 0 ∧ b = t + 1)) (v := 1) (fun x t ht hx => ⟨by simpa [dnS] using hx, fun a b _ hb => by
    unfold dnS; rw [Zo.At_set hx (by omega) (by omega) _ hb]; simp⟩) hl n (Nat.le_refl _)).2 a b ha hb
  rw [show dnL n l = (List.range n).foldl (dnS n) l from rfl, this]
  by_cases c : a = 0 ∧ b ≠ 0
  · rw [if_pos c, if_pos]
    rw [List.any_eq_true]
    exact ⟨b - 1, List.mem_range.2 (by omega), by simp; omega⟩
  · rw [if_neg c, if_neg]
    intro h
    rw [List.any_eq_true] at h
    obtain ⟨s, _, hs⟩ := h
    simp at hs
    omega

theorem up_pre {n : Nat} {l : List Int} (hl : l.length = (n + 1) * (n + 1)) (hc : chkE n l = 0) : Zo.pre n (umL n l) = Zo.pre n (upL n l) := by
  obtain ⟨dg, _⟩ := chk_diag hc
  refine Zo.pre_eq (by rw [umL_len, hl]) (by rw [upL_len, hl]) fun a b ha hb => ⟨fun h => ?_, fun h => ?_⟩
  · rw [umL_at hl ha hb, upL_at hl ha hb]
    by_cases c : b = 0
    · rw [if_pos c, if_pos ⟨h.1, c⟩]
    · rw [if_neg c, if_neg (by omega)]
  · rw [umL_at hl ha hb, upL_at hl ha hb]
    by_cases c : b = 0
    · rw [if_pos c, if_neg (by omega)]
      have : a = 0 := by omega
      subst this; subst c
      rw [dg 0 (by omega)]; decide
    · rw [if_neg c, if_neg (by omega)]

theorem dn_pre {n : Nat} {l : List Int} (hl : l.length = (n + 1) * (n + 1)) (hc : chkE n l = 0) : Zo.pre n (dmL n l) = Zo.pre n (dnL n l) := by
  obtain ⟨dg, _⟩ := chk_diag hc
  refine Zo.pre_eq (by rw [dmL_len, hl]) (by rw [dnL_len, hl]) fun a b ha hb => ⟨fun h => ?_, fun h => ?_⟩
  · rw [dmL_at hl ha hb, dnL_at hl ha hb, if_neg h.1, if_neg (by omega)]
  · rw [dmL_at hl ha hb, dnL_at hl ha hb]
    by_cases c : a = 0
    · rw [if_pos c]
      by_cases cb : b = 0
      · rw [if_neg (by omega)]
        subst c; subst cb
        rw [dg 0 (by omega)]; decide
      · rw [if_pos ⟨c, cb⟩]; decide
    · rw [if_neg c, if_neg (by omega)]

theorem fold_64 {f : List Int → Nat → List Int} (hf : ∀ x t, Zo.A64 x → Zo.A64 (f x t)) {l : List Int} (h : Zo.A64 l) (t : Nat) : Zo.A64 ((List.range t).foldl f l) :=
  Zo.fold_keeps (R := Zo.A64) t (fun a s _ ha => hf a s ha) l h t (Nat.le_refl _)

theorem no_in : -9223372036854775808 ≤ (1099511627776 : Int) ∧ (1099511627776 : Int) ≤ 9223372036854775807 := by omega

theorem enter_up (args : Array Value) (W : World) : (callFunc 80 args).run Try.prog W = .ok (.enter 80 args) W := by go_simp

theorem enter_dn (args : Array Value) (W : World) : (callFunc 82 args).run Try.prog W = .ok (.enter 82 args) W := by go_simp

/-- What a call of changed gives: the same words as of the function around it. -/
theorem ch_up (N : Int) (l : List Int) (ao : Option Addr) (cap : Nat) (w : World) (hA : Arg w ao l) :
    Calls Try.prog 76 #[.agg #[.int .i64 N, .slice ao l.length cap], .bool true, .func (.func 80) #[] #[]] w (ZRes w N (Zo.clo N.toNat (upL N.toNat l)) (upE N l)) := by
  by_cases hc : chkE N l = 0
  · obtain ⟨n, rfl, hn, hl, hne⟩ := chk_ok hc
    have := changed_ok n l (umL n l) ao cap 80 #[] w hA hn hl hc (fold_64 (fun x t h => Zo.gt_range _ _ _ h no_in) (chk_64 hc).1 _) enter_up (fun W b _ _ hM => up1_any b n l W hn hM)
    rw [show upE (n : Int) l = cloE n (umL n l) by unfold upE; rw [if_pos hc, cloE_pre (up_pre hl hc)]; rfl]
    rw [Zo.clo_pre (up_pre hl hc)] at this
    exact this
  · refine (changed_bad N l ao cap true _ w hA (Or.inl (by unfold okB; simpa using hc))).mono fun e w' h => h.bad (by unfold upE; rw [if_neg hc])

theorem ch_dn (N : Int) (l : List Int) (ao : Option Addr) (cap : Nat) (w : World) (hA : Arg w ao l) :
    Calls Try.prog 76 #[.agg #[.int .i64 N, .slice ao l.length cap], .bool true, .func (.func 82) #[] #[]] w (ZRes w N (Zo.clo N.toNat (dnL N.toNat l)) (dnE N l)) := by
  by_cases hc : chkE N l = 0
  · obtain ⟨n, rfl, hn, hl, hne⟩ := chk_ok hc
    have := changed_ok n l (dmL n l) ao cap 82 #[] w hA hn hl hc (fold_64 (fun x t h => Zo.gt_range _ _ _ h no_in) (chk_64 hc).1 _) enter_dn (fun W b _ _ hM => dn1_any b n l W hn hM)
    rw [show dnE (n : Int) l = cloE n (dmL n l) by unfold dnE; rw [if_pos hc, cloE_pre (dn_pre hl hc)]; rfl]
    rw [Zo.clo_pre (dn_pre hl hc)] at this
    exact this
  · refine (changed_bad N l ao cap true _ w hA (Or.inl (by unfold okB; simpa using hc))).mono fun e w' h => h.bad (by unfold dnE; rw [if_neg hc])
end Go.Proofs.Ytmlknjiifjdimaa

namespace Go.Proofs.Ytmlknjiifjdimaa
open Go.RowKit

/-- From what a call of changed leaves to what the function around it leaves, whose result lies at x. -/
theorem zres_over {w W w4 : World} {N : Int} {l : List Int} {g c x : Nat} (hb : Below w.heap.size w W) (h : Below W.heap.size W w4) (hO : Own w4 g c l) (hg : W.heap.size ≤ g) (hx : w.heap.size ≤ x) (hlt : x < W.heap.size) (u v : Value) :
    ZRes w N l 0 (.returned (.tuple #[.agg #[.int .i64 N, .slice (some ⟨g, 0, none⟩) l.length c], .int .i64 0])) ((w4.setCell ⟨x, 0, none⟩ u).setCell ⟨x, 1, none⟩ v) :=
  ⟨((below_on hb h).setCell hx _).setCell hx _, Or.inl ⟨rfl, g, c, rfl, by have := hb.size; omega, put_far hO (by omega) _ _⟩⟩

theorem zres_over0 {w W w4 : World} {N : Int} {l : List Int} {er : Int} {x : Nat} (hb : Below w.heap.size w W) (h : Below W.heap.size W w4) (he : er ≠ 0) (hx : w.heap.size ≤ x) (u v : Value) :
    ZRes w N l er (.returned (.tuple #[.agg #[.int .i64 0, .slice none 0 0], .int .i64 er])) ((w4.setCell ⟨x, 0, none⟩ u).setCell ⟨x, 1, none⟩ v) :=
  ⟨((below_on hb h).setCell hx _).setCell hx _, Or.inr ⟨he, rfl⟩⟩

set_option maxRecDepth 100000 in
set_option maxHeartbeats 4000000 in
theorem zup_gen (N : Int) (l : List Int) (ao : Option Addr) (cap : Nat) (w : World) (hA : Arg w ao l) :
    Calls Try.prog 26 #[.agg #[.int .i64 N, .slice ao l.length cap]] w (ZRes w N (Zo.clo N.toNat (upL N.toNat l)) (upE N l)) := by
  have CH := Lib.hid (show ∀ W, Below w.heap.size w W → _ from fun W h => ch_up N l ao cap W (hA.on h))
  generalize Zo.clo N.toNat (upL N.toNat l) = r at *
  generalize upE N l = er at *
  generalize l.length = len at *
  obtain ⟨w0, hw0⟩ : ∃ w0, w0 = (w.alloc (.cells #[.int .i64 N, .slice ao len cap] 25)).alloc (.cells #[.int .i64 0, .slice none 0 0] 25) := ⟨_, rfl⟩
  have bx : Two w0 w.heap.size (.int .i64 N) (.slice ao len cap) := by rw [hw0]; exact (Two.made _ _ _ _).alloc _
  have rs : Two w0 (w.heap.size + 1) (.int .i64 0) (.slice none 0 0) := by
    rw [hw0]
    have := Two.made (w.alloc (.cells #[.int .i64 N, .slice ao len cap] 25)) (.int .i64 0) (.slice none 0 0) 25
    simpa using this
  have E0 := Lib.hid (show Below w.heap.size w w0 by rw [hw0]; exact past_two (Below.refl _ _))
  clear hA
  go_enter Try.func26, Try.ntmps26
  go_wp2_with fail
  rw [← hw0]
  clear hw0
  obtain ⟨b0, b1, b2, b3⟩ := bx.facts
  go_wp2_with fail
  clear b0 b1 b2 b3
  refine (CH.out _ E0.out).mono ?_
  intro e w4 hG
  obtain ⟨hb4, hres⟩ := hG
  obtain ⟨q0, q1, q2, q3⟩ := (rs.kept hb4).facts
  have HB4 := Lib.hid hb4
  have hlt := rs.lt
  rcases hres with ⟨he, g, c, rfl, hgl, hO⟩ | ⟨he, rfl⟩
  · have HO := Lib.hid hO
    subst he
    clear hO hb4
    go_wp2_with fail
    refine bodyPost_ret (v := .tuple #[.agg #[.int .i64 N, .slice (some ⟨g, 0, none⟩) r.length c], .int .i64 0]) (by simp [results, Try.results26, go_sem, q0, q1]) rfl (zres_over E0.out HB4.out HO.out hgl (by omega) hlt _ _)
  · have HEE := Lib.hid he
    clear he hb4
    go_wp2_with fail
    refine bodyPost_ret (v := .tuple #[.agg #[.int .i64 0, .slice none 0 0], .int .i64 er]) (by simp [results, Try.results26, go_sem, q0, q1]) rfl (zres_over0 E0.out HB4.out HEE.out (by omega) _ _)

set_option maxRecDepth 100000 in
set_option maxHeartbeats 4000000 in
theorem zdn_gen (N : Int) (l : List Int) (ao : Option Addr) (cap : Nat) (w : World) (hA : Arg w ao l) :
    Calls Try.prog 28 #[.agg #[.int .i64 N, .slice ao l.length cap]] w (ZRes w N (Zo.clo N.toNat (dnL N.toNat l)) (dnE N l)) := by
  have CH := Lib.hid (show ∀ W, Below w.heap.size w W → _ from fun W h => ch_dn N l ao cap W (hA.on h))
  generalize Zo.clo N.toNat (dnL N.toNat l) = r at *
  generalize dnE N l = er at *
  generalize l.length = len at *
  obtain ⟨w0, hw0⟩ : ∃ w0, w0 = (w.alloc (.cells #[.int .i64 N, .slice ao len cap] 25)).alloc (.cells #[.int .i64 0, .slice none 0 0] 25) := ⟨_, rfl⟩
  have bx : Two w0 w.heap.size (.int .i64 N) (.slice ao len cap) := by rw [hw0]; exact (Two.made _ _ _ _).alloc _
  have rs : Two w0 (w.heap.size + 1) (.int .i64 0) (.slice none 0 0) := by
    rw [hw0]
    have := Two.made (w.alloc (.cells #[.int .i64 N, .slice ao len cap] 25)) (.int .i64 0) (.slice none 0 0) 25
    simpa using this
  have E0 := Lib.hid (show Below w.heap.size w w0 by rw [hw0]; exact past_two (Below.refl _ _))
  clear hA
  go_enter Try.func28, Try.ntmps28
  go_wp2_with fail
  rw [← hw0]
  clear hw0
  obtain ⟨b0, b1, b2, b3⟩ := bx.facts
  go_wp2_with fail
  clear b0 b1 b2 b3
  refine (CH.out _ E0.out).mono ?_
  intro e w4 hG
  obtain ⟨hb4, hres⟩ := hG
  obtain ⟨q0, q1, q2, q3⟩ := (rs.kept hb4).facts
  have HB4 := Lib.hid hb4
  have hlt := rs.lt
  rcases hres with ⟨he, g, c, rfl, hgl, hO⟩ | ⟨he, rfl⟩
  · have HO := Lib.hid hO
    subst he
    clear hO hb4
    go_wp2_with fail
    refine bodyPost_ret (v := .tuple #[.agg #[.int .i64 N, .slice (some ⟨g, 0, none⟩) r.length c], .int .i64 0]) (by simp [results, Try.results28, go_sem, q0, q1]) rfl (zres_over E0.out HB4.out HO.out hgl (by omega) hlt _ _)
  · have HEE := Lib.hid he
    clear he hb4
    go_wp2_with fail
    refine bodyPost_ret (v := .tuple #[.agg #[.int .i64 0, .slice none 0 0], .int .i64 er]) (by simp [results, Try.results28, go_sem, q0, q1]) rfl (zres_over0 E0.out HB4.out HEE.out (by omega) _ _)
end Go.Proofs.Ytmlknjiifjdimaa
