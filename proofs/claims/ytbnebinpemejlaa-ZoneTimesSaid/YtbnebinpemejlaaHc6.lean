/- Contracts of layer 3's open, of whatever zone, Check, and changed.; Plain mathematics: matrices whose closing begins alike.; The contract of Free of layer 3's reference.; Contracts of layer 3's Up, Down and Free.; Contracts of layer 3's Up and Down, in the reference's words.; Contracts of layer 3's Up and Down.; The contract of And of layer 3's reference.; The contract of Same of layer 3's reference.; Contracts of And of any zone, and of is and Constant, of layer 3's reference. -/
import Derived.Test.YtbnebinpemejlaaHc5
import Derived.Test.YtbnebinpemejlaaHc3

namespace Go.Proofs.Ytbnebinpemejlaa
open Go.RowKit

theorem Cell.kept_row {w : World} {p : Addr} {v : Value} (h : Cell w p v) {b : Nat} (hne : p.block ≠ b) (cs : Array Value) : Cell (w.setRow b cs) p v :=
  ⟨by rw [cell_setRow_other w b cs p hne]; exact h.1, by unfold World.frozen?; rw [setRow_other w b _ cs hne]; exact h.2⟩

theorem Two.kept_row {w : World} {x : Nat} {u v : Value} (h : Two w x u v) {b : Nat} (hne : x ≠ b) (cs : Array Value) : Two (w.setRow b cs) x u v := ⟨h.1.kept_row hne cs, h.2.kept_row hne cs⟩

def okB (N : Int) (l : List Int) : Bool := decide (chkE N l = 0)

theorem open_gen (N : Int) (l : List Int) (ao : Option Addr) (cap : Nat) (w : World) (hA : Arg w ao l) :
    Calls Try.prog 67 #[.agg #[.int .i64 N, .slice ao l.length cap]] w (fun e w' => e = .returned (.tuple #[.agg (rdW N l), .bool (okB N l)]) ∧ Below w.heap.size w w') := by
  cases hr : rdB N l
  · refine (open_bad N l ao cap w hA hr).mono ?_
    rintro e w' ⟨rfl, hb⟩
    exact ⟨by unfold rdW okB; rw [hr, chk_read hr]; rfl, hb⟩
  · obtain ⟨n, rfl, hn, hl, hv⟩ := rdB_ok hr
    refine (open_ok n l ao cap w hA hn hl hv).mono ?_
    rintro e w' ⟨rfl, hb⟩
    exact ⟨by unfold rdW okB; rw [hr]; rfl, hb⟩

theorem rdW_size (N : Int) (l : List Int) : (rdW N l).size = 122 := by
  unfold rdW
  cases hr : rdB N l
  · exact mcs_size (by simp)
  · obtain ⟨n, rfl, hn, hl, hv⟩ := rdB_ok hr
    exact mcs_size (by rw [hl]; exact dsq_le hn)

theorem rdW_one (N : Int) (l : List Int) : (rdW N l).all (·.oneCell') = true := by
  unfold rdW; split <;> exact mcs_one _ _

theorem rdW_ok {n : Nat} {l : List Int} (h : chkE n l = 0) : rdW n l = mcs n l := by
  cases hr : rdB n l
  · rw [chk_read hr] at h; cases h
  · unfold rdW; rw [hr]; rfl

theorem chk_64 {n : Nat} {l : List Int} (h : chkE n l = 0) : Zo.A64 l ∧ rdL l = true := by
  cases hr : rdB n l
  · rw [chk_read hr] at h; cases h
  · obtain ⟨_, _, _, _, hv⟩ := rdB_ok hr
    exact ⟨a64_of hv, hv⟩

set_option maxRecDepth 100000 in
set_option maxHeartbeats 4000000 in
theorem zcheck_gen (N : Int) (l : List Int) (ao : Option Addr) (cap : Nat) (w : World) (hA : Arg w ao l) :
    Calls Try.prog 17 #[.agg #[.int .i64 N, .slice ao l.length cap]] w (Made (.int .i64 (chkE N l)) w) := by
  have hz := mx_zero
  have sz := rdW_size N l
  have s1 := rdW_one N l
  have CO := Lib.hid (show ∀ W, Below w.heap.size w W → Calls Try.prog 67 #[.agg #[.int .i64 N, .slice ao l.length cap]] W (fun e w' => e = .returned (.tuple #[.agg (rdW N l), .bool (okB N l)]) ∧ Below W.heap.size W w') from fun W h => open_gen N l ao cap W (hA.on h))
  have HE := Lib.hid (show chkE N l = if okB N l then 0 else 2 by
    unfold okB
    by_cases h : chkE N l = 0
    · simp [h]
    · simp [chk_two h])
  generalize rdW N l = A at *
  generalize okB N l = ok at *
  generalize chkE N l = ce at *
  generalize l.length = len at *
  have E0 := Lib.hid (one_more (w1 := w) (.cells #[.int .i64 N, .slice ao len cap] 25))
  clear hA
  go_enter Try.func17, Try.ntmps17
  go_wp2_with fail
  refine (CO.out _ E0.out).mono ?_
  rintro e w1 ⟨rfl, hb⟩
  have HB := Lib.hid (below_on E0.out hb)
  clear hb
  cases ok
  · go_wp2_with (refine wpl_store rfl _ _ rfl _ _ rfl rfl _ (Var.made _) sz s1 ?_)
    go_ret
    exact ⟨ret_int (by rw [HE.out]; rfl), Below.setRow (HB.out.alloc HB.out.size _) HB.out.size _⟩
  · go_wp2_with (refine wpl_store rfl _ _ rfl _ _ rfl rfl _ (Var.made _) sz s1 ?_)
    go_ret
    exact ⟨ret_int (by rw [HE.out]; rfl), Below.setRow (HB.out.alloc HB.out.size _) HB.out.size _⟩

set_option maxRecDepth 100000 in
set_option maxHeartbeats 4000000 in
/-- changed, where nothing is changed. -/
theorem changed_bad (N : Int) (l : List Int) (ao : Option Addr) (cap : Nat) (al : Bool) (fv : Value) (w : World) (hA : Arg w ao l) (h : okB N l = false ∨ al = false) :
    Calls Try.prog 76 #[.agg #[.int .i64 N, .slice ao l.length cap], .bool al, fv] w (ZRes w 0 [] 2) := by
  have hz := mx_zero
  have sz := rdW_size N l
  have s1 := rdW_one N l
  have CO := Lib.hid (show ∀ W, Below w.heap.size w W → Calls Try.prog 67 #[.agg #[.int .i64 N, .slice ao l.length cap]] W (fun e w' => e = .returned (.tuple #[.agg (rdW N l), .bool (okB N l)]) ∧ Below W.heap.size W w') from fun W h => open_gen N l ao cap W (hA.on h))
  generalize rdW N l = A at *
  generalize okB N l = ok at *
  generalize l.length = len at *
  obtain ⟨w0, hw0⟩ : ∃ w0, w0 = (w.alloc (.cells #[.int .i64 N, .slice ao len cap] 25)).alloc (.cells #[.int .i64 0, .slice none 0 0] 25) := ⟨_, rfl⟩
  have bx : Two w0 w.heap.size (.int .i64 N) (.slice ao len cap) := by rw [hw0]; exact (Two.made _ _ _ _).alloc _
  have rs : Two w0 (w.heap.size + 1) (.int .i64 0) (.slice none 0 0) := by
    rw [hw0]
    have := Two.made (w.alloc (.cells #[.int .i64 N, .slice ao len cap] 25)) (.int .i64 0) (.slice none 0 0) 25
    simpa using this
  have E0 := Lib.hid (show Below w.heap.size w w0 by rw [hw0]; exact past_two (Below.refl _ _))
  clear hA
  go_enter Try.func76, Try.ntmps76
  go_wp2_with fail
  rw [← hw0]
  clear hw0
  obtain ⟨b0, b1, b2, b3⟩ := bx.facts
  go_wp2_with fail
  refine (CO.out _ E0.out).mono ?_
  rintro e w1 ⟨rfl, hb⟩
  have rs1 := rs.kept hb
  have HB := Lib.hid (below_on E0.out hb)
  have hlt := rs1.lt
  have hsz := HB.out.size
  have rs2 := (rs1.alloc (.cells (mcs 0 []) 80))
  have rs3 : Two ((w1.alloc (.cells (mcs 0 []) 80)).setRow w1.heap.size A) (w.heap.size + 1) (.int .i64 0) (.slice none 0 0) :=
    rs2.kept_row (by omega) A
  obtain ⟨q0, q1, q2, q3⟩ := rs3.facts
  have HE := Lib.hid (show Below w.heap.size w ((w1.alloc (.cells (mcs 0 []) 80)).setRow w1.heap.size A) from Below.setRow (HB.out.alloc hsz _) hsz _)
  clear bx rs rs1 rs2 rs3 hb b0 b1 b2 b3
  cases ok
  · go_wp2_with (refine wpl_store rfl _ _ rfl _ _ rfl rfl _ (Var.made _) sz s1 ?_)
    refine bodyPost_ret (v := .tuple #[.agg #[.int .i64 0, .slice none 0 0], .int .i64 2]) (by simp [results, Try.results76, go_sem, q0, q1]) rfl (zres_bad ?_)
    exact (HE.out.setCell (by show w.heap.size ≤ w.heap.size + 1; omega) _).setCell (by show w.heap.size ≤ w.heap.size + 1; omega) _
  · have ha : al = false := by rcases h with h | h; cases h; exact h
    subst ha
    go_wp2_with (refine wpl_store rfl _ _ rfl _ _ rfl rfl _ (Var.made _) sz s1 ?_)
    refine bodyPost_ret (v := .tuple #[.agg #[.int .i64 0, .slice none 0 0], .int .i64 2]) (by simp [results, Try.results76, go_sem, q0, q1]) rfl (zres_bad ?_)
    exact (HE.out.setCell (by show w.heap.size ≤ w.heap.size + 1; omega) _).setCell (by show w.heap.size ≤ w.heap.size + 1; omega) _

set_option maxRecDepth 100000 in
set_option maxHeartbeats 4000000 in
/-- changed, where the change makes gl of the matrix. -/
theorem changed_ok (n : Nat) (l gl : List Int) (ao : Option Addr) (cap : Nat) (f : FuncId) (caps : Array Value) (w : World) (hA : Arg w ao l) (hn : n ≤ 10) (hl : l.length = (n + 1) * (n + 1)) (hc : chkE n l = 0) (h64 : Zo.A64 gl)
    (HF : ∀ (args : Array Value) (W : World), (callFunc f args).run Try.prog W = .ok (.enter f args) W)
    (CF : ∀ W b, Below w.heap.size w W → w.heap.size ≤ b → Mx W b n l → Calls Try.prog f (#[.pointer (some ⟨b, 0, none⟩)] ++ caps) W (fun e w' => e = .returned (.tuple #[]) ∧ MSt W b n gl w')) :
    Calls Try.prog 76 #[.agg #[.int .i64 n, .slice ao l.length cap], .bool true, .func (.func f) #[] caps] w (ZRes w n (Zo.clo n gl) (cloE n gl)) := by
  have hz := mx_zero
  have sz : (mcs n l).size = 122 := mcs_size (by rw [hl]; exact dsq_le hn)
  have s1 := mcs_one n l
  have CO := Lib.hid (show ∀ W, Below w.heap.size w W → Calls Try.prog 67 #[.agg #[.int .i64 n, .slice ao l.length cap]] W (fun e w' => e = .returned (.tuple #[.agg (mcs n l), .bool true]) ∧ Below W.heap.size W w') from fun W h => by
    have := open_gen n l ao cap W (hA.on h)
    rwa [rdW_ok hc, show okB n l = true by unfold okB; rw [hc]; rfl] at this)
  have HCF := Lib.hid CF
  have HMZ := Lib.hid (fun (b : Nat) (W : World) (h : Mx W b n gl) => mzone_any b n gl W hn h h64)
  have HLE := Lib.hid hl
  generalize l.length = len at CO ⊢
  obtain ⟨w0, hw0⟩ : ∃ w0, w0 = (w.alloc (.cells #[.int .i64 n, .slice ao len cap] 25)).alloc (.cells #[.int .i64 0, .slice none 0 0] 25) := ⟨_, rfl⟩
  have bx : Two w0 w.heap.size (.int .i64 n) (.slice ao len cap) := by rw [hw0]; exact (Two.made _ _ _ _).alloc _
  have rs : Two w0 (w.heap.size + 1) (.int .i64 0) (.slice none 0 0) := by
    rw [hw0]
    have := Two.made (w.alloc (.cells #[.int .i64 n, .slice ao len cap] 25)) (.int .i64 0) (.slice none 0 0) 25
    simpa using this
  have E0 := Lib.hid (show Below w.heap.size w w0 by rw [hw0]; exact past_two (Below.refl _ _))
  clear hA hl hc h64 CF
  go_enter Try.func76, Try.ntmps76
  go_wp2_with fail
  rw [← hw0]
  clear hw0
  obtain ⟨b0, b1, b2, b3⟩ := bx.facts
  go_wp2_with fail
  refine (CO.out _ E0.out).mono ?_
  rintro e w1 ⟨rfl, hb⟩
  have rs1 := rs.kept hb
  have HB := Lib.hid (below_on E0.out hb)
  have hlt := rs1.lt
  have hsz := HB.out.size
  have rs2 := (rs1.alloc (.cells (mcs 0 []) 80))
  obtain ⟨w2, hw2⟩ : ∃ w2, w2 = (w1.alloc (.cells (mcs 0 []) 80)).setRow w1.heap.size (mcs n l) := ⟨_, rfl⟩
  have rs3 : Two w2 (w.heap.size + 1) (.int .i64 0) (.slice none 0 0) := by rw [hw2]; exact rs2.kept_row (by omega) _
  have M2 : Mx w2 w1.heap.size n l := by rw [hw2]; exact ⟨((Var.made w1).put (mcs n l) sz).1, HLE.out⟩
  have HRS := Lib.hid rs3
  have HM2 := Lib.hid M2
  have HE := Lib.hid (show Below w.heap.size w w2 by rw [hw2]; exact Below.setRow (HB.out.alloc hsz _) hsz _)
  clear bx rs rs1 rs2 rs3 M2 hb b0 b1 b2 b3
  go_wp2_with (refine wpl_store rfl _ _ rfl _ _ rfl rfl _ (Var.made _) sz s1 ?_)
  rw [← hw2]
  clear hw2
  go_wp2_with fail
  refine (HCF.out _ _ HE.out hsz HM2.out).mono ?_
  rintro e w3 ⟨rfl, hM⟩
  have HM3 := Lib.hid hM.1
  have E3 := Lib.hid (grown_over HE.out hM.2 hsz)
  have rs3 := HRS.out.grown hM.2 (by omega)
  have HR3 := Lib.hid rs3
  clear hM rs3 HF HCF
  go_wp2_with fail
  refine (HMZ.out _ _ HM3.out).mono ?_
  intro e w4 hG
  obtain ⟨hg4, hres⟩ := hG
  have E4 := Lib.hid (grown_over E3.out hg4 hsz)
  obtain ⟨q0, q1, q2, q3⟩ := (HR3.out.grown hg4 (by omega)).facts
  have h34 := E3.out.size
  rcases hres with ⟨he, g, c, rfl, hgl, hO⟩ | ⟨he, rfl⟩
  · have HO := Lib.hid hO
    have HEE := Lib.hid he
    clear hO hg4 he
    go_wp2_with fail
    refine bodyPost_ret (v := .tuple #[.agg #[.int .i64 n, .slice (some ⟨g, 0, none⟩) (Zo.clo n gl).length c], .int .i64 0]) (by simp [results, Try.results76, go_sem, q0, q1]) rfl ⟨?_, Or.inl ⟨HEE.out, g, c, rfl, by omega, put_far HO.out (by have := HR3.out.lt; omega) _ _⟩⟩
    exact (E4.out.setCell (by show w.heap.size ≤ w.heap.size + 1; omega) _).setCell (by show w.heap.size ≤ w.heap.size + 1; omega) _
  · have HEE := Lib.hid he
    clear hg4 he
    go_wp2_with fail
    refine bodyPost_ret (v := .tuple #[.agg #[.int .i64 0, .slice none 0 0], .int .i64 (cloE n gl)]) (by simp [results, Try.results76, go_sem, q0, q1]) rfl ⟨?_, Or.inr ⟨HEE.out, rfl⟩⟩
    exact (E4.out.setCell (by show w.heap.size ≤ w.heap.size + 1; omega) _).setCell (by show w.heap.size ≤ w.heap.size + 1; omega) _
end Go.Proofs.Ytbnebinpemejlaa

namespace Go.Proofs.Ytbnebinpemejlaa.Zo

theorem At_ext {n : Nat} {x y : List Int} (hx : x.length = (n + 1) * (n + 1)) (hy : y.length = (n + 1) * (n + 1)) (h : ∀ a b, a ≤ n → b ≤ n → At n x a b = At n y a b) : x = y := by
  refine List.ext_getElem (by omega) fun i h1 h2 => ?_
  have c1 : i / (n + 1) ≤ n := by
    have : i < (n + 1) * (n + 1) := by omega
    have := Nat.div_lt_of_lt_mul this
    omega
  have c2 : i % (n + 1) ≤ n := by have := Nat.mod_lt i (show 0 < n + 1 by omega); omega
  have := h _ _ c1 c2
  unfold At ix gt at this
  rw [show i / (n + 1) * (n + 1) + i % (n + 1) = i by rw [Nat.mul_comm]; exact Nat.div_add_mod i (n + 1)] at this
  simpa [h1, h2] using this

theorem pre_at {n : Nat} {l : List Int} (hl : l.length = (n + 1) * (n + 1)) {a b : Nat} (ha : a ≤ n) (hb : b ≤ n) : At n (pre n l) a b = if a = 0 ∨ a = b then min (At n l a b) 1 else At n l a b := by
  have h : ∀ t, t ≤ n + 1 → ((List.range t).foldl (st1 n) l).length = (n + 1) * (n + 1) ∧ At n ((List.range t).foldl (st1 n) l) a b = if (a = 0 ∨ a = b) ∧ b < t then min (At n l a b) 1 else At n l a b := by
    intro t
    induction t with
    | zero => intro _; exact ⟨hl, by simp⟩
    | succ t ih =>
      intro ht
      obtain ⟨h1, h2⟩ := ih (by omega)
      rw [fold_succ]
      generalize (List.range t).foldl (st1 n) l = Y at *
      refine ⟨by simpa [st1] using h1, ?_⟩
      have e : st1 n Y t = (Y.set (ix n 0 t) (min (At n Y 0 t) 1)).set (ix n t t) (min (At n (Y.set (ix n 0 t) (min (At n Y 0 t) 1)) t t) 1) := rfl
      have l1 : (Y.set (ix n 0 t) (min (At n Y 0 t) 1)).length = (n + 1) * (n + 1) := by simpa using h1
      rw [e, At_set l1 (by omega) (by omega) _ hb, At_set h1 (by omega) (by omega) _ hb, At_set h1 (by omega) (by omega) _ (by omega)]
      by_cases c : b = t
      · subst c
        by_cases ca : a = 0
        · subst ca
          have e1 : At n Y 0 b = At n l 0 b := by rw [h2, if_neg (by omega)]
          by_cases cb : b = 0
          · subst cb; simp [e1]
          · rw [if_neg (by omega), if_pos ⟨rfl, rfl⟩, if_pos ⟨Or.inl rfl, by omega⟩, e1]
        · by_cases cb : a = b
          · subst cb
            have e1 : At n Y a a = At n l a a := by rw [h2, if_neg (by omega)]
            rw [if_pos ⟨rfl, rfl⟩, if_neg (by omega), if_pos ⟨Or.inr rfl, by omega⟩, e1]
          · rw [if_neg (by omega), if_neg (by omega), if_neg (by omega), h2, if_neg (by omega)]
      · rw [if_neg (by omega), if_neg (by omega), h2]
        by_cases ca : (a = 0 ∨ a = b) ∧ b < t
        · rw [if_pos ca, if_pos ⟨ca.1, by omega⟩]
        · rw [if_neg ca, if_neg (by omega)]
  have := (h (n + 1) (Nat.le_refl _)).2
  rw [show (List.range (n + 1)).foldl (st1 n) l = pre n l from rfl] at this
  rw [this]
  by_cases c : a = 0 ∨ a = b
  · rw [if_pos ⟨c, by omega⟩, if_pos c]
  · rw [if_neg (by omega), if_neg c]

theorem pre_len {n : Nat} {l : List Int} (hl : l.length = (n + 1) * (n + 1)) : (pre n l).length = (n + 1) * (n + 1) := rnd_length hl 0 (by omega)

theorem pre_eq {n : Nat} {x y : List Int} (hx : x.length = (n + 1) * (n + 1)) (hy : y.length = (n + 1) * (n + 1))
    (h : ∀ a b, a ≤ n → b ≤ n → (a ≠ 0 ∧ a ≠ b → At n x a b = At n y a b) ∧ (a = 0 ∨ a = b → min (At n x a b) 1 = min (At n y a b) 1)) : pre n x = pre n y := by
  refine At_ext (pre_len hx) (pre_len hy) fun a b ha hb => ?_
  rw [pre_at hx ha hb, pre_at hy ha hb]
  by_cases c : a = 0 ∨ a = b
  · rw [if_pos c, if_pos c]; exact (h a b ha hb).2 c
  · rw [if_neg c, if_neg c]; exact (h a b ha hb).1 (by omega)

theorem clo_pre {n : Nat} {x y : List Int} (h : pre n x = pre n y) : clo n x = clo n y := by unfold clo; rw [h]

/-- A fold of stores: each place gets its own value. -/
theorem fold_at {n : Nat} {N : Nat} {f : List Int → Nat → List Int} {p : Nat → Nat → Nat → Bool} {v : Int} (hf : ∀ (x : List Int) t, t < N → x.length = (n + 1) * (n + 1) → (f x t).length = (n + 1) * (n + 1) ∧ ∀ a b, a ≤ n → b ≤ n → At n (f x t) a b = if p t a b then v else At n x a b)
    {l : List Int} (hl : l.length = (n + 1) * (n + 1)) : ∀ t, t ≤ N → ((List.range t).foldl f l).length = (n + 1) * (n + 1) ∧ ∀ a b, a ≤ n → b ≤ n → At n ((List.range t).foldl f l) a b = if (List.range t).any (fun s => p s a b) then v else At n l a b := by
  intro t
  induction t with
  | zero => intro _; exact ⟨hl, fun a b _ _ => by simp⟩
  | succ t ih =>
    intro ht
    obtain ⟨h1, h2⟩ := ih (by omega)
    rw [fold_succ]
    obtain ⟨h3, h4⟩ := hf _ t (by omega) h1
    refine ⟨h3, fun a b ha hb => ?_⟩
    rw [h4 a b ha hb, h2 a b ha hb, List.range_succ, List.any_append]
    cases h5 : p t a b <;> cases h6 : (List.range t).any (fun s => p s a b) <;> simp [h5]
end Go.Proofs.Ytbnebinpemejlaa.Zo

namespace Go.Proofs.Ytbnebinpemejlaa
open Go.RowKit

def frS (n i : Nat) (x : List Int) (t : Nat) : List Int := if t = i then x else (x.set (Zo.ix n i t) 1099511627776).set (Zo.ix n t i) 1099511627776

def frL (n i : Nat) (l : List Int) : List Int := (List.range (n + 1)).foldl (frS n i) l

theorem frS_len (n i : Nat) (x : List Int) (t : Nat) : (frS n i x t).length = x.length := by unfold frS; split <;> simp

theorem frL_len (n i : Nat) (l : List Int) : (frL n i l).length = l.length := fold_len (frS_len n i) l (n + 1)

set_option maxHeartbeats 800000 in
theorem fr_out0 (n : Nat) (l : List Int) (a : Addr) (cap : Nat) (i : Int) (w : World) (hn : n ≤ 10) (hl : l.length = (n + 1) * (n + 1)) (hR : Rd w a l) (hc : chkE n l = 0) (hi : i < 1) :
    Calls Try.prog 33 #[.agg #[.int .i64 n, .slice (some a) l.length cap], .int .i64 i] w (ZRes w 0 [] 2) := by
  obtain ⟨len, hlen⟩ : ∃ len, len = l.length := ⟨_, rfl⟩
  obtain ⟨w0, hw0⟩ : ∃ w0, w0 = (w.alloc (.cells #[.int .i64 n, .slice (some a) len cap] 25)).alloc (.cells #[.int .i64 0, .slice none 0 0] 25) := ⟨_, rfl⟩
  have bx : Two w0 w.heap.size (.int .i64 n) (.slice (some a) len cap) := by rw [hw0]; exact (Two.made _ _ _ _).alloc _
  have rs : Two w0 (w.heap.size + 1) (.int .i64 0) (.slice none 0 0) := by
    rw [hw0]
    have := Two.made (w.alloc (.cells #[.int .i64 n, .slice (some a) len cap] 25)) (.int .i64 0) (.slice none 0 0) 25
    simpa using this
  have z0 : w0.heap.size = w.heap.size + 2 := by rw [hw0]; simp
  have e0 : Below w.heap.size w w0 := by rw [hw0]; exact past_two (Below.refl _ _)
  have R0 := hR.on e0
  have CK : Hid (∀ W, Rd W a l → Calls Try.prog 18 #[.agg #[.int .i64 n, .slice (some a) len cap]] W (Made (.int .i64 0) W)) := Lib.hid fun W h => by have := check_any n l a cap W hn hl h; rw [hc, ← hlen] at this; exact this
  have CP : Hid (∀ W, Rd W a l → Calls Try.prog 66 #[.agg #[.int .i64 n, .slice (some a) len cap]] W (fun e w' => ∃ g c, e = .returned (.agg #[.int .i64 n, .slice (some ⟨g, 0, none⟩) len c]) ∧ W.heap.size ≤ g ∧ Own w' g c l ∧ Below W.heap.size W w')) := Lib.hid fun W h => by have := copied_any n l a cap W (by rw [hl]; exact dsq_pos n) (by rw [hl]; have := dsq_le hn; omega) h; rw [← hlen] at this; exact this
  have HR := Lib.hid R0
  have HL := Lib.hid hl
  have HLn := Lib.hid hlen
  have E0 := Lib.hid e0
  rw [← hlen]
  clear hR R0 hl hlen hc e0
  go_enter Try.func33, Try.ntmps33
  go_wp2_with fail
  rw [← hw0]
  clear hw0
  obtain ⟨b0, b1, b2, b3⟩ := bx.facts
  go_wp2_with fail
  refine (CK.out _ HR.out).mono ?_
  rintro e w1 ⟨rfl, hb1⟩
  clear b0 b1 b2 b3
  replace bx := bx.kept hb1
  replace rs := rs.kept hb1
  have HR1 := Lib.hid (HR.out.on hb1)
  have E1 := Lib.hid (below_on E0.out hb1)
  have z1 := hb1.size
  clear hb1 HR E0
  obtain ⟨b0, b1, b2, b3⟩ := bx.facts
  clear b0 b1 b2 b3
  obtain ⟨b0, b1, b2, b3⟩ := rs.facts
  obtain ⟨c0, c1, _, _⟩ := bx.facts
  go_wp2_with fail
  refine bodyPost_ret (v := .tuple #[.agg #[.int .i64 0, .slice none 0 0], .int .i64 2]) (by simp [results, Try.results33, go_sem, b0, b1]) rfl (zres_bad ?_)
  exact (E1.out.setCell (by show w.heap.size ≤ w.heap.size + 1; omega) _).setCell (by show w.heap.size ≤ w.heap.size + 1; omega) _

set_option maxHeartbeats 800000 in
theorem fr_out1 (n : Nat) (l : List Int) (a : Addr) (cap : Nat) (i : Int) (w : World) (hn : n ≤ 10) (hl : l.length = (n + 1) * (n + 1)) (hR : Rd w a l) (hc : chkE n l = 0) (hi : ¬ i < 1 ∧ (n : Int) < i) :
    Calls Try.prog 33 #[.agg #[.int .i64 n, .slice (some a) l.length cap], .int .i64 i] w (ZRes w 0 [] 2) := by
  obtain ⟨h1, h2⟩ := hi
  obtain ⟨len, hlen⟩ : ∃ len, len = l.length := ⟨_, rfl⟩
  obtain ⟨w0, hw0⟩ : ∃ w0, w0 = (w.alloc (.cells #[.int .i64 n, .slice (some a) len cap] 25)).alloc (.cells #[.int .i64 0, .slice none 0 0] 25) := ⟨_, rfl⟩
  have bx : Two w0 w.heap.size (.int .i64 n) (.slice (some a) len cap) := by rw [hw0]; exact (Two.made _ _ _ _).alloc _
  have rs : Two w0 (w.heap.size + 1) (.int .i64 0) (.slice none 0 0) := by
    rw [hw0]
    have := Two.made (w.alloc (.cells #[.int .i64 n, .slice (some a) len cap] 25)) (.int .i64 0) (.slice none 0 0) 25
    simpa using this
  have z0 : w0.heap.size = w.heap.size + 2 := by rw [hw0]; simp
  have e0 : Below w.heap.size w w0 := by rw [hw0]; exact past_two (Below.refl _ _)
  have R0 := hR.on e0
  have CK : Hid (∀ W, Rd W a l → Calls Try.prog 18 #[.agg #[.int .i64 n, .slice (some a) len cap]] W (Made (.int .i64 0) W)) := Lib.hid fun W h => by have := check_any n l a cap W hn hl h; rw [hc, ← hlen] at this; exact this
  have CP : Hid (∀ W, Rd W a l → Calls Try.prog 66 #[.agg #[.int .i64 n, .slice (some a) len cap]] W (fun e w' => ∃ g c, e = .returned (.agg #[.int .i64 n, .slice (some ⟨g, 0, none⟩) len c]) ∧ W.heap.size ≤ g ∧ Own w' g c l ∧ Below W.heap.size W w')) := Lib.hid fun W h => by have := copied_any n l a cap W (by rw [hl]; exact dsq_pos n) (by rw [hl]; have := dsq_le hn; omega) h; rw [← hlen] at this; exact this
  have HR := Lib.hid R0
  have HL := Lib.hid hl
  have HLn := Lib.hid hlen
  have E0 := Lib.hid e0
  rw [← hlen]
  clear hR R0 hl hlen hc e0
  go_enter Try.func33, Try.ntmps33
  go_wp2_with fail
  rw [← hw0]
  clear hw0
  obtain ⟨b0, b1, b2, b3⟩ := bx.facts
  go_wp2_with fail
  refine (CK.out _ HR.out).mono ?_
  rintro e w1 ⟨rfl, hb1⟩
  clear b0 b1 b2 b3
  replace bx := bx.kept hb1
  replace rs := rs.kept hb1
  have HR1 := Lib.hid (HR.out.on hb1)
  have E1 := Lib.hid (below_on E0.out hb1)
  have z1 := hb1.size
  clear hb1 HR E0
  obtain ⟨b0, b1, b2, b3⟩ := bx.facts
  clear b0 b1 b2 b3
  obtain ⟨b0, b1, b2, b3⟩ := rs.facts
  obtain ⟨c0, c1, _, _⟩ := bx.facts
  go_wp2_with fail
  refine bodyPost_ret (v := .tuple #[.agg #[.int .i64 0, .slice none 0 0], .int .i64 2]) (by simp [results, Try.results33, go_sem, b0, b1]) rfl (zres_bad ?_)
  exact (E1.out.setCell (by show w.heap.size ≤ w.heap.size + 1; omega) _).setCell (by show w.heap.size ≤ w.heap.size + 1; omega) _

set_option maxHeartbeats 1600000 in
theorem fr_any (n : Nat) (l : List Int) (a : Addr) (cap : Nat) (i : Nat) (w : World) (hn : n ≤ 10) (hl : l.length = (n + 1) * (n + 1)) (hR : Rd w a l) (hc : chkE n l = 0) (hi1 : 1 ≤ i) (hi2 : i ≤ n) :
    Calls Try.prog 33 #[.agg #[.int .i64 n, .slice (some a) l.length cap], .int .i64 i] w (ZRes w n (Zo.clo n (frL n i l)) (cloE n (frL n i l))) := by
  obtain ⟨len, hlen⟩ : ∃ len, len = l.length := ⟨_, rfl⟩
  obtain ⟨w0, hw0⟩ : ∃ w0, w0 = (w.alloc (.cells #[.int .i64 n, .slice (some a) len cap] 25)).alloc (.cells #[.int .i64 0, .slice none 0 0] 25) := ⟨_, rfl⟩
  have bx : Two w0 w.heap.size (.int .i64 n) (.slice (some a) len cap) := by rw [hw0]; exact (Two.made _ _ _ _).alloc _
  have rs : Two w0 (w.heap.size + 1) (.int .i64 0) (.slice none 0 0) := by
    rw [hw0]
    have := Two.made (w.alloc (.cells #[.int .i64 n, .slice (some a) len cap] 25)) (.int .i64 0) (.slice none 0 0) 25
    simpa using this
  have z0 : w0.heap.size = w.heap.size + 2 := by rw [hw0]; simp
  have e0 : Below w.heap.size w w0 := by rw [hw0]; exact past_two (Below.refl _ _)
  have R0 := hR.on e0
  have CK : Hid (∀ W, Rd W a l → Calls Try.prog 18 #[.agg #[.int .i64 n, .slice (some a) len cap]] W (Made (.int .i64 0) W)) := Lib.hid fun W h => by have := check_any n l a cap W hn hl h; rw [hc, ← hlen] at this; exact this
  have CP : Hid (∀ W, Rd W a l → Calls Try.prog 66 #[.agg #[.int .i64 n, .slice (some a) len cap]] W (fun e w' => ∃ g c, e = .returned (.agg #[.int .i64 n, .slice (some ⟨g, 0, none⟩) len c]) ∧ W.heap.size ≤ g ∧ Own w' g c l ∧ Below W.heap.size W w')) := Lib.hid fun W h => by have := copied_any n l a cap W (by rw [hl]; exact dsq_pos n) (by rw [hl]; have := dsq_le hn; omega) h; rw [← hlen] at this; exact this
  have HR := Lib.hid R0
  have HL := Lib.hid hl
  have HLn := Lib.hid hlen
  have E0 := Lib.hid e0
  rw [← hlen]
  clear hR R0 hl hlen hc e0
  go_enter Try.func33, Try.ntmps33
  go_wp2_with fail
  rw [← hw0]
  clear hw0
  obtain ⟨b0, b1, b2, b3⟩ := bx.facts
  go_wp2_with fail
  refine (CK.out _ HR.out).mono ?_
  rintro e w1 ⟨rfl, hb1⟩
  clear b0 b1 b2 b3
  replace bx := bx.kept hb1
  replace rs := rs.kept hb1
  have HR1 := Lib.hid (HR.out.on hb1)
  have E1 := Lib.hid (below_on E0.out hb1)
  have z1 := hb1.size
  clear hb1 HR E0
  obtain ⟨b0, b1, b2, b3⟩ := bx.facts
  go_wp2_with fail
  refine (CP.out _ HR1.out).mono ?_
  rintro e w2 ⟨g, c, rfl, hg, ho, hb2⟩
  clear b0 b1 b2 b3
  replace bx := bx.kept hb2
  replace rs := rs.kept hb2
  have E2 := Lib.hid (below_on E1.out hb2)
  have z2 := hb2.size
  clear hb2 E1 HR1
  obtain ⟨b0, b1, b2, b3⟩ := bx.facts
  obtain ⟨w3, hw3⟩ : ∃ w3, w3 = (w2.setCell ⟨w.heap.size, 0, none⟩ (.int .i64 n)).setCell ⟨w.heap.size, 1, none⟩ (.slice (some ⟨g, 0, none⟩) len c) := ⟨_, rfl⟩
  have bx3 : Two w3 w.heap.size (.int .i64 n) (.slice (some ⟨g, 0, none⟩) len c) := by rw [hw3]; exact bx.put _ _
  have rs3 : Two w3 (w.heap.size + 1) (.int .i64 0) (.slice none 0 0) := by rw [hw3]; exact rs.aside (by omega) _ _
  have O3 : Own w3 g c l := by rw [hw3]; exact put_far ho (by omega) _ _
  have E3 : Below w.heap.size w w3 := by rw [hw3]; exact (E2.out.setCell (by show w.heap.size ≤ w.heap.size; omega) _).setCell (by show w.heap.size ≤ w.heap.size; omega) _
  have S3 := Lib.hid (show St w3 g c l w3 from ⟨O3, World.grownBy.refl _ _⟩)
  have HE3 := Lib.hid E3
  clear ho O3 E3 E2 rs bx
  go_wp2_with fail
  rw [← hw3]
  clear hw3 b0 b1 b2 b3
  go_loopw [6] (fun s wr => ∃ (t : Nat) (x : List Int), t ≤ n + 1 ∧ s = .int .i64 t ∧ x.length = len ∧ Hid (x = (List.range t).foldl (frS n i) l) ∧ Hid (St w3 g c x wr)) (fun s _ => n + 1 - (intOf s).toNat)
  case atStart => exact ⟨0, l, by omega, rfl, HLn.out.symm, Lib.hid rfl, S3⟩
  case round =>
    obtain ⟨t, x, ht, rfl, hx, HX, HT⟩ := hrel
    have bx4 := bx3.grown HT.out.2 (by omega)
    obtain ⟨b0, b1, b2, b3⟩ := bx4.facts
    have lx : x.length = (n + 1) * (n + 1) := by rw [hx, HLn.out, HL.out]
    by_cases htn : t ≤ n
    · by_cases hti : t = i
      · have T0 : ((t : Int) != (i : Int)) = false := by simp; omega
        have HS := Lib.hid (show frS n i x t = x by unfold frS; rw [if_pos hti])
        clear hti
        go_wp2_with fail
        go_roundw
        case rel => exact ⟨t + 1, x, by omega, by go_num, hx, Lib.hid (by rw [Zo.fold_succ, ← HX.out, HS.out]), HT⟩
        case measure => simp [intOf]; omega
      · have T0 : ((t : Int) != (i : Int)) = true := by simp; omega
        have HS := Lib.hid (show frS n i x t = (x.set (Zo.ix n i t) 1099511627776).set (Zo.ix n t i) 1099511627776 by unfold frS; rw [if_neg hti])
        have SE : Hid (∀ w' : World, St w3 g c x w' → Calls Try.prog 79 #[.agg #[.int .i64 n, .slice (some ⟨g, 0, none⟩) len c], .int .i64 i, .int .i64 t, .int .i64 1099511627776] w' (fun e w' => e = .returned (.tuple #[]) ∧ St w3 g c (x.set (Zo.ix n i t) 1099511627776) w')) :=
          Lib.hid fun w' h => by have := set_st (i := i) (j := t) 1099511627776 hn hi2 htn lx h; rw [hx] at this; exact this
        have SE2 : Hid (∀ w' : World, St w3 g c (x.set (Zo.ix n i t) 1099511627776) w' → Calls Try.prog 79 #[.agg #[.int .i64 n, .slice (some ⟨g, 0, none⟩) len c], .int .i64 t, .int .i64 i, .int .i64 1099511627776] w' (fun e w' => e = .returned (.tuple #[]) ∧ St w3 g c ((x.set (Zo.ix n i t) 1099511627776).set (Zo.ix n t i) 1099511627776) w')) :=
          Lib.hid fun w' h => by have := set_st (i := t) (j := i) 1099511627776 hn htn hi2 (by simpa using lx) h; rw [List.length_set, hx] at this; exact this
        clear hti
        go_wp2_with fail
        refine (SE.out _ HT.out).mono ?_
        rintro e w4 ⟨rfl, s4⟩
        clear b0 b1 b2 b3
        have bx5 := bx3.grown s4.2 (by omega)
        obtain ⟨b0, b1, b2, b3⟩ := bx5.facts
        have S4 := Lib.hid s4
        clear s4
        go_wp2_with fail
        refine (SE2.out _ S4.out).mono ?_
        rintro e w5 ⟨rfl, s5⟩
        have S5 := Lib.hid s5
        clear s5
        go_wp2_with fail
        go_roundw
        case rel => exact ⟨t + 1, _, by omega, by go_num, by simpa using hx, Lib.hid (by rw [Zo.fold_succ, ← HX.out, HS.out]), S5⟩
        case measure => simp [intOf]; omega
    · have HX2 := Lib.hid (show x = frL n i l by rw [HX.out, show t = n + 1 by omega]; rfl)
      by_cases hE : cloE n x = 0
      · have CL : Hid (∀ W, Own W g c x → Calls Try.prog 65 #[.agg #[.int .i64 n, .slice (some ⟨g, 0, none⟩) len c]] W (fun e w' => e = .returned (.tuple #[.agg #[.int .i64 n, .slice (some ⟨g, 0, none⟩) len c], .int .i64 0]) ∧ Own w' g c (Zo.clo n x) ∧ W.grownBy w' (some g))) := Lib.hid fun W h => by have := closed_ok W hn lx h hE; rw [hx] at this; exact this
        have HEE := Lib.hid hE
        clear hE
        go_wp2_with fail
        refine (CL.out _ HT.out.1).mono ?_
        rintro e w5 ⟨rfl, ho5, hg5⟩
        have rs5 := (rs3.grown HT.out.2 (by omega)).grown hg5 (by omega)
        obtain ⟨q0, q1, q2, q3⟩ := rs5.facts
        have E5 := Lib.hid (grown_over (grown_over HE3.out HT.out.2 (by omega)) hg5 (by omega))
        have HO5 := Lib.hid ho5
        clear ho5 hg5
        go_wp2_with fail
        refine bodyPost_ret (v := .tuple #[.agg #[.int .i64 n, .slice (some ⟨g, 0, none⟩) len c], .int .i64 0]) (by simp [results, Try.results33, go_sem, q0, q1]) rfl ⟨(E5.out.setCell (by show w.heap.size ≤ w.heap.size + 1; omega) _).setCell (by show w.heap.size ≤ w.heap.size + 1; omega) _, Or.inl ⟨by rw [← HX2.out]; exact HEE.out, g, c, ?_, by omega, ?_⟩⟩
        · rw [Zo.clo_length, frL_len, ← HLn.out]
        · rw [← HX2.out]; exact put_far HO5.out (by omega) _ _
      · have CL : Hid (∀ W, Own W g c x → Calls Try.prog 65 #[.agg #[.int .i64 n, .slice (some ⟨g, 0, none⟩) len c]] W (fun e w' => e = .returned (.tuple #[.agg #[.int .i64 0, .slice none 0 0], .int .i64 (cloE n x)]) ∧ Own w' g c (Zo.clo n x) ∧ W.grownBy w' (some g))) := Lib.hid fun W h => by have := closed_no W hn lx h hE; rw [hx] at this; exact this
        have HEE := Lib.hid hE
        clear hE
        go_wp2_with fail
        refine (CL.out _ HT.out.1).mono ?_
        rintro e w5 ⟨rfl, ho5, hg5⟩
        have rs5 := (rs3.grown HT.out.2 (by omega)).grown hg5 (by omega)
        obtain ⟨q0, q1, q2, q3⟩ := rs5.facts
        have E5 := Lib.hid (grown_over (grown_over HE3.out HT.out.2 (by omega)) hg5 (by omega))
        have HO5 := Lib.hid ho5
        clear ho5 hg5
        go_wp2_with fail
        refine bodyPost_ret (v := .tuple #[.agg #[.int .i64 0, .slice none 0 0], .int .i64 (cloE n x)]) (by simp [results, Try.results33, go_sem, q0, q1]) rfl ⟨(E5.out.setCell (by show w.heap.size ≤ w.heap.size + 1; omega) _).setCell (by show w.heap.size ≤ w.heap.size + 1; omega) _, Or.inr ⟨by rw [← HX2.out]; exact HEE.out, ?_⟩⟩
        rw [HX2.out]

def frB (N i : Int) : Bool := decide (1 ≤ i ∧ i ≤ N)

def frE (N : Int) (l : List Int) (i : Int) : Int := if chkE N l = 0 ∧ 1 ≤ i ∧ i ≤ N then cloE N.toNat (frL N.toNat i.toNat l) else 2

theorem fr_gen (N : Int) (l : List Int) (ao : Option Addr) (cap : Nat) (i : Int) (w : World) (hA : Arg w ao l) :
    Calls Try.prog 33 #[.agg #[.int .i64 N, .slice ao l.length cap], .int .i64 i] w (ZRes w N (Zo.clo N.toNat (frL N.toNat i.toNat l)) (frE N l i)) := by
  by_cases hc : chkE N l = 0
  · obtain ⟨n, rfl, hn, hl, hne⟩ := chk_ok hc
    obtain ⟨a, rfl, hR⟩ := hA hne
    by_cases h1 : i < 1
    · exact (fr_out0 n l a cap i w hn hl hR hc h1).mono fun e w' h => h.bad (by unfold frE; rw [if_neg (by omega)])
    by_cases h2 : (n : Int) < i
    · exact (fr_out1 n l a cap i w hn hl hR hc ⟨h1, h2⟩).mono fun e w' h => h.bad (by unfold frE; rw [if_neg (by omega)])
    obtain ⟨k, rfl⟩ : ∃ k : Nat, i = k := ⟨i.toNat, by omega⟩
    have := fr_any n l a cap k w hn hl hR hc (by omega) (by omega)
    rw [show frE (n : Int) l (k : Int) = cloE n (frL n k l) by unfold frE; rw [if_pos ⟨hc, by omega, by omega⟩]; rfl]
    exact this
  · exact (fr_bad N l ao cap i w hA (chk_two hc)).mono fun e w' h => h.bad (by unfold frE; rw [if_neg (fun x => hc x.1)])
end Go.Proofs.Ytbnebinpemejlaa

namespace Go.Proofs.Ytbnebinpemejlaa
open Go.RowKit

/-- Up: the first element of each row is set. -/
def umS (n : Nat) (x : List Int) (t : Nat) : List Int := x.set (Zo.ix n t 0) 1099511627776

def umL (n : Nat) (l : List Int) : List Int := (List.range (n + 1)).foldl (umS n) l

theorem umL_len (n : Nat) (l : List Int) : (umL n l).length = l.length := fold_len (fun x t => by simp [umS]) l _

/-- Down: the elements of the first row are set. -/
def dmS (n : Nat) (x : List Int) (t : Nat) : List Int := x.set (Zo.ix n 0 t) 1099511627776

def dmL (n : Nat) (l : List Int) : List Int := (List.range (n + 1)).foldl (dmS n) l

theorem dmL_len (n : Nat) (l : List Int) : (dmL n l).length = l.length := fold_len (fun x t => by simp [dmS]) l _

/-- release: row i and column i are set. -/
def rlS (n i : Nat) (x : List Int) (t : Nat) : List Int := (x.set (Zo.ix n i t) 1099511627776).set (Zo.ix n t i) 1099511627776

def rlL (n i : Nat) (l : List Int) : List Int := (List.range (n + 1)).foldl (rlS n i) l

theorem rlL_len (n i : Nat) (l : List Int) : (rlL n i l).length = l.length := fold_len (fun x t => by simp [rlS]) l _

/-- Returns nothing; the matrix at b is gl. -/
def Chg (w : World) (b n : Nat) (gl : List Int) (e : Ending) (w' : World) : Prop := e = .returned (.tuple #[]) ∧ MSt w b n gl w'

set_option maxRecDepth 100000 in
set_option maxHeartbeats 4000000 in
theorem up1_any (b n : Nat) (l : List Int) (w : World) (hn : n ≤ 10) (h : Mx w b n l) : Calls Try.prog 80 #[.pointer (some ⟨b, 0, none⟩)] w (Chg w b n (umL n l)) := by
  have HM := Lib.hid (show MSt w b n l w from ⟨h, World.grownBy.refl _ _⟩)
  have KD := Lib.hid (show ∀ (x : List Int) (w' : World), MSt w b n x w' → w'.cell? ⟨b, 0, none⟩ = some (.int .i64 n) from fun x w' h => h.1.dim)
  have TR := Lib.hid (fun (x : List Int) (i : Nat) (hi : i ≤ n) (w' : World) (h : MSt w b n x w') => row_any b n i w' hn hi h.1.dim)
  have HL := Lib.hid h.2
  have c0 := h.dim
  clear h
  go_enter Try.func80, Try.ntmps80
  go_wp2_with fail
  clear c0
  go_loopw [8] (fun s wr => ∃ (t : Nat) (x : List Int), t ≤ n + 1 ∧ s = .int .i64 t ∧ Hid (x.length = (n + 1) * (n + 1) ∧ x = (List.range t).foldl (umS n) l ∧ MSt w b n x wr)) (fun s _ => n + 1 - (intOf s).toNat)
  case atStart => exact ⟨0, l, by omega, rfl, Lib.hid ⟨HL.out, rfl, HM.out⟩⟩
  case round =>
    obtain ⟨t, x, ht, rfl, HX⟩ := hrel
    by_cases htn : t ≤ n
    · have tix := Zo.ix_lt htn (show 0 ≤ n by omega)
      have c1 : wr.cell? ⟨b, 1 + t * (n + 1), none⟩ = some (.int .i64 (Zo.At n x t 0)) := by
        have := HX.out.2.2.1.at (j := Zo.ix n t 0) (by rw [HX.out.1]; exact tix)
        simpa [Zo.ix, Zo.At] using this
      have f1 := HX.out.2.2.1.free (1 + t * (n + 1))
      have ST := Lib.hid (show MSt w b n (umS n x t) (wr.setCell ⟨b, 1 + t * (n + 1), none⟩ (.int .i64 1099511627776)) from by
        have := HX.out.2.2.put (Zo.ix n t 0) 1099511627776 (by rw [HX.out.1]; exact tix)
        simpa [Zo.ix, umS] using this)
      clear tix
      go_wp2_with fail
      refine (TR.out _ _ htn _ HX.out.2.2).mono ?_
      rintro e w1 ⟨rfl, hw⟩
      rw [hw]; clear hw w1
      go_wp2_with fail
      clear c1 f1
      go_roundw
      case rel => exact ⟨t + 1, _, by omega, by go_num, Lib.hid ⟨by simpa [umS] using HX.out.1, by rw [Zo.fold_succ, ← HX.out.2.1], ST.out⟩⟩
      case measure => simp [intOf]; omega
    · have HE := Lib.hid (show x = umL n l by rw [HX.out.2.1, show t = n + 1 by omega]; rfl)
      go_wp2_with fail
      go_end0
      exact ⟨rfl, by rw [← HE.out]; exact HX.out.2.2⟩

set_option maxRecDepth 100000 in
set_option maxHeartbeats 4000000 in
theorem dn1_any (b n : Nat) (l : List Int) (w : World) (hn : n ≤ 10) (h : Mx w b n l) : Calls Try.prog 82 #[.pointer (some ⟨b, 0, none⟩)] w (Chg w b n (dmL n l)) := by
  have HM := Lib.hid (show MSt w b n l w from ⟨h, World.grownBy.refl _ _⟩)
  have KD := Lib.hid (show ∀ (x : List Int) (w' : World), MSt w b n x w' → w'.cell? ⟨b, 0, none⟩ = some (.int .i64 n) from fun x w' h => h.1.dim)
  have TR := Lib.hid (fun (x : List Int) (i : Nat) (hi : i ≤ n) (w' : World) (h : MSt w b n x w') => row_any b n i w' hn hi h.1.dim)
  have HL := Lib.hid h.2
  have c0 := h.dim
  clear h
  go_enter Try.func82, Try.ntmps82
  go_wp2_with fail
  clear c0
  go_loopw [8] (fun s wr => ∃ (t : Nat) (x : List Int), t ≤ n + 1 ∧ s = .int .i64 t ∧ Hid (x.length = (n + 1) * (n + 1) ∧ x = (List.range t).foldl (dmS n) l ∧ MSt w b n x wr)) (fun s _ => n + 1 - (intOf s).toNat)
  case atStart => exact ⟨0, l, by omega, rfl, Lib.hid ⟨HL.out, rfl, HM.out⟩⟩
  case round =>
    obtain ⟨t, x, ht, rfl, HX⟩ := hrel
    by_cases htn : t ≤ n
    · have tix := Zo.ix_lt (show 0 ≤ n by omega) htn
      have c1 : wr.cell? ⟨b, 1 + t, none⟩ = some (.int .i64 (Zo.At n x 0 t)) := by
        have := HX.out.2.2.1.at (j := Zo.ix n 0 t) (by rw [HX.out.1]; exact tix)
        simpa [Zo.ix, Zo.At] using this
      have f1 := HX.out.2.2.1.free (1 + t)
      have ST := Lib.hid (show MSt w b n (dmS n x t) (wr.setCell ⟨b, 1 + t, none⟩ (.int .i64 1099511627776)) from by
        have := HX.out.2.2.put (Zo.ix n 0 t) 1099511627776 (by rw [HX.out.1]; exact tix)
        simpa [Zo.ix, dmS] using this)
      clear tix
      go_wp2_with fail
      refine (TR.out _ 0 (by omega) _ HX.out.2.2).mono ?_
      rintro e w1 ⟨rfl, hw⟩
      rw [hw]; clear hw w1
      go_wp2_with fail
      clear c1 f1
      go_roundw
      case rel => exact ⟨t + 1, _, by omega, by go_num, Lib.hid ⟨by simpa [dmS] using HX.out.1, by rw [Zo.fold_succ, ← HX.out.2.1], ST.out⟩⟩
      case measure => simp [intOf]; omega
    · have HE := Lib.hid (show x = dmL n l by rw [HX.out.2.1, show t = n + 1 by omega]; rfl)
      go_wp2_with fail
      go_end0
      exact ⟨rfl, by rw [← HE.out]; exact HX.out.2.2⟩

set_option maxRecDepth 100000 in
set_option maxHeartbeats 4000000 in
theorem release_any (b n i : Nat) (l : List Int) (w : World) (hn : n ≤ 10) (hi : i ≤ n) (h : Mx w b n l) : Calls Try.prog 86 #[.pointer (some ⟨b, 0, none⟩), .int .i64 i] w (Chg w b n (rlL n i l)) := by
  have HM := Lib.hid (show MSt w b n l w from ⟨h, World.grownBy.refl _ _⟩)
  have TR := Lib.hid (fun (x : List Int) (i : Nat) (hi : i ≤ n) (w' : World) (h : MSt w b n x w') => row_any b n i w' hn hi h.1.dim)
  have HL := Lib.hid h.2
  have c0 := h.dim
  clear h
  go_enter Try.func86, Try.ntmps86
  go_wp2_with fail
  clear c0
  go_loopw [10] (fun s wr => ∃ (t : Nat) (x : List Int), t ≤ n + 1 ∧ s = .int .i64 t ∧ Hid (x.length = (n + 1) * (n + 1) ∧ x = (List.range t).foldl (rlS n i) l ∧ MSt w b n x wr)) (fun s _ => n + 1 - (intOf s).toNat)
  case atStart => exact ⟨0, l, by omega, rfl, Lib.hid ⟨HL.out, rfl, HM.out⟩⟩
  case round =>
    obtain ⟨t, x, ht, rfl, HX⟩ := hrel
    by_cases htn : t ≤ n
    · have tit := Zo.ix_lt hi htn
      have tti := Zo.ix_lt htn hi
      have c1 : wr.cell? ⟨b, 1 + i * (n + 1) + t, none⟩ = some (.int .i64 (Zo.At n x i t)) := by
        have := HX.out.2.2.1.at (j := Zo.ix n i t) (by rw [HX.out.1]; exact tit)
        rwa [show 1 + Zo.ix n i t = 1 + i * (n + 1) + t by unfold Zo.ix; omega] at this
      have f1 := HX.out.2.2.1.free (1 + i * (n + 1) + t)
      have S1 := HX.out.2.2.put (Zo.ix n i t) 1099511627776 (by rw [HX.out.1]; exact tit)
      rw [show 1 + Zo.ix n i t = 1 + i * (n + 1) + t by unfold Zo.ix; omega] at S1
      have c2 := S1.1.at (j := Zo.ix n t i) (by rw [List.length_set, HX.out.1]; exact tti)
      rw [show 1 + Zo.ix n t i = 1 + t * (n + 1) + i by unfold Zo.ix; omega] at c2
      have f2 := S1.1.free (1 + t * (n + 1) + i)
      have S2 := S1.put (Zo.ix n t i) 1099511627776 (by rw [List.length_set, HX.out.1]; exact tti)
      rw [show 1 + Zo.ix n t i = 1 + t * (n + 1) + i by unfold Zo.ix; omega] at S2
      have ST := Lib.hid (show MSt w b n (rlS n i x t) _ from S2)
      clear tit tti S1 S2
      go_wp2_with fail
      refine (TR.out _ _ hi _ HX.out.2.2).mono ?_
      rintro e w1 ⟨rfl, hw⟩
      rw [hw]; clear hw w1
      go_wp2_with fail
      refine (TR.out _ _ htn _ HX.out.2.2).mono ?_
      rintro e w1 ⟨rfl, hw⟩
      rw [hw]; clear hw w1
      go_wp2_with fail
      clear c1 f1 c2 f2
      go_roundw
      case rel => exact ⟨t + 1, _, by omega, by go_num, Lib.hid ⟨by simpa [rlS] using HX.out.1, by rw [Zo.fold_succ, ← HX.out.2.1], ST.out⟩⟩
      case measure => simp [intOf]; omega
    · have HE := Lib.hid (show x = rlL n i l by rw [HX.out.2.1, show t = n + 1 by omega]; rfl)
      go_wp2_with fail
      go_end0
      exact ⟨rfl, by rw [← HE.out]; exact HX.out.2.2⟩

set_option maxRecDepth 100000 in
theorem fr1_any (b n i : Nat) (p : Addr) (l : List Int) (w : World) (hn : n ≤ 10) (hi : i ≤ n) (h : Mx w b n l) (hp : w.cell? p = some (.int .i64 i)) :
    Calls Try.prog 89 #[.pointer (some ⟨b, 0, none⟩), .pointer (some p)] w (Chg w b n (rlL n i l)) := by
  have RE := Lib.hid (release_any b n i l w hn hi h)
  clear h
  go_enter Try.func89, Try.ntmps89
  go_wp2_with fail
  refine RE.out.mono ?_
  rintro e w1 ⟨rfl, hm⟩
  have HM := Lib.hid hm
  clear hm hp
  go_wp2_with fail
  go_end0
  exact ⟨rfl, HM.out⟩

def ckB (N i first : Int) : Bool := decide (first ≤ i ∧ i ≤ N)

set_option maxHeartbeats 400000 in
theorem isClock_any (N i first : Int) (v : Value) (w : World) : Calls Try.prog 74 #[.agg #[.int .i64 N, v], .int .i64 i, .int .i64 first] w (Made (.bool (ckB N i first)) w) := by
  by_cases h : first ≤ i
  · by_cases g : i ≤ N
    · have H := Lib.hid (show ckB N i first = true by unfold ckB; simp; omega)
      go_enter Try.func74, Try.ntmps74
      go_wp2_with fail
      go_ret
      exact ⟨ret_bool H.out.symm, one_more _⟩
    · have H := Lib.hid (show ckB N i first = false by unfold ckB; simp; omega)
      have D : decide (i ≤ N) = false := by simp; omega
      go_enter Try.func74, Try.ntmps74
      go_wp2_with fail
      go_ret
      exact ⟨ret_bool H.out.symm, one_more _⟩
  · have H := Lib.hid (show ckB N i first = false by unfold ckB; simp; omega)
    have D : decide (first ≤ i) = false := by simp; omega
    go_enter Try.func74, Try.ntmps74
    go_wp2_with fail
    go_ret
    exact ⟨ret_bool H.out.symm, one_more _⟩
end Go.Proofs.Ytbnebinpemejlaa

namespace Go.Proofs.Ytbnebinpemejlaa
open Go.RowKit

theorem cloE_pre {n : Nat} {x y : List Int} (h : Zo.pre n x = Zo.pre n y) : cloE n x = cloE n y := by
  unfold cloE cloB; rw [Zo.clo_pre h]

theorem chk_diag {n : Nat} {l : List Int} (h : chkE n l = 0) : (∀ a, a ≤ n → Zo.At n l a a = 1) ∧ ∀ a, a ≤ n → Zo.At n l 0 a ≤ 1 := by
  have hc : chkB n l = true := by
    unfold chkE at h
    cases e : chkB n l
    · rw [e] at h; simp at h
    · rfl
  unfold chkB at hc
  simp only [Bool.and_eq_true, Int.toNat_natCast] at hc
  have h1 := chk1_iff.1 hc.1.2
  constructor
  · intro a ha
    have := h1 a (by omega) a (by omega)
    unfold okI at this
    simp at this
    exact this.1.2
  · intro a ha
    have := h1 0 (by omega) a (by omega)
    unfold okI at this
    simp at this
    exact this.2

theorem umL_at {n : Nat} {l : List Int} (hl : l.length = (n + 1) * (n + 1)) {a b : Nat} (ha : a ≤ n) (hb : b ≤ n) : Zo.At n (umL n l) a b = if b = 0 then 1099511627776 else Zo.At n l a b := by
  have := (Zo.fold_at (N := n + 1) (f := umS n) (p := fun t a b => decide (a = t ∧ b = 0)) (v := 1099511627776) (fun x t ht hx => ⟨by simpa [umS] using hx, fun a b _ hb => by
    unfold umS; rw [Zo.At_set hx (by omega) (by omega) _ hb]; simp⟩) hl (n + 1) (Nat.le_refl _)).2 a b ha hb
  rw [show umL n l = (List.range (n + 1)).foldl (umS n) l from rfl, this]
  by_cases c : b = 0
  · rw [if_pos c, if_pos]
    rw [List.any_eq_true]
    exact ⟨a, List.mem_range.2 (by omega), by simpa using c⟩
  · rw [if_neg c, if_neg]
    intro h
    rw [List.any_eq_true] at h
    obtain ⟨s, _, hs⟩ := h
    simp at hs
    exact c hs.2

theorem upL_at {n : Nat} {l : List Int} (hl : l.length = (n + 1) * (n + 1)) {a b : Nat} (ha : a ≤ n) (hb : b ≤ n) : Zo.At n (upL n l) a b = if a ≠ 0 ∧ b = 0 then 1099511627776 else Zo.At n l a b := by
  have := (Zo.fold_at (N := n) (f := upS n) (p := fun t a b => decide (a = t + 1 ∧ b = 0)) (v := 1099511627776) (fun x t ht hx => ⟨by simpa [upS] using hx, fun a b _ hb => by
    unfold upS; rw [Zo.At_set hx (by omega) (by omega) _ hb]; simp⟩) hl n (Nat.le_refl _)).2 a b ha hb
  rw [show upL n l = (List.range n).foldl (upS n) l from rfl, this]
  by_cases c : a ≠ 0 ∧ b = 0
  · rw [if_pos c, if_pos]
    rw [List.any_eq_true]
    exact ⟨a - 1, List.mem_range.2 (by omega), by simp; omega⟩
  · rw [if_neg c, if_neg]
    intro h
    rw [List.any_eq_true] at h
    obtain ⟨s, _, hs⟩ := h
    simp at hs
    omega

theorem dmL_at {n : Nat} {l : List Int} (hl : l.length = (n + 1) * (n + 1)) {a b : Nat} (ha : a ≤ n) (hb : b ≤ n) : Zo.At n (dmL n l) a b = if a = 0 then 1099511627776 else Zo.At n l a b := by
  have := (Zo.fold_at (N := n + 1) (f := dmS n) (p := fun t a b => decide (a = 0 ∧ b = t)) (v := 1099511627776) (fun x t ht hx => ⟨by simpa [dmS] using hx, fun a b _ hb => by
    unfold dmS; rw [Zo.At_set hx (by omega) (by omega) _ hb]; simp⟩) hl (n + 1) (Nat.le_refl _)).2 a b ha hb
  rw [show dmL n l = (List.range (n + 1)).foldl (dmS n) l from rfl, this]
  by_cases c : a = 0
  · rw [if_pos c, if_pos]
    rw [List.any_eq_true]
    exact ⟨b, List.mem_range.2 (by omega), by simpa using c⟩
  · rw [if_neg c, if_neg]
    intro h
    rw [List.any_eq_true] at h
    obtain ⟨s, _, hs⟩ := h
    simp at hs
    exact c hs.1

theorem dnL_at {n : Nat} {l : List Int} (hl : l.length = (n + 1) * (n + 1)) {a b : Nat} (ha : a ≤ n) (hb : b ≤ n) : Zo.At n (dnL n l) a b = if a = 0 ∧ b ≠ 0 then 1 else Zo.At n l a b := by
  have := (Zo.fold_at (N := n) (f := dnS n) (p := fun t a b => decide (a = 0 ∧ b = t + 1)) (v := 1) (fun x t ht hx => ⟨by simpa [dnS] using hx, fun a b _ hb => by
    unfold dnS; rw [Zo.At_set hx (by omega) (by omega) _ hb]; simp⟩) hl n (Nat.le_refl _)).2 a b ha hb
  rw [show dnL n l = (List.range n).foldl (dnS n) l from rfl, this]
  by_cases c : a = 0 ∧ b ≠ 0
  · rw [if_pos c, if_pos]
    rw [List.any_eq_true]
    exact ⟨b - 1, List.mem_range.2 (by omega), by simp; omega⟩
  · rw [if_neg c, if_neg]
    intro h
    rw [List.any_eq_true] at h
    obtain ⟨s, _, hs⟩ := h
    simp at hs
    omega

theorem up_pre {n : Nat} {l : List Int} (hl : l.length = (n + 1) * (n + 1)) (hc : chkE n l = 0) : Zo.pre n (umL n l) = Zo.pre n (upL n l) := by
  obtain ⟨dg, _⟩ := chk_diag hc
  refine Zo.pre_eq (by rw [umL_len, hl]) (by rw [upL_len, hl]) fun a b ha hb => ⟨fun h => ?_, fun h => ?_⟩
  · rw [umL_at hl ha hb, upL_at hl ha hb]
    by_cases c : b = 0
    · rw [if_pos c, if_pos ⟨h.1, c⟩]
    · rw [if_neg c, if_neg (by omega)]
  · rw [umL_at hl ha hb, upL_at hl ha hb]
    by_cases c : b = 0
    · rw [if_pos c, if_neg (by omega)]
      have : a = 0 := by omega
      subst this; subst c
      rw [dg 0 (by omega)]; decide
    · rw [if_neg c, if_neg (by omega)]

theorem dn_pre {n : Nat} {l : List Int} (hl : l.length = (n + 1) * (n + 1)) (hc : chkE n l = 0) : Zo.pre n (dmL n l) = Zo.pre n (dnL n l) := by
  obtain ⟨dg, _⟩ := chk_diag hc
  refine Zo.pre_eq (by rw [dmL_len, hl]) (by rw [dnL_len, hl]) fun a b ha hb => ⟨fun h => ?_, fun h => ?_⟩
  · rw [dmL_at hl ha hb, dnL_at hl ha hb, if_neg h.1, if_neg (by omega)]
  · rw [dmL_at hl ha hb, dnL_at hl ha hb]
    by_cases c : a = 0
    · rw [if_pos c]
      by_cases cb : b = 0
      · rw [if_neg (by omega)]
        subst c; subst cb
        rw [dg 0 (by omega)]; decide
      · rw [if_pos ⟨c, cb⟩]; decide
    · rw [if_neg c, if_neg (by omega)]

theorem fold_64 {f : List Int → Nat → List Int} (hf : ∀ x t, Zo.A64 x → Zo.A64 (f x t)) {l : List Int} (h : Zo.A64 l) (t : Nat) : Zo.A64 ((List.range t).foldl f l) :=
  Zo.fold_keeps (R := Zo.A64) t (fun a s _ ha => hf a s ha) l h t (Nat.le_refl _)

theorem no_in : -9223372036854775808 ≤ (1099511627776 : Int) ∧ (1099511627776 : Int) ≤ 9223372036854775807 := by omega

theorem enter_up (args : Array Value) (W : World) : (callFunc 80 args).run Try.prog W = .ok (.enter 80 args) W := by go_simp

theorem enter_dn (args : Array Value) (W : World) : (callFunc 82 args).run Try.prog W = .ok (.enter 82 args) W := by go_simp

/-- What a call of changed gives: the same words as of the function around it. -/
theorem ch_up (N : Int) (l : List Int) (ao : Option Addr) (cap : Nat) (w : World) (hA : Arg w ao l) :
    Calls Try.prog 76 #[.agg #[.int .i64 N, .slice ao l.length cap], .bool true, .func (.func 80) #[] #[]] w (ZRes w N (Zo.clo N.toNat (upL N.toNat l)) (upE N l)) := by
  by_cases hc : chkE N l = 0
  · obtain ⟨n, rfl, hn, hl, hne⟩ := chk_ok hc
    have := changed_ok n l (umL n l) ao cap 80 #[] w hA hn hl hc (fold_64 (fun x t h => Zo.gt_range _ _ _ h no_in) (chk_64 hc).1 _) enter_up (fun W b _ _ hM => up1_any b n l W hn hM)
    rw [show upE (n : Int) l = cloE n (umL n l) by unfold upE; rw [if_pos hc, cloE_pre (up_pre hl hc)]; rfl]
    rw [Zo.clo_pre (up_pre hl hc)] at this
    exact this
  · refine (changed_bad N l ao cap true _ w hA (Or.inl (by unfold okB; simpa using hc))).mono fun e w' h => h.bad (by unfold upE; rw [if_neg hc])

theorem ch_dn (N : Int) (l : List Int) (ao : Option Addr) (cap : Nat) (w : World) (hA : Arg w ao l) :
    Calls Try.prog 76 #[.agg #[.int .i64 N, .slice ao l.length cap], .bool true, .func (.func 82) #[] #[]] w (ZRes w N (Zo.clo N.toNat (dnL N.toNat l)) (dnE N l)) := by
  by_cases hc : chkE N l = 0
  · obtain ⟨n, rfl, hn, hl, hne⟩ := chk_ok hc
    have := changed_ok n l (dmL n l) ao cap 82 #[] w hA hn hl hc (fold_64 (fun x t h => Zo.gt_range _ _ _ h no_in) (chk_64 hc).1 _) enter_dn (fun W b _ _ hM => dn1_any b n l W hn hM)
    rw [show dnE (n : Int) l = cloE n (dmL n l) by unfold dnE; rw [if_pos hc, cloE_pre (dn_pre hl hc)]; rfl]
    rw [Zo.clo_pre (dn_pre hl hc)] at this
    exact this
  · refine (changed_bad N l ao cap true _ w hA (Or.inl (by unfold okB; simpa using hc))).mono fun e w' h => h.bad (by unfold dnE; rw [if_neg hc])
end Go.Proofs.Ytbnebinpemejlaa

namespace Go.Proofs.Ytbnebinpemejlaa
open Go.RowKit

/-- From what a call of changed leaves to what the function around it leaves, whose result lies at x. -/
theorem zres_over {w W w4 : World} {N : Int} {l : List Int} {g c x : Nat} (hb : Below w.heap.size w W) (h : Below W.heap.size W w4) (hO : Own w4 g c l) (hg : W.heap.size ≤ g) (hx : w.heap.size ≤ x) (hlt : x < W.heap.size) (u v : Value) :
    ZRes w N l 0 (.returned (.tuple #[.agg #[.int .i64 N, .slice (some ⟨g, 0, none⟩) l.length c], .int .i64 0])) ((w4.setCell ⟨x, 0, none⟩ u).setCell ⟨x, 1, none⟩ v) :=
  ⟨((below_on hb h).setCell hx _).setCell hx _, Or.inl ⟨rfl, g, c, rfl, by have := hb.size; omega, put_far hO (by omega) _ _⟩⟩

theorem zres_over0 {w W w4 : World} {N : Int} {l : List Int} {er : Int} {x : Nat} (hb : Below w.heap.size w W) (h : Below W.heap.size W w4) (he : er ≠ 0) (hx : w.heap.size ≤ x) (u v : Value) :
    ZRes w N l er (.returned (.tuple #[.agg #[.int .i64 0, .slice none 0 0], .int .i64 er])) ((w4.setCell ⟨x, 0, none⟩ u).setCell ⟨x, 1, none⟩ v) :=
  ⟨((below_on hb h).setCell hx _).setCell hx _, Or.inr ⟨he, rfl⟩⟩

set_option maxRecDepth 100000 in
set_option maxHeartbeats 4000000 in
theorem zup_gen (N : Int) (l : List Int) (ao : Option Addr) (cap : Nat) (w : World) (hA : Arg w ao l) :
    Calls Try.prog 26 #[.agg #[.int .i64 N, .slice ao l.length cap]] w (ZRes w N (Zo.clo N.toNat (upL N.toNat l)) (upE N l)) := by
  have CH := Lib.hid (show ∀ W, Below w.heap.size w W → _ from fun W h => ch_up N l ao cap W (hA.on h))
  generalize Zo.clo N.toNat (upL N.toNat l) = r at *
  generalize upE N l = er at *
  generalize l.length = len at *
  obtain ⟨w0, hw0⟩ : ∃ w0, w0 = (w.alloc (.cells #[.int .i64 N, .slice ao len cap] 25)).alloc (.cells #[.int .i64 0, .slice none 0 0] 25) := ⟨_, rfl⟩
  have bx : Two w0 w.heap.size (.int .i64 N) (.slice ao len cap) := by rw [hw0]; exact (Two.made _ _ _ _).alloc _
  have rs : Two w0 (w.heap.size + 1) (.int .i64 0) (.slice none 0 0) := by
    rw [hw0]
    have := Two.made (w.alloc (.cells #[.int .i64 N, .slice ao len cap] 25)) (.int .i64 0) (.slice none 0 0) 25
    simpa using this
  have E0 := Lib.hid (show Below w.heap.size w w0 by rw [hw0]; exact past_two (Below.refl _ _))
  clear hA
  go_enter Try.func26, Try.ntmps26
  go_wp2_with fail
  rw [← hw0]
  clear hw0
  obtain ⟨b0, b1, b2, b3⟩ := bx.facts
  go_wp2_with fail
  clear b0 b1 b2 b3
  refine (CH.out _ E0.out).mono ?_
  intro e w4 hG
  obtain ⟨hb4, hres⟩ := hG
  obtain ⟨q0, q1, q2, q3⟩ := (rs.kept hb4).facts
  have HB4 := Lib.hid hb4
  have hlt := rs.lt
  rcases hres with ⟨he, g, c, rfl, hgl, hO⟩ | ⟨he, rfl⟩
  · have HO := Lib.hid hO
    subst he
    clear hO hb4
    go_wp2_with fail
    refine bodyPost_ret (v := .tuple #[.agg #[.int .i64 N, .slice (some ⟨g, 0, none⟩) r.length c], .int .i64 0]) (by simp [results, Try.results26, go_sem, q0, q1]) rfl (zres_over E0.out HB4.out HO.out hgl (by omega) hlt _ _)
  · have HEE := Lib.hid he
    clear he hb4
    go_wp2_with fail
    refine bodyPost_ret (v := .tuple #[.agg #[.int .i64 0, .slice none 0 0], .int .i64 er]) (by simp [results, Try.results26, go_sem, q0, q1]) rfl (zres_over0 E0.out HB4.out HEE.out (by omega) _ _)

set_option maxRecDepth 100000 in
set_option maxHeartbeats 4000000 in
theorem zdn_gen (N : Int) (l : List Int) (ao : Option Addr) (cap : Nat) (w : World) (hA : Arg w ao l) :
    Calls Try.prog 28 #[.agg #[.int .i64 N, .slice ao l.length cap]] w (ZRes w N (Zo.clo N.toNat (dnL N.toNat l)) (dnE N l)) := by
  have CH := Lib.hid (show ∀ W, Below w.heap.size w W → _ from fun W h => ch_dn N l ao cap W (hA.on h))
  generalize Zo.clo N.toNat (dnL N.toNat l) = r at *
  generalize dnE N l = er at *
  generalize l.length = len at *
  obtain ⟨w0, hw0⟩ : ∃ w0, w0 = (w.alloc (.cells #[.int .i64 N, .slice ao len cap] 25)).alloc (.cells #[.int .i64 0, .slice none 0 0] 25) := ⟨_, rfl⟩
  have bx : Two w0 w.heap.size (.int .i64 N) (.slice ao len cap) := by rw [hw0]; exact (Two.made _ _ _ _).alloc _
  have rs : Two w0 (w.heap.size + 1) (.int .i64 0) (.slice none 0 0) := by
    rw [hw0]
    have := Two.made (w.alloc (.cells #[.int .i64 N, .slice ao len cap] 25)) (.int .i64 0) (.slice none 0 0) 25
    simpa using this
  have E0 := Lib.hid (show Below w.heap.size w w0 by rw [hw0]; exact past_two (Below.refl _ _))
  clear hA
  go_enter Try.func28, Try.ntmps28
  go_wp2_with fail
  rw [← hw0]
  clear hw0
  obtain ⟨b0, b1, b2, b3⟩ := bx.facts
  go_wp2_with fail
  clear b0 b1 b2 b3
  refine (CH.out _ E0.out).mono ?_
  intro e w4 hG
  obtain ⟨hb4, hres⟩ := hG
  obtain ⟨q0, q1, q2, q3⟩ := (rs.kept hb4).facts
  have HB4 := Lib.hid hb4
  have hlt := rs.lt
  rcases hres with ⟨he, g, c, rfl, hgl, hO⟩ | ⟨he, rfl⟩
  · have HO := Lib.hid hO
    subst he
    clear hO hb4
    go_wp2_with fail
    refine bodyPost_ret (v := .tuple #[.agg #[.int .i64 N, .slice (some ⟨g, 0, none⟩) r.length c], .int .i64 0]) (by simp [results, Try.results28, go_sem, q0, q1]) rfl (zres_over E0.out HB4.out HO.out hgl (by omega) hlt _ _)
  · have HEE := Lib.hid he
    clear he hb4
    go_wp2_with fail
    refine bodyPost_ret (v := .tuple #[.agg #[.int .i64 0, .slice none 0 0], .int .i64 er]) (by simp [results, Try.results28, go_sem, q0, q1]) rfl (zres_over0 E0.out HB4.out HEE.out (by omega) _ _)
end Go.Proofs.Ytbnebinpemejlaa

namespace Go.Proofs.Ytbnebinpemejlaa
open Go.RowKit

/-- Constraints: the clock I minus the clock J meets L. -/
abbrev Con := Int × Int × Int

def gc (cs : List Con) (k : Nat) : Con := cs.getD k (0, 0, 0)

def Rd3 (w : World) (a : Addr) (cs : List Con) : Prop := ∀ j, j < cs.length → w.cell? (a.add (j * 3)) = some (.int .i64 (gc cs j).1) ∧ w.cell? ⟨(a.add (j * 3)).block, (a.add (j * 3)).off + 1, none⟩ = some (.int .i64 (gc cs j).2.1) ∧ w.cell? ⟨(a.add (j * 3)).block, (a.add (j * 3)).off + 2, none⟩ = some (.int .i64 (gc cs j).2.2)

theorem Rd3.on {w w' : World} {a : Addr} {l : List Con} (h : Rd3 w a l) (hb : Below w.heap.size w w') : Rd3 w' a l := fun j hj => ⟨kept hb (h j hj).1, kept hb (h j hj).2.1, kept hb (h j hj).2.2⟩

/-- Behind writes to a row of the call's own. -/
theorem Rd3.st {w w3 w' : World} {a : Addr} {cs : List Con} {g c : Nat} {x : List Int} (h : Rd3 w a cs) (hb : Below w.heap.size w w3) (hg : w.heap.size ≤ g) (hs : St w3 g c x w') : Rd3 w' a cs := by
  intro j hj
  obtain ⟨h1, h2, h3⟩ := h j hj
  exact ⟨hs.cell (kept hb h1) (by have := World.block_lt_of_cell? w _ h1; omega), hs.cell (kept hb h2) (by have := World.block_lt_of_cell? w _ h2; omega), hs.cell (kept hb h3) (by have := World.block_lt_of_cell? w _ h3; omega)⟩

def okC (n : Nat) (c : Con) : Bool := decide (0 ≤ c.1 ∧ c.1 ≤ n ∧ 0 ≤ c.2.1 ∧ c.2.1 ≤ n) && lvB c.2.2

def anS (n : Nat) (cs : List Con) (x : List Int) (t : Nat) : List Int := x.set (Zo.ix n (gc cs t).1.toNat (gc cs t).2.1.toNat) (imin (Zo.At n x (gc cs t).1.toNat (gc cs t).2.1.toNat) (gc cs t).2.2)

def anL (n : Nat) (cs : List Con) (l : List Int) : List Int := (List.range cs.length).foldl (anS n cs) l

theorem anL_len (n : Nat) (cs : List Con) (l : List Int) : (anL n cs l).length = l.length := fold_len (fun x t => by simp [anS]) l _

def anE (n : Nat) (cs : List Con) (l : List Int) : Int := if cs.all (okC n) then cloE n (anL n cs l) else 2

theorem anE_bad {n : Nat} {cs : List Con} {l : List Int} {k : Nat} (hk : k < cs.length) (h : okC n (gc cs k) = false) : anE n cs l = 2 := by
  have : cs.all (okC n) = false := by
    rw [List.all_eq_false]
    exact ⟨cs[k], List.getElem_mem hk, by rw [show cs[k] = gc cs k by simp [gc, hk], h]; simp⟩
  unfold anE; rw [this]; rfl

theorem anE_ok {n : Nat} {cs : List Con} {l : List Int} (h : ∀ k, k < cs.length → okC n (gc cs k) = true) : anE n cs l = cloE n (anL n cs l) := by
  have : cs.all (okC n) = true := by
    rw [List.all_eq_true]
    intro x hx
    obtain ⟨k, hk, rfl⟩ := List.getElem_of_mem hx
    have := h k hk
    simpa [gc, hk] using this
  unfold anE; rw [this]; rfl

set_option maxRecDepth 20000 in
set_option maxHeartbeats 4000000 in
theorem an_any (n : Nat) (l : List Int) (a : Addr) (cap : Nat) (cs : List Con) (dao : Option Addr) (d : Addr) (dc : Nat) (w : World) (hn : n ≤ 10) (hl : l.length = (n + 1) * (n + 1)) (hR : Rd w a l) (hc : chkE n l = 0) (hD : Rd3 w d cs) (hdl : cs.length ≤ 1000) (hdo : cs ≠ [] → dao = some d) :
    Calls Try.prog 25 #[.agg #[.int .i64 n, .slice (some a) l.length cap], .slice dao cs.length dc] w (ZRes w n (Zo.clo n (anL n cs l)) (anE n cs l)) := by
  obtain ⟨cl, hcl⟩ : ∃ cl, cl = cs.length := ⟨_, rfl⟩
  have HCl := Lib.hid hcl
  rw [← hcl]
  have hcb : cl ≤ 1000 := by omega
  have HD := Lib.hid hD
  have HDO := Lib.hid (show 0 < cl → dao = some d from fun h => hdo (fun e => by rw [hcl, e] at h; simp at h))
  clear hD hcl hdl hdo
  obtain ⟨len, hlen⟩ : ∃ len, len = l.length := ⟨_, rfl⟩
  obtain ⟨w0, hw0⟩ : ∃ w0, w0 = (w.alloc (.cells #[.int .i64 n, .slice (some a) len cap] 25)).alloc (.cells #[.int .i64 0, .slice none 0 0] 25) := ⟨_, rfl⟩
  have bx : Two w0 w.heap.size (.int .i64 n) (.slice (some a) len cap) := by rw [hw0]; exact (Two.made _ _ _ _).alloc _
  have rs : Two w0 (w.heap.size + 1) (.int .i64 0) (.slice none 0 0) := by
    rw [hw0]
    have := Two.made (w.alloc (.cells #[.int .i64 n, .slice (some a) len cap] 25)) (.int .i64 0) (.slice none 0 0) 25
    simpa using this
  have z0 : w0.heap.size = w.heap.size + 2 := by rw [hw0]; simp
  have e0 : Below w.heap.size w w0 := by rw [hw0]; exact past_two (Below.refl _ _)
  have R0 := hR.on e0
  have CK : Hid (∀ W, Rd W a l → Calls Try.prog 18 #[.agg #[.int .i64 n, .slice (some a) len cap]] W (Made (.int .i64 0) W)) := Lib.hid fun W h => by have := check_any n l a cap W hn hl h; rw [hc, ← hlen] at this; exact this
  have CP : Hid (∀ W, Rd W a l → Calls Try.prog 66 #[.agg #[.int .i64 n, .slice (some a) len cap]] W (fun e w' => ∃ g c, e = .returned (.agg #[.int .i64 n, .slice (some ⟨g, 0, none⟩) len c]) ∧ W.heap.size ≤ g ∧ Own w' g c l ∧ Below W.heap.size W w')) := Lib.hid fun W h => by have := copied_any n l a cap W (by rw [hl]; exact dsq_pos n) (by rw [hl]; have := dsq_le hn; omega) h; rw [← hlen] at this; exact this
  have HR := Lib.hid R0
  have HL := Lib.hid hl
  have HLn := Lib.hid hlen
  have E0 := Lib.hid e0
  rw [← hlen]
  clear hR R0 hl hlen hc e0
  go_enter Try.func25, Try.ntmps25
  go_wp2_with fail
  rw [← hw0]
  clear hw0
  obtain ⟨b0, b1, b2, b3⟩ := bx.facts
  go_wp2_with fail
  refine (CK.out _ HR.out).mono ?_
  rintro e w1 ⟨rfl, hb1⟩
  clear b0 b1 b2 b3
  replace bx := bx.kept hb1
  replace rs := rs.kept hb1
  have HR1 := Lib.hid (HR.out.on hb1)
  have E1 := Lib.hid (below_on E0.out hb1)
  have z1 := hb1.size
  clear hb1 HR E0
  obtain ⟨b0, b1, b2, b3⟩ := bx.facts
  go_wp2_with fail
  clear b0 b1 b2 b3
  go_loopw [6] (fun s wr => ∃ t : Nat, t ≤ cl ∧ s = .int .i64 t ∧ Hid (∀ k, k < t → okC n (gc cs k) = true) ∧ Hid (Below w1.heap.size w1 wr)) (fun s _ => cl - (intOf s).toNat)
  case atStart => exact ⟨0, by omega, rfl, Lib.hid (fun k hk => by omega), Lib.hid (Below.refl _ _)⟩
  case round =>
    obtain ⟨t, ht, rfl, HK, HB⟩ := hrel
    obtain ⟨b0, b1, b2, b3⟩ := (bx.kept HB.out).facts
    by_cases htn : t < cl
    · have hdo := HDO.out (by omega)
      clear HDO
      subst hdo
      obtain ⟨d1, d2, d3⟩ := (HD.out.on (below_on E1.out HB.out)) t (by rw [← HCl.out]; exact htn)
      obtain ⟨q, hq⟩ : ∃ q, q = gc cs t := ⟨_, rfl⟩
      rw [← hq] at d1 d2 d3
      have HQ := Lib.hid hq
      clear hq
      obtain ⟨I, J, L⟩ := q
      simp only at d1 d2 d3
      have v9 := fun W => refLimValid_free L W
      by_cases i1 : I < 0
      · have D1 : decide (I < (0 : Int)) = true := by simpa using i1
        clear v9
        have HE := Lib.hid (anE_bad (n := n) (cs := cs) (l := l) (k := t) (by rw [← HCl.out]; exact htn) (by rw [← HQ.out]; unfold okC; simp; omega))
        go_wp2_with fail
        go_quiet (fail)
        clear d1 d2 d3 b0 b1 b2 b3
        obtain ⟨r0, r1, r2, r3⟩ := (rs.kept HB.out).facts
        go_wp2_with fail
        refine bodyPost_ret (v := .tuple #[.agg #[.int .i64 0, .slice none 0 0], .int .i64 2]) (by simp [results, Try.results25, go_sem, r0, r1]) rfl (ZRes.bad (zres_bad (N := 0) (l := []) ?_) HE.out)
        exact ((below_drewN (below_on E1.out HB.out) _).setCell (by show w.heap.size ≤ w.heap.size + 1; omega) _).setCell (by show w.heap.size ≤ w.heap.size + 1; omega) _
      have D1 : decide (I < (0 : Int)) = false := by simp; omega
      by_cases i2 : (n : Int) < I
      · have D2 : decide ((n : Int) < I) = true := by simpa using i2
        clear v9
        have HE := Lib.hid (anE_bad (n := n) (cs := cs) (l := l) (k := t) (by rw [← HCl.out]; exact htn) (by rw [← HQ.out]; unfold okC; simp; omega))
        go_wp2_with fail
        go_quiet (fail)
        clear d1 d2 d3 b0 b1 b2 b3
        obtain ⟨r0, r1, r2, r3⟩ := (rs.kept HB.out).facts
        go_wp2_with fail
        refine bodyPost_ret (v := .tuple #[.agg #[.int .i64 0, .slice none 0 0], .int .i64 2]) (by simp [results, Try.results25, go_sem, r0, r1]) rfl (ZRes.bad (zres_bad (N := 0) (l := []) ?_) HE.out)
        exact ((below_drewN (below_on E1.out HB.out) _).setCell (by show w.heap.size ≤ w.heap.size + 1; omega) _).setCell (by show w.heap.size ≤ w.heap.size + 1; omega) _
      have D2 : decide ((n : Int) < I) = false := by simp; omega
      by_cases j1 : J < 0
      · have D3 : decide (J < (0 : Int)) = true := by simpa using j1
        clear v9
        have HE := Lib.hid (anE_bad (n := n) (cs := cs) (l := l) (k := t) (by rw [← HCl.out]; exact htn) (by rw [← HQ.out]; unfold okC; simp; omega))
        go_wp2_with fail
        go_quiet (fail)
        clear d1 d2 d3 b0 b1 b2 b3
        obtain ⟨r0, r1, r2, r3⟩ := (rs.kept HB.out).facts
        go_wp2_with fail
        refine bodyPost_ret (v := .tuple #[.agg #[.int .i64 0, .slice none 0 0], .int .i64 2]) (by simp [results, Try.results25, go_sem, r0, r1]) rfl (ZRes.bad (zres_bad (N := 0) (l := []) ?_) HE.out)
        exact ((below_drewN (below_on E1.out HB.out) _).setCell (by show w.heap.size ≤ w.heap.size + 1; omega) _).setCell (by show w.heap.size ≤ w.heap.size + 1; omega) _
      have D3 : decide (J < (0 : Int)) = false := by simp; omega
      by_cases j2 : (n : Int) < J
      · have D4 : decide ((n : Int) < J) = true := by simpa using j2
        clear v9
        have HE := Lib.hid (anE_bad (n := n) (cs := cs) (l := l) (k := t) (by rw [← HCl.out]; exact htn) (by rw [← HQ.out]; unfold okC; simp; omega))
        go_wp2_with fail
        go_quiet (fail)
        clear d1 d2 d3 b0 b1 b2 b3
        obtain ⟨r0, r1, r2, r3⟩ := (rs.kept HB.out).facts
        go_wp2_with fail
        refine bodyPost_ret (v := .tuple #[.agg #[.int .i64 0, .slice none 0 0], .int .i64 2]) (by simp [results, Try.results25, go_sem, r0, r1]) rfl (ZRes.bad (zres_bad (N := 0) (l := []) ?_) HE.out)
        exact ((below_drewN (below_on E1.out HB.out) _).setCell (by show w.heap.size ≤ w.heap.size + 1; omega) _).setCell (by show w.heap.size ≤ w.heap.size + 1; omega) _
      have D4 : decide ((n : Int) < J) = false := by simp; omega
      cases lv : lvB L
      · have HLV := Lib.hid lv
        rw [lv] at v9
        have V9 := Lib.hid v9
        clear v9 lv
        have HE := Lib.hid (anE_bad (n := n) (cs := cs) (l := l) (k := t) (by rw [← HCl.out]; exact htn) (by rw [← HQ.out]; unfold okC; simp; intros; exact HLV.out))
        go_wp2_with fail
        go_quiet ((go_at_call 64; exact Calls.quiet_of_same (V9.out _)))
        clear d1 d2 d3 b0 b1 b2 b3
        obtain ⟨r0, r1, r2, r3⟩ := (rs.kept HB.out).facts
        go_wp2_with fail
        refine bodyPost_ret (v := .tuple #[.agg #[.int .i64 0, .slice none 0 0], .int .i64 2]) (by simp [results, Try.results25, go_sem, r0, r1]) rfl (ZRes.bad (zres_bad (N := 0) (l := []) ?_) HE.out)
        exact ((below_drewN (below_on E1.out HB.out) _).setCell (by show w.heap.size ≤ w.heap.size + 1; omega) _).setCell (by show w.heap.size ≤ w.heap.size + 1; omega) _
      · rw [lv] at v9
        have V9 := Lib.hid v9
        have HK2 := Lib.hid (show okC n (gc cs t) = true by rw [← HQ.out]; unfold okC; rw [lv]; simp; omega)
        clear v9 lv
        go_wp2_with fail
        go_quiet ((go_at_call 64; exact Calls.quiet_of_same (V9.out _)))
        clear d1 d2 d3 b0 b1 b2 b3
        go_wp2_with fail
        go_roundw
        case rel =>
          refine ⟨t + 1, by omega, by go_num, Lib.hid (fun k hk => ?_), Lib.hid (below_drewN HB.out _)⟩
          by_cases e : k = t
          · rw [e]; exact HK2.out
          · exact HK.out k (by omega)
        case measure => simp [intOf]; omega
    · have HAE := Lib.hid (anE_ok (n := n) (cs := cs) (l := l) (fun k hk => HK.out k (by rw [← HCl.out] at hk; omega)))
      have HOK := Lib.hid (show ∀ k, k < cl → okC n (gc cs k) = true from fun k hk => HK.out k (by omega))
      clear b0 b1 b2 b3
      replace bx := bx.kept HB.out
      replace rs := rs.kept HB.out
      replace HR1 := Lib.hid (HR1.out.on HB.out)
      replace E1 := Lib.hid (below_on E1.out HB.out)
      have z2' := HB.out.size
      clear HB HK
      obtain ⟨b0, b1, b2, b3⟩ := bx.facts
      go_wp2_with fail
      refine (CP.out _ HR1.out).mono ?_
      rintro e w2 ⟨g, c, rfl, hg, ho, hb2⟩
      clear b0 b1 b2 b3
      replace bx := bx.kept hb2
      replace rs := rs.kept hb2
      have E2 := Lib.hid (below_on E1.out hb2)
      have z2 := hb2.size
      clear hb2 E1 HR1
      obtain ⟨b0, b1, b2, b3⟩ := bx.facts
      obtain ⟨w3, hw3⟩ : ∃ w3, w3 = (w2.setCell ⟨w.heap.size, 0, none⟩ (.int .i64 n)).setCell ⟨w.heap.size, 1, none⟩ (.slice (some ⟨g, 0, none⟩) len c) := ⟨_, rfl⟩
      have bx3 : Two w3 w.heap.size (.int .i64 n) (.slice (some ⟨g, 0, none⟩) len c) := by rw [hw3]; exact bx.put _ _
      have rs3 : Two w3 (w.heap.size + 1) (.int .i64 0) (.slice none 0 0) := by rw [hw3]; exact rs.aside (by omega) _ _
      have O3 : Own w3 g c l := by rw [hw3]; exact put_far ho (by omega) _ _
      have E3 : Below w.heap.size w w3 := by rw [hw3]; exact (E2.out.setCell (by show w.heap.size ≤ w.heap.size; omega) _).setCell (by show w.heap.size ≤ w.heap.size; omega) _
      have S3 := Lib.hid (show St w3 g c l w3 from ⟨O3, World.grownBy.refl _ _⟩)
      have HE3 := Lib.hid E3
      clear ho O3 E3 E2 rs bx
      go_wp2_with fail
      rw [← hw3]
      clear hw3 b0 b1 b2 b3
      have KD := Lib.hid (show ∀ (t : Nat) (y : List Int) (w' : World), t < cl → St w3 g c y w' → w'.cell? (d.add (t * 3)) = some (.int .i64 (gc cs t).1) ∧ w'.cell? ⟨(d.add (t * 3)).block, (d.add (t * 3)).off + 1, none⟩ = some (.int .i64 (gc cs t).2.1) ∧ w'.cell? ⟨(d.add (t * 3)).block, (d.add (t * 3)).off + 2, none⟩ = some (.int .i64 (gc cs t).2.2) from
        fun t y w' h1 h2 => (HD.out.st HE3.out (by omega) h2) t (by rw [← HCl.out]; exact h1))
      have KS := Lib.hid (show ∀ (y : List Int) (w' : World), St w3 g c y w' → w'.cell? ⟨w.heap.size, 0, none⟩ = some (.int .i64 n) ∧ w'.cell? ⟨w.heap.size, 1, none⟩ = some (.slice (some ⟨g, 0, none⟩) len c) from
        fun y w' h => ⟨h.cell bx3.facts.1 (by simp; omega), h.cell bx3.facts.2.1 (by simp; omega)⟩)
      go_loopw [7] (fun s wr => ∃ (t : Nat) (x : List Int), t ≤ cl ∧ s = .int .i64 t ∧ x.length = len ∧ Hid (x = (List.range t).foldl (anS n cs) l) ∧ Hid (St w3 g c x wr)) (fun s _ => cl - (intOf s).toNat)
      case atStart => exact ⟨0, l, by omega, rfl, HLn.out.symm, Lib.hid rfl, S3⟩
      case round =>
        obtain ⟨t, x, ht, rfl, hx, HX, HT⟩ := hrel
        have bx4 := bx3.grown HT.out.2 (by omega)
        obtain ⟨b0, b1, b2, b3⟩ := bx4.facts
        have lx : x.length = (n + 1) * (n + 1) := by rw [hx, HLn.out, HL.out]
        by_cases htn : t < cl
        · have hdo := HDO.out (by omega)
          clear HDO
          subst hdo
          obtain ⟨d1, d2, d3⟩ := KD.out t _ _ htn HT.out
          obtain ⟨i, j, L, hq, hi, hj⟩ : ∃ (i j : Nat) (L : Int), gc cs t = ((i : Int), (j : Int), L) ∧ i ≤ n ∧ j ≤ n := by
            have := HOK.out t htn
            unfold okC at this
            simp only [Bool.and_eq_true, decide_eq_true_eq] at this
            obtain ⟨⟨p1, p2, p3, p4⟩, _⟩ := this
            refine ⟨(gc cs t).1.toNat, (gc cs t).2.1.toNat, (gc cs t).2.2, ?_, by omega, by omega⟩
            rw [Int.toNat_of_nonneg p1, Int.toNat_of_nonneg p3]
          have kd := fun (y : List Int) (w' : World) (h : St w3 g c y w') => KD.out t y w' htn h
          rw [hq] at d1 d2 d3 kd
          simp only at d1 d2 d3 kd
          have KD2 := Lib.hid kd
          have HS := Lib.hid (show anS n cs x t = x.set (Zo.ix n i j) (imin (Zo.At n x i j) L) by unfold anS; rw [hq]; simp)
          have AT : Hid (∀ w' : World, St w3 g c x w' → Calls Try.prog 68 #[.agg #[.int .i64 n, .slice (some ⟨g, 0, none⟩) len c], .int .i64 i, .int .i64 j] w' (fun e w' => e = .returned (.int .i64 (Zo.At n x i j)) ∧ St w3 g c x w')) :=
            Lib.hid fun w' h => by have := at_st (i := i) (j := j) hn hi hj lx h; rw [hx] at this; exact this
          have SE : Hid (∀ (val : Int) (w' : World), St w3 g c x w' → Calls Try.prog 79 #[.agg #[.int .i64 n, .slice (some ⟨g, 0, none⟩) len c], .int .i64 i, .int .i64 j, .int .i64 val] w' (fun e w' => e = .returned (.tuple #[]) ∧ St w3 g c (x.set (Zo.ix n i j) val) w')) :=
            Lib.hid fun val w' h => by have := set_st (i := i) (j := j) val hn hi hj lx h; rw [hx] at this; exact this
          have hm := run_imin (Zo.At n x i j) L
          clear hq kd
          go_wp2_with fail
          have s1 := HT.out.drew
          go_region_held3 (fun w' => (w'.cell? ⟨w.heap.size, 0, none⟩ = some (.int .i64 n) ∧ w'.cell? ⟨w.heap.size, 1, none⟩ = some (.slice (some ⟨g, 0, none⟩) len c)) ∧ (w'.cell? (d.add (t * 3)) = some (.int .i64 i) ∧ w'.cell? ⟨(d.add (t * 3)).block, (d.add (t * 3)).off + 1, none⟩ = some (.int .i64 j) ∧ w'.cell? ⟨(d.add (t * 3)).block, (d.add (t * 3)).off + 2, none⟩ = some (.int .i64 L))) (first | exact ⟨KS.out _ _ s1, KD2.out _ _ s1⟩ | exact ⟨KS.out _ _ s2, KD2.out _ _ s2⟩ | exact ⟨KS.out _ _ s3, KD2.out _ _ s3⟩)
            (first | (go_at_call 68; refine (AT.out _ s1).mono ?_; rintro e w5 ⟨rfl, s2⟩) | (go_at_call 79; refine (SE.out _ _ s2).mono ?_; rintro e w6 ⟨rfl, s3⟩))
          have S4 := Lib.hid s3
          clear s1 s2 s3
          go_wp2_with fail
          go_roundw
          case rel => exact ⟨t + 1, _, by omega, by go_num, by simpa using hx, Lib.hid (by rw [Zo.fold_succ, ← HX.out, HS.out]), S4⟩
          case measure => simp [intOf]; omega
        · have HX2 := Lib.hid (show x = anL n cs l by rw [HX.out, show t = cl by omega, HCl.out]; rfl)
          by_cases hE : cloE n x = 0
          · have CL : Hid (∀ W, Own W g c x → Calls Try.prog 65 #[.agg #[.int .i64 n, .slice (some ⟨g, 0, none⟩) len c]] W (fun e w' => e = .returned (.tuple #[.agg #[.int .i64 n, .slice (some ⟨g, 0, none⟩) len c], .int .i64 0]) ∧ Own w' g c (Zo.clo n x) ∧ W.grownBy w' (some g))) := Lib.hid fun W h => by have := closed_ok W hn lx h hE; rw [hx] at this; exact this
            have HEE := Lib.hid hE
            clear hE
            go_wp2_with fail
            refine (CL.out _ HT.out.1).mono ?_
            rintro e w5 ⟨rfl, ho5, hg5⟩
            have rs5 := (rs3.grown HT.out.2 (by omega)).grown hg5 (by omega)
            obtain ⟨q0, q1, q2, q3⟩ := rs5.facts
            have E5 := Lib.hid (grown_over (grown_over HE3.out HT.out.2 (by omega)) hg5 (by omega))
            have HO5 := Lib.hid ho5
            clear ho5 hg5
            go_wp2_with fail
            refine bodyPost_ret (v := .tuple #[.agg #[.int .i64 n, .slice (some ⟨g, 0, none⟩) len c], .int .i64 0]) (by simp [results, Try.results25, go_sem, q0, q1]) rfl ⟨(E5.out.setCell (by show w.heap.size ≤ w.heap.size + 1; omega) _).setCell (by show w.heap.size ≤ w.heap.size + 1; omega) _, Or.inl ⟨by rw [HAE.out, ← HX2.out]; exact HEE.out, g, c, ?_, by omega, ?_⟩⟩
            · rw [Zo.clo_length, anL_len, ← HLn.out]
            · rw [← HX2.out]; exact put_far HO5.out (by omega) _ _
          · have CL : Hid (∀ W, Own W g c x → Calls Try.prog 65 #[.agg #[.int .i64 n, .slice (some ⟨g, 0, none⟩) len c]] W (fun e w' => e = .returned (.tuple #[.agg #[.int .i64 0, .slice none 0 0], .int .i64 (cloE n x)]) ∧ Own w' g c (Zo.clo n x) ∧ W.grownBy w' (some g))) := Lib.hid fun W h => by have := closed_no W hn lx h hE; rw [hx] at this; exact this
            have HEE := Lib.hid hE
            clear hE
            go_wp2_with fail
            refine (CL.out _ HT.out.1).mono ?_
            rintro e w5 ⟨rfl, ho5, hg5⟩
            have rs5 := (rs3.grown HT.out.2 (by omega)).grown hg5 (by omega)
            obtain ⟨q0, q1, q2, q3⟩ := rs5.facts
            have E5 := Lib.hid (grown_over (grown_over HE3.out HT.out.2 (by omega)) hg5 (by omega))
            have HO5 := Lib.hid ho5
            clear ho5 hg5
            go_wp2_with fail
            refine bodyPost_ret (v := .tuple #[.agg #[.int .i64 0, .slice none 0 0], .int .i64 (cloE n x)]) (by simp [results, Try.results25, go_sem, q0, q1]) rfl ⟨(E5.out.setCell (by show w.heap.size ≤ w.heap.size + 1; omega) _).setCell (by show w.heap.size ≤ w.heap.size + 1; omega) _, Or.inr ⟨by rw [HAE.out, ← HX2.out]; exact HEE.out, ?_⟩⟩
            rw [HAE.out, HX2.out]
end Go.Proofs.Ytbnebinpemejlaa

namespace Go.Proofs.Ytbnebinpemejlaa
open Go.RowKit

def smB (N M : Int) (l m : List Int) : Bool := decide (N = M) && decide (l = m)

theorem smB_no1 {N M : Int} {l m : List Int} (h : N ≠ M) : smB N M l m = false := by simp [smB, h]

theorem smB_no2 {N M : Int} {l m : List Int} (h : l.length ≠ m.length) : smB N M l m = false := by
  have : l ≠ m := fun e => h (by rw [e])
  simp [smB, this]

theorem smB_no3 {N M : Int} {l m : List Int} {k : Nat} (h : Zo.gt l k ≠ Zo.gt m k) : smB N M l m = false := by
  have : l ≠ m := fun e => h (by rw [e])
  simp [smB, this]

theorem smB_yes {N M : Int} {l m : List Int} (h : N = M) (hl : l.length = m.length) (hk : ∀ k, k < l.length → Zo.gt l k = Zo.gt m k) : smB N M l m = true := by
  have : l = m := List.ext_getElem hl fun k h1 h2 => by
    have := hk k h1
    simpa [Zo.gt, h1, h2] using this
  simp [smB, h, this]

set_option maxHeartbeats 1600000 in
theorem same_any (N M : Int) (l m : List Int) (ao bo : Option Addr) (ca cb : Nat) (w : World) (hA : Arg w ao l) (hB : Arg w bo m) (ll : l.length ≤ 9223372036854775807) :
    Calls Try.prog 41 #[.agg #[.int .i64 N, .slice ao l.length ca], .agg #[.int .i64 M, .slice bo m.length cb]] w (Made (.bool (smB N M l m)) w) := by
  obtain ⟨len, hlen⟩ : ∃ len, len = l.length := ⟨_, rfl⟩
  obtain ⟨mlen, hmlen⟩ : ∃ mlen, mlen = m.length := ⟨_, rfl⟩
  obtain ⟨w0, hw0⟩ : ∃ w0, w0 = (w.alloc (.cells #[.int .i64 N, .slice ao len ca] 25)).alloc (.cells #[.int .i64 M, .slice bo mlen cb] 25) := ⟨_, rfl⟩
  have bx : Two w0 w.heap.size (.int .i64 N) (.slice ao len ca) := by rw [hw0]; exact (Two.made _ _ _ _).alloc _
  have by' : Two w0 (w.heap.size + 1) (.int .i64 M) (.slice bo mlen cb) := by
    rw [hw0]
    have := Two.made (w.alloc (.cells #[.int .i64 N, .slice ao len ca] 25)) (.int .i64 M) (.slice bo mlen cb) 25
    simpa using this
  have e0 : Below w.heap.size w w0 := by rw [hw0]; exact past_two (Below.refl _ _)
  have lb : (len : Int) ≤ 9223372036854775807 := by omega
  have HA := Lib.hid (hA.on e0)
  have HB := Lib.hid (hB.on e0)
  have HL := Lib.hid hlen
  have HM := Lib.hid hmlen
  have E0 := Lib.hid e0
  rw [← hlen, ← hmlen]
  clear hA hB hlen hmlen e0 ll
  by_cases hN : N = M
  · have N0 : (N != M) = false := by simpa using hN
    by_cases hS : len = mlen
    · have HS := Lib.hid hS
      have S0 : ((len : Int) != (mlen : Int)) = false := by simp; omega
      have HN := Lib.hid hN
      clear hN hS
      go_enter Try.func41, Try.ntmps41
      go_wp2_with fail
      rw [← hw0]
      clear hw0
      obtain ⟨b0, b1, b2, b3⟩ := bx.facts
      obtain ⟨c0, c1, c2, c3⟩ := by'.facts
      go_wp2_with fail
      try (go_quiet (fail); go_wp2_with fail)
      clear b0 b1 b2 b3 c0 c1 c2 c3
      go_loopw [5] (fun s wr => ∃ t : Nat, t ≤ len ∧ s = .int .i64 t ∧ Hid (∀ k, k < t → Zo.gt l k = Zo.gt m k) ∧ Hid (Below w0.heap.size w0 wr)) (fun s _ => len - (intOf s).toNat)
      case atStart => exact ⟨0, by omega, rfl, Lib.hid (fun k hk => by omega), Lib.hid (by first | exact Below.refl _ _ | exact below_drewN (Below.refl _ _) _)⟩
      case round =>
        obtain ⟨t, ht, rfl, HK, HBw⟩ := hrel
        obtain ⟨b0, b1, b2, b3⟩ := (bx.kept HBw.out).facts
        obtain ⟨c0, c1, c2, c3⟩ := (by'.kept HBw.out).facts
        by_cases htn : t < len
        · obtain ⟨a, hao, hR⟩ := HA.out (fun e => by have := HL.out; rw [e] at this; simp at this; omega)
          obtain ⟨b, hbo, hQ⟩ := HB.out (fun e => by have := HM.out; have := HS.out; rw [e] at *; simp at *; omega)
          subst hao hbo
          have d1 := kept HBw.out (hR t (by rw [← HL.out]; exact htn))
          have d2 := kept HBw.out (hQ t (by rw [← HM.out, ← HS.out]; exact htn))
          have t2 : (t : Int) < (mlen : Int) := by have := HS.out; omega
          obtain ⟨x, hx⟩ : ∃ x, x = Zo.gt l t := ⟨_, rfl⟩
          obtain ⟨y, hy⟩ : ∃ y, y = Zo.gt m t := ⟨_, rfl⟩
          rw [← hx] at d1
          rw [← hy] at d2
          have HXE := Lib.hid hx
          have HYE := Lib.hid hy
          clear hx hy hR hQ
          by_cases hxy : x = y
          · have D : (x != y) = false := by simpa using hxy
            have HXY := Lib.hid hxy
            clear hxy
            go_wp2_with fail
            go_quiet (fail)
            clear b0 b1 b2 b3 c0 c1 c2 c3 d1 d2
            go_wp2_with fail
            go_roundw
            case rel =>
              refine ⟨t + 1, by omega, by go_num, Lib.hid (fun k hk => ?_), Lib.hid (below_drewN HBw.out _)⟩
              by_cases e : k = t
              · rw [e, ← HXE.out, ← HYE.out]; exact HXY.out
              · exact HK.out k (by omega)
            case measure => simp [intOf]; omega
          · have D : (x != y) = true := by simpa using hxy
            have HE := Lib.hid (smB_no3 (N := N) (M := M) (l := l) (m := m) (k := t) (by rw [← HXE.out, ← HYE.out]; exact hxy))
            clear hxy
            go_wp2_with fail
            go_quiet (fail)
            clear b0 b1 b2 b3 c0 c1 c2 c3 d1 d2
            go_wp2_with fail
            go_ret
            exact ⟨ret_bool HE.out.symm, below_drewN (below_on E0.out HBw.out) _⟩
        · have HE := Lib.hid (smB_yes (l := l) (m := m) HN.out (by rw [← HL.out, ← HM.out]; exact HS.out) (fun k hk => HK.out k (by rw [← HL.out] at hk; omega)))
          go_wp2_with fail
          go_ret
          exact ⟨ret_bool HE.out.symm, below_on E0.out HBw.out⟩
    · have HE := Lib.hid (smB_no2 (N := N) (M := M) (l := l) (m := m) (by rw [← HL.out, ← HM.out]; exact hS))
      have S0 : ((len : Int) != (mlen : Int)) = true := by simp; omega
      clear hN
      go_enter Try.func41, Try.ntmps41
      go_wp2_with fail
      rw [← hw0]
      clear hw0
      obtain ⟨b0, b1, b2, b3⟩ := bx.facts
      obtain ⟨c0, c1, c2, c3⟩ := by'.facts
      go_wp2_with fail
      try (go_quiet (fail); go_wp2_with fail)
      go_ret
      exact ⟨ret_bool HE.out.symm, by first | exact E0.out | exact below_drewN E0.out _⟩
  · have HE := Lib.hid (smB_no1 (l := l) (m := m) hN)
    have N0 : (N != M) = true := by simpa using hN
    clear hN
    go_enter Try.func41, Try.ntmps41
    go_wp2_with fail
    rw [← hw0]
    clear hw0
    obtain ⟨b0, b1, b2, b3⟩ := bx.facts
    obtain ⟨c0, c1, c2, c3⟩ := by'.facts
    go_wp2_with fail
    try (go_quiet (fail); go_wp2_with fail)
    go_ret
    exact ⟨ret_bool HE.out.symm, by first | exact E0.out | exact below_drewN E0.out _⟩
end Go.Proofs.Ytbnebinpemejlaa

namespace Go.Proofs.Ytbnebinpemejlaa
open Go.RowKit

set_option maxHeartbeats 400000 in
theorem an_bad (N : Int) (l : List Int) (ao : Option Addr) (cap : Nat) (dao : Option Addr) (dl dc : Nat) (w : World) (hA : Arg w ao l) (hc : chkE N l = 2) :
    Calls Try.prog 25 #[.agg #[.int .i64 N, .slice ao l.length cap], .slice dao dl dc] w (ZRes w 0 [] 2) := by
  have CK := Lib.hid fun W (h : Below w.heap.size w W) => check_as (cap := cap) W (hA.on h) hc
  generalize l.length = len at *
  obtain ⟨w0, hw0⟩ : ∃ w0, w0 = (w.alloc (.cells #[.int .i64 N, .slice ao len cap] 25)).alloc (.cells #[.int .i64 0, .slice none 0 0] 25) := ⟨_, rfl⟩
  have bx : Two w0 w.heap.size (.int .i64 N) (.slice ao len cap) := by rw [hw0]; exact (Two.made _ _ _ _).alloc _
  have rs : Two w0 (w.heap.size + 1) (.int .i64 0) (.slice none 0 0) := by
    rw [hw0]
    have := Two.made (w.alloc (.cells #[.int .i64 N, .slice ao len cap] 25)) (.int .i64 0) (.slice none 0 0) 25
    simpa using this
  have e0 : Below w.heap.size w w0 := by rw [hw0]; exact past_two (Below.refl _ _)
  have E0 := Lib.hid e0
  clear e0 hA hc
  go_enter Try.func25, Try.ntmps25
  go_wp2_with fail
  rw [← hw0]
  clear hw0
  obtain ⟨b0, b1, b2, b3⟩ := bx.facts
  go_wp2_with fail
  refine (CK.out _ E0.out).mono ?_
  rintro e w1 ⟨rfl, hb1⟩
  clear b0 b1 b2 b3
  replace rs := rs.kept hb1
  replace E0 := Lib.hid (below_on E0.out hb1)
  clear hb1 bx
  obtain ⟨b0, b1, b2, b3⟩ := rs.facts
  go_wp2_with fail
  refine bodyPost_ret (v := .tuple #[.agg #[.int .i64 0, .slice none 0 0], .int .i64 2]) (by simp [results, Try.results25, go_sem, b0, b1]) rfl (zres_bad ?_)
  exact (E0.out.setCell (by show w.heap.size ≤ w.heap.size + 1; omega) _).setCell (by show w.heap.size ≤ w.heap.size + 1; omega) _

/-- A list of constraints that came in. -/
def Arg3 (w : World) (dao : Option Addr) (cs : List Con) : Prop := cs ≠ [] → ∃ d, dao = some d ∧ Rd3 w d cs

theorem Arg3.on {w w' : World} {ao : Option Addr} {l : List Con} (h : Arg3 w ao l) (hb : Below w.heap.size w w') : Arg3 w' ao l := fun hl => by
  obtain ⟨a, h1, h2⟩ := h hl
  exact ⟨a, h1, h2.on hb⟩

def anG (N : Int) (cs : List Con) (l : List Int) : Int := if chkE N l = 0 then anE N.toNat cs l else 2

theorem an_gen (N : Int) (l : List Int) (ao : Option Addr) (cap : Nat) (cs : List Con) (dao : Option Addr) (dc : Nat) (w : World) (hA : Arg w ao l) (hD : Arg3 w dao cs) (hdl : cs.length ≤ 1000) :
    Calls Try.prog 25 #[.agg #[.int .i64 N, .slice ao l.length cap], .slice dao cs.length dc] w (ZRes w N (Zo.clo N.toNat (anL N.toNat cs l)) (anG N cs l)) := by
  by_cases hc : chkE N l = 0
  · obtain ⟨n, rfl, hn, hl, hne⟩ := chk_ok hc
    obtain ⟨a, rfl, hR⟩ := hA hne
    rw [show anG (n : Int) cs l = anE n cs l by unfold anG; rw [if_pos hc]; rfl]
    by_cases he : cs = []
    · exact an_any n l a cap cs dao a dc w hn hl hR hc (by rw [he]; intro j hj; simp at hj) hdl (fun h => absurd he h)
    · obtain ⟨d, rfl, hd⟩ := hD he
      exact an_any n l a cap cs (some d) d dc w hn hl hR hc hd hdl (fun _ => rfl)
  · exact (an_bad N l ao cap dao cs.length dc w hA (chk_two hc)).mono fun e w' h => h.bad (by unfold anG; rw [if_neg hc])

def isC (i j c : Int) : List Con := [(i, j, 2 * c + 1), (j, i, -2 * c + 1)]

set_option maxHeartbeats 400000 in
theorem is_any (i j c : Int) (w : World) (h0 : 0 ≤ c) (h1 : c ≤ 1048576) :
    Calls Try.prog 88 #[.int .i64 i, .int .i64 j, .int .i64 c] w (fun e w' => ∃ g, e = .returned (.slice (some ⟨g, 0, none⟩) (isC i j c).length 2) ∧ Rd3 w' ⟨g, 0, none⟩ (isC i j c) ∧ Below w.heap.size w w') := by
  go_enter Try.func88, Try.ntmps88
  go_wp2_with fail
  go_ret
  refine ⟨w.heap.size, rfl, ?_, one_more _⟩
  intro k hk
  have hk2 : k < 2 := hk
  rcases (show k = 0 ∨ k = 1 by omega) with rfl | rfl
  · refine ⟨?_, ?_, ?_⟩ <;> (simp [isC, gc, Addr.add]; try go_simp)
  · refine ⟨?_, ?_, ?_⟩ <;> (simp [isC, gc, Addr.add]; try go_simp)

def cnB (c : Int) : Bool := decide (0 ≤ c ∧ c ≤ 1048576)

set_option maxHeartbeats 400000 in
theorem constant_any (c : Int) (w : World) : Calls Try.prog 87 #[.int .i64 c] w (Still (.bool (cnB c)) w) := by
  by_cases h : 0 ≤ c
  · by_cases g : c ≤ 1048576
    · have H := Lib.hid (show cnB c = true by unfold cnB; simp; omega)
      go_enter Try.func87, Try.ntmps87
      go_wp2_with fail
      go_ret
      exact ⟨ret_bool H.out.symm, rfl⟩
    · have H := Lib.hid (show cnB c = false by unfold cnB; simp; omega)
      have D : decide (c ≤ (1048576 : Int)) = false := by simp; omega
      go_enter Try.func87, Try.ntmps87
      go_wp2_with fail
      go_ret
      exact ⟨ret_bool H.out.symm, rfl⟩
  · have H := Lib.hid (show cnB c = false by unfold cnB; simp; omega)
    have D : decide ((0 : Int) ≤ c) = false := by simp; omega
    go_enter Try.func87, Try.ntmps87
    go_wp2_with fail
    go_ret
    exact ⟨ret_bool H.out.symm, rfl⟩
end Go.Proofs.Ytbnebinpemejlaa
