/- A part. -/
import Derived.Test.YthjapmdfcbngmaaGreatWr11
import Derived.Test.YthjapmdfcbngmaaGreatWr8
namespace Go.Proofs.YthjapmdfcbngmaaGreat
set_option maxHeartbeats 4000000
open Go.RowKit
theorem Cell.kept_row {w : World} {p : Addr} {v : Value} (h : Cell w p v) {b : Nat} (hne : p.block ≠ b) (cs : Array Value) : Cell (w.setRow b cs) p v :=
 ⟨by rw [cell_setRow_other w b cs p hne]; exact h.1, by unfold World.frozen?; rw [setRow_other w b _ cs hne]; exact h.2⟩
theorem Two.kept_row {w : World} {x : Nat} {u v : Value} (h : Two w x u v) {b : Nat} (hne : x ≠ b) (cs : Array Value) : Two (w.setRow b cs) x u v := ⟨h.1.kept_row hne cs, h.2.kept_row hne cs⟩
def okB (N : Int) (l : List Int) : Bool := decide (chkE N l = 0)
theorem open_gen (N : Int) (l : List Int) (ao : Option Addr) (cap : Nat) (w : World) (hA : Arg w ao l) :
  Calls Tryz.prog 131 #[.agg #[.int .i64 N, .slice ao l.length cap]] w (fun e w' => e = .returned (.tuple #[.agg (rdW N l), .bool (okB N l)]) ∧ Below w.heap.size w w') := by
 cases hr : rdB N l
 · refine (open_bad N l ao cap w hA hr).mono ?_
   rintro e w' ⟨rfl, hb⟩
   exact ⟨by unfold rdW okB; rw [hr, chk_read hr]; rfl, hb⟩
 · obtain ⟨n, rfl, hn, hl, hv⟩ := rdB_ok hr
   refine (open_ok n l ao cap w hA hn hl hv).mono ?_
   rintro e w' ⟨rfl, hb⟩
   exact ⟨by unfold rdW okB; rw [hr]; rfl, hb⟩
theorem rdW_size (N : Int) (l : List Int) : (rdW N l).size = 122 := by
 unfold rdW
 cases hr : rdB N l
 · exact mcs_size (by simp)
 · obtain ⟨n, rfl, hn, hl, hv⟩ := rdB_ok hr
   exact mcs_size (by rw [hl]; exact dsq_le hn)
theorem rdW_one (N : Int) (l : List Int) : (rdW N l).all (·.oneCell') = true := by
 unfold rdW; split <;> exact mcs_one _ _
theorem rdW_ok {n : Nat} {l : List Int} (h : chkE n l = 0) : rdW n l = mcs n l := by
 cases hr : rdB n l
 · rw [chk_read hr] at h; cases h
 · unfold rdW; rw [hr]; rfl
theorem chk_64 {n : Nat} {l : List Int} (h : chkE n l = 0) : Zo.A64 l ∧ rdL l = true := by
 cases hr : rdB n l
 · rw [chk_read hr] at h; cases h
 · obtain ⟨_, _, _, _, hv⟩ := rdB_ok hr
   exact ⟨a64_of hv, hv⟩
set_option maxRecDepth 100000 in
theorem zcheck_gen (N : Int) (l : List Int) (ao : Option Addr) (cap : Nat) (w : World) (hA : Arg w ao l) :
  Calls Tryz.prog 83 #[.agg #[.int .i64 N, .slice ao l.length cap]] w (Made (.int .i64 (chkE N l)) w) := by
 have hz := mx_zero
 have sz := rdW_size N l
 have s1 := rdW_one N l
 have CO := Lib.hid (show ∀ W, Below w.heap.size w W → Calls Tryz.prog 131 #[.agg #[.int .i64 N, .slice ao l.length cap]] W (fun e w' => e = .returned (.tuple #[.agg (rdW N l), .bool (okB N l)]) ∧ Below W.heap.size W w') from fun W h => open_gen N l ao cap W (hA.on h))
 have HE := Lib.hid (show chkE N l = if okB N l then 0 else 2 by
  unfold okB
  by_cases h : chkE N l = 0
  · simp [h]
  · simp [chk_two h])
 generalize rdW N l = A at *
 generalize okB N l = ok at *
 generalize chkE N l = ce at *
 generalize l.length = len at *
 have E0 := Lib.hid (one_more (w1 := w) (.cells #[.int .i64 N, .slice ao len cap] 36))
 clear hA
 go_enter Tryz.func83, Tryz.ntmps83
 go_wp2_with fail
 refine (CO.out _ E0.out).mono ?_
 rintro e w1 ⟨rfl, hb⟩
 have HB := Lib.hid (below_on E0.out hb)
 clear hb
 cases ok
 · go_wp2_with (refine wpl_store rfl _ _ rfl _ _ rfl rfl _ (Var.made _) sz s1 ?_)
   go_ret
   exact ⟨ret_int (by rw [HE.out]; rfl), Below.setRow (HB.out.alloc HB.out.size _) HB.out.size _⟩
 · go_wp2_with (refine wpl_store rfl _ _ rfl _ _ rfl rfl _ (Var.made _) sz s1 ?_)
   go_ret
   exact ⟨ret_int (by rw [HE.out]; rfl), Below.setRow (HB.out.alloc HB.out.size _) HB.out.size _⟩
set_option maxRecDepth 100000 in
theorem changed_bad (N : Int) (l : List Int) (ao : Option Addr) (cap : Nat) (al : Bool) (fv : Value) (w : World) (hA : Arg w ao l) (h : okB N l = false ∨ al = false) :
  Calls Tryz.prog 108 #[.agg #[.int .i64 N, .slice ao l.length cap], .bool al, fv] w (ZRes w 0 [] 2) := by
 have hz := mx_zero
 have sz := rdW_size N l
 have s1 := rdW_one N l
 have CO := Lib.hid (show ∀ W, Below w.heap.size w W → Calls Tryz.prog 131 #[.agg #[.int .i64 N, .slice ao l.length cap]] W (fun e w' => e = .returned (.tuple #[.agg (rdW N l), .bool (okB N l)]) ∧ Below W.heap.size W w') from fun W h => open_gen N l ao cap W (hA.on h))
 generalize rdW N l = A at *
 generalize okB N l = ok at *
 generalize l.length = len at *
 obtain ⟨w0, hw0⟩ : ∃ w0, w0 = (w.alloc (.cells #[.int .i64 N, .slice ao len cap] 36)).alloc (.cells #[.int .i64 0, .slice none 0 0] 36) := ⟨_, rfl⟩
 have bx : Two w0 w.heap.size (.int .i64 N) (.slice ao len cap) := by rw [hw0]; exact (Two.made _ _ _ _).alloc _
 have rs : Two w0 (w.heap.size + 1) (.int .i64 0) (.slice none 0 0) := by
  rw [hw0]
  have := Two.made (w.alloc (.cells #[.int .i64 N, .slice ao len cap] 36)) (.int .i64 0) (.slice none 0 0) 36
  simpa using this
 have E0 := Lib.hid (show Below w.heap.size w w0 by rw [hw0]; exact past_two (Below.refl _ _))
 clear hA
 go_enter Tryz.func108, Tryz.ntmps108
 go_wp2_with fail
 rw [← hw0]
 clear hw0
 obtain ⟨b0, b1, b2, b3⟩ := bx.facts
 go_wp2_with fail
 refine (CO.out _ E0.out).mono ?_
 rintro e w1 ⟨rfl, hb⟩
 have rs1 := rs.kept hb
 have HB := Lib.hid (below_on E0.out hb)
 have hlt := rs1.lt
 have hsz := HB.out.size
 have rs2 := (rs1.alloc (.cells (mcs 0 []) 120))
 have rs3 : Two ((w1.alloc (.cells (mcs 0 []) 120)).setRow w1.heap.size A) (w.heap.size + 1) (.int .i64 0) (.slice none 0 0) :=
  rs2.kept_row (by omega) A
 obtain ⟨q0, q1, q2, q3⟩ := rs3.facts
 have HE := Lib.hid (show Below w.heap.size w ((w1.alloc (.cells (mcs 0 []) 120)).setRow w1.heap.size A) from Below.setRow (HB.out.alloc hsz _) hsz _)
 clear bx rs rs1 rs2 rs3 hb b0 b1 b2 b3
 cases ok
 · go_wp2_with (refine wpl_store rfl _ _ rfl _ _ rfl rfl _ (Var.made _) sz s1 ?_)
   refine bodyPost_ret (v := .tuple #[.agg #[.int .i64 0, .slice none 0 0], .int .i64 2]) (by simp [results, Tryz.results108, go_sem, q0, q1]) rfl (zres_bad ?_)
   exact (HE.out.setCell (by show w.heap.size ≤ w.heap.size + 1; omega) _).setCell (by show w.heap.size ≤ w.heap.size + 1; omega) _
 · have ha : al = false := by rcases h with h | h; cases h; exact h
   subst ha
   go_wp2_with (refine wpl_store rfl _ _ rfl _ _ rfl rfl _ (Var.made _) sz s1 ?_)
   refine bodyPost_ret (v := .tuple #[.agg #[.int .i64 0, .slice none 0 0], .int .i64 2]) (by simp [results, Tryz.results108, go_sem, q0, q1]) rfl (zres_bad ?_)
   exact (HE.out.setCell (by show w.heap.size ≤ w.heap.size + 1; omega) _).setCell (by show w.heap.size ≤ w.heap.size + 1; omega) _
set_option maxRecDepth 100000 in
theorem changed_ok (n : Nat) (l gl : List Int) (ao : Option Addr) (cap : Nat) (f : FuncId) (caps : Array Value) (w : World) (hA : Arg w ao l) (hn : n ≤ 10) (hl : l.length = (n + 1) * (n + 1)) (hc : chkE n l = 0) (h64 : Zo.A64 gl)
  (HF : ∀ (args : Array Value) (W : World), (callFunc f args).run Tryz.prog W = .ok (.enter f args) W)
  (CF : ∀ W b, Below w.heap.size w W → w.heap.size ≤ b → Mx W b n l → Calls Tryz.prog f (#[.pointer (some ⟨b, 0, none⟩)] ++ caps) W (fun e w' => e = .returned (.tuple #[]) ∧ MSt W b n gl w')) :
  Calls Tryz.prog 108 #[.agg #[.int .i64 n, .slice ao l.length cap], .bool true, .func (.func f) #[] caps] w (ZRes w n (Zo.clo n gl) (cloE n gl)) := by
 have hz := mx_zero
 have sz : (mcs n l).size = 122 := mcs_size (by rw [hl]; exact dsq_le hn)
 have s1 := mcs_one n l
 have CO := Lib.hid (show ∀ W, Below w.heap.size w W → Calls Tryz.prog 131 #[.agg #[.int .i64 n, .slice ao l.length cap]] W (fun e w' => e = .returned (.tuple #[.agg (mcs n l), .bool true]) ∧ Below W.heap.size W w') from fun W h => by
  have := open_gen n l ao cap W (hA.on h)
  rwa [rdW_ok hc, show okB n l = true by unfold okB; rw [hc]; rfl] at this)
 have HCF := Lib.hid CF
 have HMZ := Lib.hid (fun (b : Nat) (W : World) (h : Mx W b n gl) => mzone_any b n gl W hn h h64)
 have HLE := Lib.hid hl
 generalize l.length = len at CO ⊢
 obtain ⟨w0, hw0⟩ : ∃ w0, w0 = (w.alloc (.cells #[.int .i64 n, .slice ao len cap] 36)).alloc (.cells #[.int .i64 0, .slice none 0 0] 36) := ⟨_, rfl⟩
 have bx : Two w0 w.heap.size (.int .i64 n) (.slice ao len cap) := by rw [hw0]; exact (Two.made _ _ _ _).alloc _
 have rs : Two w0 (w.heap.size + 1) (.int .i64 0) (.slice none 0 0) := by
  rw [hw0]
  have := Two.made (w.alloc (.cells #[.int .i64 n, .slice ao len cap] 36)) (.int .i64 0) (.slice none 0 0) 36
  simpa using this
 have E0 := Lib.hid (show Below w.heap.size w w0 by rw [hw0]; exact past_two (Below.refl _ _))
 clear hA hl hc h64 CF
 go_enter Tryz.func108, Tryz.ntmps108
 go_wp2_with fail
 rw [← hw0]
 clear hw0
 obtain ⟨b0, b1, b2, b3⟩ := bx.facts
 go_wp2_with fail
 refine (CO.out _ E0.out).mono ?_
 rintro e w1 ⟨rfl, hb⟩
 have rs1 := rs.kept hb
 have HB := Lib.hid (below_on E0.out hb)
 have hlt := rs1.lt
 have hsz := HB.out.size
 have rs2 := (rs1.alloc (.cells (mcs 0 []) 120))
 obtain ⟨w2, hw2⟩ : ∃ w2, w2 = (w1.alloc (.cells (mcs 0 []) 120)).setRow w1.heap.size (mcs n l) := ⟨_, rfl⟩
 have rs3 : Two w2 (w.heap.size + 1) (.int .i64 0) (.slice none 0 0) := by rw [hw2]; exact rs2.kept_row (by omega) _
 have M2 : Mx w2 w1.heap.size n l := by rw [hw2]; exact ⟨((Var.made w1).put (mcs n l) sz).1, HLE.out⟩
 have HRS := Lib.hid rs3
 have HM2 := Lib.hid M2
 have HE := Lib.hid (show Below w.heap.size w w2 by rw [hw2]; exact Below.setRow (HB.out.alloc hsz _) hsz _)
 clear bx rs rs1 rs2 rs3 M2 hb b0 b1 b2 b3
 go_wp2_with (refine wpl_store rfl _ _ rfl _ _ rfl rfl _ (Var.made _) sz s1 ?_)
 rw [← hw2]
 clear hw2
 go_wp2_with fail
 refine (HCF.out _ _ HE.out hsz HM2.out).mono ?_
 rintro e w3 ⟨rfl, hM⟩
 have HM3 := Lib.hid hM.1
 have E3 := Lib.hid (grown_over HE.out hM.2 hsz)
 have rs3 := HRS.out.grown hM.2 (by omega)
 have HR3 := Lib.hid rs3
 clear hM rs3 HF HCF
 go_wp2_with fail
 refine (HMZ.out _ _ HM3.out).mono ?_
 intro e w4 hG
 obtain ⟨hg4, hres⟩ := hG
 have E4 := Lib.hid (grown_over E3.out hg4 hsz)
 obtain ⟨q0, q1, q2, q3⟩ := (HR3.out.grown hg4 (by omega)).facts
 have h34 := E3.out.size
 rcases hres with ⟨he, g, c, rfl, hgl, hO⟩ | ⟨he, rfl⟩
 · have HO := Lib.hid hO
   have HEE := Lib.hid he
   clear hO hg4 he
   go_wp2_with fail
   refine bodyPost_ret (v := .tuple #[.agg #[.int .i64 n, .slice (some ⟨g, 0, none⟩) (Zo.clo n gl).length c], .int .i64 0]) (by simp [results, Tryz.results108, go_sem, q0, q1]) rfl ⟨?_, Or.inl ⟨HEE.out, g, c, rfl, by omega, put_far HO.out (by have := HR3.out.lt; omega) _ _⟩⟩
   exact (E4.out.setCell (by show w.heap.size ≤ w.heap.size + 1; omega) _).setCell (by show w.heap.size ≤ w.heap.size + 1; omega) _
 · have HEE := Lib.hid he
   clear hg4 he
   go_wp2_with fail
   refine bodyPost_ret (v := .tuple #[.agg #[.int .i64 0, .slice none 0 0], .int .i64 (cloE n gl)]) (by simp [results, Tryz.results108, go_sem, q0, q1]) rfl ⟨?_, Or.inr ⟨HEE.out, rfl⟩⟩
   exact (E4.out.setCell (by show w.heap.size ≤ w.heap.size + 1; omega) _).setCell (by show w.heap.size ≤ w.heap.size + 1; omega) _
def umS (n : Nat) (x : List Int) (t : Nat) : List Int := x.set (Zo.ix n t 0) 1099511627776
def umL (n : Nat) (l : List Int) : List Int := (List.range (n + 1)).foldl (umS n) l
theorem umL_len (n : Nat) (l : List Int) : (umL n l).length = l.length := fold_len (fun x t => by simp [umS]) l _
def dmS (n : Nat) (x : List Int) (t : Nat) : List Int := x.set (Zo.ix n 0 t) 1099511627776
def dmL (n : Nat) (l : List Int) : List Int := (List.range (n + 1)).foldl (dmS n) l
theorem dmL_len (n : Nat) (l : List Int) : (dmL n l).length = l.length := fold_len (fun x t => by simp [dmS]) l _
def Chg (w : World) (b n : Nat) (gl : List Int) (e : Ending) (w' : World) : Prop := e = .returned (.tuple #[]) ∧ MSt w b n gl w'
set_option maxRecDepth 100000 in
theorem up1_any (b n : Nat) (l : List Int) (w : World) (hn : n ≤ 10) (h : Mx w b n l) : Calls Tryz.prog 109 #[.pointer (some ⟨b, 0, none⟩)] w (Chg w b n (umL n l)) := by
 have HM := Lib.hid (show MSt w b n l w from ⟨h, World.grownBy.refl _ _⟩)
 have KD := Lib.hid (show ∀ (x : List Int) (w' : World), MSt w b n x w' → w'.cell? ⟨b, 0, none⟩ = some (.int .i64 n) from fun x w' h => h.1.dim)
 have TR := Lib.hid (fun (x : List Int) (i : Nat) (hi : i ≤ n) (w' : World) (h : MSt w b n x w') => row_any b n i w' hn hi h.1.dim)
 have HL := Lib.hid h.2
 have c0 := h.dim
 clear h
 go_enter Tryz.func109, Tryz.ntmps109
 go_wp2_with fail
 clear c0
 go_loopw [8] (fun s wr => ∃ (t : Nat) (x : List Int), t ≤ n + 1 ∧ s = .int .i64 t ∧ Hid (x.length = (n + 1) * (n + 1) ∧ x = (List.range t).foldl (umS n) l ∧ MSt w b n x wr)) (fun s _ => n + 1 - (intOf s).toNat)
 case atStart => exact ⟨0, l, by omega, rfl, Lib.hid ⟨HL.out, rfl, HM.out⟩⟩
 case round =>
  obtain ⟨t, x, ht, rfl, HX⟩ := hrel
  by_cases htn : t ≤ n
  · have tix := Zo.ix_lt htn (show 0 ≤ n by omega)
    have c1 : wr.cell? ⟨b, 1 + t * (n + 1), none⟩ = some (.int .i64 (Zo.At n x t 0)) := by
     have := HX.out.2.2.1.at (j := Zo.ix n t 0) (by rw [HX.out.1]; exact tix)
     simpa [Zo.ix, Zo.At] using this
    have f1 := HX.out.2.2.1.free (1 + t * (n + 1))
    have ST := Lib.hid (show MSt w b n (umS n x t) (wr.setCell ⟨b, 1 + t * (n + 1), none⟩ (.int .i64 1099511627776)) from by
     have := HX.out.2.2.put (Zo.ix n t 0) 1099511627776 (by rw [HX.out.1]; exact tix)
     simpa [Zo.ix, umS] using this)
    clear tix
    go_wp2_with fail
    refine (TR.out _ _ htn _ HX.out.2.2).mono ?_
    rintro e w1 ⟨rfl, hw⟩
    rw [hw]; clear hw w1
    go_wp2_with fail
    clear c1 f1
    go_roundw
    case rel => exact ⟨t + 1, _, by omega, by go_num, Lib.hid ⟨by simpa [umS] using HX.out.1, by rw [Zo.fold_succ, ← HX.out.2.1], ST.out⟩⟩
    case measure => simp [intOf]; omega
  · have HE := Lib.hid (show x = umL n l by rw [HX.out.2.1, show t = n + 1 by omega]; rfl)
    go_wp2_with fail
    go_end0
    exact ⟨rfl, by rw [← HE.out]; exact HX.out.2.2⟩
set_option maxRecDepth 100000 in
theorem dn1_any (b n : Nat) (l : List Int) (w : World) (hn : n ≤ 10) (h : Mx w b n l) : Calls Tryz.prog 112 #[.pointer (some ⟨b, 0, none⟩)] w (Chg w b n (dmL n l)) := by
 have HM := Lib.hid (show MSt w b n l w from ⟨h, World.grownBy.refl _ _⟩)
 have KD := Lib.hid (show ∀ (x : List Int) (w' : World), MSt w b n x w' → w'.cell? ⟨b, 0, none⟩ = some (.int .i64 n) from fun x w' h => h.1.dim)
 have TR := Lib.hid (fun (x : List Int) (i : Nat) (hi : i ≤ n) (w' : World) (h : MSt w b n x w') => row_any b n i w' hn hi h.1.dim)
 have HL := Lib.hid h.2
 have c0 := h.dim
 clear h
 go_enter Tryz.func112, Tryz.ntmps112
 go_wp2_with fail
 clear c0
 go_loopw [8] (fun s wr => ∃ (t : Nat) (x : List Int), t ≤ n + 1 ∧ s = .int .i64 t ∧ Hid (x.length = (n + 1) * (n + 1) ∧ x = (List.range t).foldl (dmS n) l ∧ MSt w b n x wr)) (fun s _ => n + 1 - (intOf s).toNat)
 case atStart => exact ⟨0, l, by omega, rfl, Lib.hid ⟨HL.out, rfl, HM.out⟩⟩
 case round =>
  obtain ⟨t, x, ht, rfl, HX⟩ := hrel
  by_cases htn : t ≤ n
  · have tix := Zo.ix_lt (show 0 ≤ n by omega) htn
    have c1 : wr.cell? ⟨b, 1 + t, none⟩ = some (.int .i64 (Zo.At n x 0 t)) := by
     have := HX.out.2.2.1.at (j := Zo.ix n 0 t) (by rw [HX.out.1]; exact tix)
     simpa [Zo.ix, Zo.At] using this
    have f1 := HX.out.2.2.1.free (1 + t)
    have ST := Lib.hid (show MSt w b n (dmS n x t) (wr.setCell ⟨b, 1 + t, none⟩ (.int .i64 1099511627776)) from by
     have := HX.out.2.2.put (Zo.ix n 0 t) 1099511627776 (by rw [HX.out.1]; exact tix)
     simpa [Zo.ix, dmS] using this)
    clear tix
    go_wp2_with fail
    refine (TR.out _ 0 (by omega) _ HX.out.2.2).mono ?_
    rintro e w1 ⟨rfl, hw⟩
    rw [hw]; clear hw w1
    go_wp2_with fail
    clear c1 f1
    go_roundw
    case rel => exact ⟨t + 1, _, by omega, by go_num, Lib.hid ⟨by simpa [dmS] using HX.out.1, by rw [Zo.fold_succ, ← HX.out.2.1], ST.out⟩⟩
    case measure => simp [intOf]; omega
  · have HE := Lib.hid (show x = dmL n l by rw [HX.out.2.1, show t = n + 1 by omega]; rfl)
    go_wp2_with fail
    go_end0
    exact ⟨rfl, by rw [← HE.out]; exact HX.out.2.2⟩
def ckB (N i first : Int) : Bool := decide (first ≤ i ∧ i ≤ N)
theorem isClock_any (N i first : Int) (v : Value) (w : World) : Calls Tryz.prog 183 #[.agg #[.int .i64 N, v], .int .i64 i, .int .i64 first] w (Made (.bool (ckB N i first)) w) := by
 by_cases h : first ≤ i
 · by_cases g : i ≤ N
   · have H := Lib.hid (show ckB N i first = true by unfold ckB; simp; omega)
     go_enter Tryz.func183, Tryz.ntmps183
     go_wp2_with fail
     go_ret
     exact ⟨ret_bool H.out.symm, one_more _⟩
   · have H := Lib.hid (show ckB N i first = false by unfold ckB; simp; omega)
     have D : decide (i ≤ N) = false := by simp; omega
     go_enter Tryz.func183, Tryz.ntmps183
     go_wp2_with fail
     go_ret
     exact ⟨ret_bool H.out.symm, one_more _⟩
 · have H := Lib.hid (show ckB N i first = false by unfold ckB; simp; omega)
   have D : decide (first ≤ i) = false := by simp; omega
   go_enter Tryz.func183, Tryz.ntmps183
   go_wp2_with fail
   go_ret
   exact ⟨ret_bool H.out.symm, one_more _⟩
theorem cloE_pre {n : Nat} {x y : List Int} (h : Zo.pre n x = Zo.pre n y) : cloE n x = cloE n y := by
 unfold cloE cloB; rw [Zo.clo_pre h]
theorem chk_diag {n : Nat} {l : List Int} (h : chkE n l = 0) : (∀ a, a ≤ n → Zo.At n l a a = 1) ∧ ∀ a, a ≤ n → Zo.At n l 0 a ≤ 1 := by
 have hc : chkB n l = true := by
  unfold chkE at h
  cases e : chkB n l
  · rw [e] at h; simp at h
  · rfl
 unfold chkB at hc
 simp only [Bool.and_eq_true, Int.toNat_natCast] at hc
 have h1 := chk1_iff.1 hc.1.2
 constructor
 · intro a ha
   have := h1 a (by omega) a (by omega)
   unfold okI at this
   simp at this
   exact this.1.2
 · intro a ha
   have := h1 0 (by omega) a (by omega)
   unfold okI at this
   simp at this
   exact this.2
theorem umL_at {n : Nat} {l : List Int} (hl : l.length = (n + 1) * (n + 1)) {a b : Nat} (ha : a ≤ n) (hb : b ≤ n) : Zo.At n (umL n l) a b = if b = 0 then 1099511627776 else Zo.At n l a b := by
 have := (Zo.fold_at (N := n + 1) (f := umS n) (p := fun t a b => decide (a = t ∧ b = 0)) (v := 1099511627776) (fun x t ht hx => ⟨by simpa [umS] using hx, fun a b _ hb => by
  unfold umS; rw [Zo.At_set hx (by omega) (by omega) _ hb]; simp⟩) hl (n + 1) (Nat.le_refl _)).2 a b ha hb
 rw [show umL n l = (List.range (n + 1)).foldl (umS n) l from rfl, this]
 by_cases c : b = 0
 · rw [if_pos c, if_pos]
   rw [List.any_eq_true]
   exact ⟨a, List.mem_range.2 (by omega), by simpa using c⟩
 · rw [if_neg c, if_neg]
   intro h
   rw [List.any_eq_true] at h
   obtain ⟨s, _, hs⟩ := h
   simp at hs
   exact c hs.2
theorem upL_at {n : Nat} {l : List Int} (hl : l.length = (n + 1) * (n + 1)) {a b : Nat} (ha : a ≤ n) (hb : b ≤ n) : Zo.At n (upL n l) a b = if a ≠ 0 ∧ b = 0 then 1099511627776 else Zo.At n l a b := by
 have := (Zo.fold_at (N := n) (f := upS n) (p := fun t a b => decide (a = t + 1 ∧ b = 0)) (v := 1099511627776) (fun x t ht hx => ⟨by simpa [upS] using hx, fun a b _ hb => by
  unfold upS; rw [Zo.At_set hx (by omega) (by omega) _ hb]; simp⟩) hl n (Nat.le_refl _)).2 a b ha hb
 rw [show upL n l = (List.range n).foldl (upS n) l from rfl, this]
 by_cases c : a ≠ 0 ∧ b = 0
 · rw [if_pos c, if_pos]
   rw [List.any_eq_true]
   exact ⟨a - 1, List.mem_range.2 (by omega), by simp; omega⟩
 · rw [if_neg c, if_neg]
   intro h
   rw [List.any_eq_true] at h
   obtain ⟨s, _, hs⟩ := h
   simp at hs
   omega
theorem dmL_at {n : Nat} {l : List Int} (hl : l.length = (n + 1) * (n + 1)) {a b : Nat} (ha : a ≤ n) (hb : b ≤ n) : Zo.At n (dmL n l) a b = if a = 0 then 1099511627776 else Zo.At n l a b := by
 have := (Zo.fold_at (N := n + 1) (f := dmS n) (p := fun t a b => decide (a = 0 ∧ b = t)) (v := 1099511627776) (fun x t ht hx => ⟨by simpa [dmS] using hx, fun a b _ hb => by
  unfold dmS; rw [Zo.At_set hx (by omega) (by omega) _ hb]; simp⟩) hl (n + 1) (Nat.le_refl _)).2 a b ha hb
 rw [show dmL n l = (List.range (n + 1)).foldl (dmS n) l from rfl, this]
 by_cases c : a = 0
 · rw [if_pos c, if_pos]
   rw [List.any_eq_true]
   exact ⟨b, List.mem_range.2 (by omega), by simpa using c⟩
 · rw [if_neg c, if_neg]
   intro h
   rw [List.any_eq_true] at h
   obtain ⟨s, _, hs⟩ := h
   simp at hs
   exact c hs.1
theorem dnL_at {n : Nat} {l : List Int} (hl : l.length = (n + 1) * (n + 1)) {a b : Nat} (ha : a ≤ n) (hb : b ≤ n) : Zo.At n (dnL n l) a b = if a = 0 ∧ b ≠ 0 then 1 else Zo.At n l a b := by
 have := (Zo.fold_at (N := n) (f := dnS n) (p := fun t a b => decide (a = 0 ∧ b = t + 1)) (v := 1) (fun x t ht hx => ⟨by simpa [dnS] using hx, fun a b _ hb => by
  unfold dnS; rw [Zo.At_set hx (by omega) (by omega) _ hb]; simp⟩) hl n (Nat.le_refl _)).2 a b ha hb
 rw [show dnL n l = (List.range n).foldl (dnS n) l from rfl, this]
 by_cases c : a = 0 ∧ b ≠ 0
 · rw [if_pos c, if_pos]
   rw [List.any_eq_true]
   exact ⟨b - 1, List.mem_range.2 (by omega), by simp; omega⟩
 · rw [if_neg c, if_neg]
   intro h
   rw [List.any_eq_true] at h
   obtain ⟨s, _, hs⟩ := h
   simp at hs
   omega
theorem up_pre {n : Nat} {l : List Int} (hl : l.length = (n + 1) * (n + 1)) (hc : chkE n l = 0) : Zo.pre n (umL n l) = Zo.pre n (upL n l) := by
 obtain ⟨dg, _⟩ := chk_diag hc
 refine Zo.pre_eq (by rw [umL_len, hl]) (by rw [upL_len, hl]) fun a b ha hb => ⟨fun h => ?_, fun h => ?_⟩
 · rw [umL_at hl ha hb, upL_at hl ha hb]
   by_cases c : b = 0
   · rw [if_pos c, if_pos ⟨h.1, c⟩]
   · rw [if_neg c, if_neg (by omega)]
 · rw [umL_at hl ha hb, upL_at hl ha hb]
   by_cases c : b = 0
   · rw [if_pos c, if_neg (by omega)]
     have : a = 0 := by omega
     subst this; subst c
     rw [dg 0 (by omega)]; decide
   · rw [if_neg c, if_neg (by omega)]
theorem dn_pre {n : Nat} {l : List Int} (hl : l.length = (n + 1) * (n + 1)) (hc : chkE n l = 0) : Zo.pre n (dmL n l) = Zo.pre n (dnL n l) := by
 obtain ⟨dg, _⟩ := chk_diag hc
 refine Zo.pre_eq (by rw [dmL_len, hl]) (by rw [dnL_len, hl]) fun a b ha hb => ⟨fun h => ?_, fun h => ?_⟩
 · rw [dmL_at hl ha hb, dnL_at hl ha hb, if_neg h.1, if_neg (by omega)]
 · rw [dmL_at hl ha hb, dnL_at hl ha hb]
   by_cases c : a = 0
   · rw [if_pos c]
     by_cases cb : b = 0
     · rw [if_neg (by omega)]
       subst c; subst cb
       rw [dg 0 (by omega)]; decide
     · rw [if_pos ⟨c, cb⟩]; decide
   · rw [if_neg c, if_neg (by omega)]
theorem fold_64 {f : List Int → Nat → List Int} (hf : ∀ x t, Zo.A64 x → Zo.A64 (f x t)) {l : List Int} (h : Zo.A64 l) (t : Nat) : Zo.A64 ((List.range t).foldl f l) :=
 Zo.fold_keeps (R := Zo.A64) t (fun a s _ ha => hf a s ha) l h t (Nat.le_refl _)
theorem no_in : -9223372036854775808 ≤ (1099511627776 : Int) ∧ (1099511627776 : Int) ≤ 9223372036854775807 := by omega
theorem enter_up (args : Array Value) (W : World) : (callFunc 109 args).run Tryz.prog W = .ok (.enter 109 args) W := by go_simp
theorem enter_dn (args : Array Value) (W : World) : (callFunc 112 args).run Tryz.prog W = .ok (.enter 112 args) W := by go_simp
theorem ch_up (N : Int) (l : List Int) (ao : Option Addr) (cap : Nat) (w : World) (hA : Arg w ao l) :
  Calls Tryz.prog 108 #[.agg #[.int .i64 N, .slice ao l.length cap], .bool true, .func (.func 109) #[] #[]] w (ZRes w N (Zo.clo N.toNat (upL N.toNat l)) (upE N l)) := by
 by_cases hc : chkE N l = 0
 · obtain ⟨n, rfl, hn, hl, hne⟩ := chk_ok hc
   have := changed_ok n l (umL n l) ao cap 109 #[] w hA hn hl hc (fold_64 (fun x t h => Zo.gt_range _ _ _ h no_in) (chk_64 hc).1 _) enter_up (fun W b _ _ hM => up1_any b n l W hn hM)
   rw [show upE (n : Int) l = cloE n (umL n l) by unfold upE; rw [if_pos hc, cloE_pre (up_pre hl hc)]; rfl]
   rw [Zo.clo_pre (up_pre hl hc)] at this
   exact this
 · refine (changed_bad N l ao cap true _ w hA (Or.inl (by unfold okB; simpa using hc))).mono fun e w' h => h.bad (by unfold upE; rw [if_neg hc])
theorem ch_dn (N : Int) (l : List Int) (ao : Option Addr) (cap : Nat) (w : World) (hA : Arg w ao l) :
  Calls Tryz.prog 108 #[.agg #[.int .i64 N, .slice ao l.length cap], .bool true, .func (.func 112) #[] #[]] w (ZRes w N (Zo.clo N.toNat (dnL N.toNat l)) (dnE N l)) := by
 by_cases hc : chkE N l = 0
 · obtain ⟨n, rfl, hn, hl, hne⟩ := chk_ok hc
   have := changed_ok n l (dmL n l) ao cap 112 #[] w hA hn hl hc (fold_64 (fun x t h => Zo.gt_range _ _ _ h no_in) (chk_64 hc).1 _) enter_dn (fun W b _ _ hM => dn1_any b n l W hn hM)
   rw [show dnE (n : Int) l = cloE n (dmL n l) by unfold dnE; rw [if_pos hc, cloE_pre (dn_pre hl hc)]; rfl]
   rw [Zo.clo_pre (dn_pre hl hc)] at this
   exact this
 · refine (changed_bad N l ao cap true _ w hA (Or.inl (by unfold okB; simpa using hc))).mono fun e w' h => h.bad (by unfold dnE; rw [if_neg hc])
theorem zres_over {w W w4 : World} {N : Int} {l : List Int} {g c x : Nat} (hb : Below w.heap.size w W) (h : Below W.heap.size W w4) (hO : Own w4 g c l) (hg : W.heap.size ≤ g) (hx : w.heap.size ≤ x) (hlt : x < W.heap.size) (u v : Value) :
  ZRes w N l 0 (.returned (.tuple #[.agg #[.int .i64 N, .slice (some ⟨g, 0, none⟩) l.length c], .int .i64 0])) ((w4.setCell ⟨x, 0, none⟩ u).setCell ⟨x, 1, none⟩ v) :=
 ⟨((below_on hb h).setCell hx _).setCell hx _, Or.inl ⟨rfl, g, c, rfl, by have := hb.size; omega, put_far hO (by omega) _ _⟩⟩
theorem zres_over0 {w W w4 : World} {N : Int} {l : List Int} {er : Int} {x : Nat} (hb : Below w.heap.size w W) (h : Below W.heap.size W w4) (he : er ≠ 0) (hx : w.heap.size ≤ x) (u v : Value) :
  ZRes w N l er (.returned (.tuple #[.agg #[.int .i64 0, .slice none 0 0], .int .i64 er])) ((w4.setCell ⟨x, 0, none⟩ u).setCell ⟨x, 1, none⟩ v) :=
 ⟨((below_on hb h).setCell hx _).setCell hx _, Or.inr ⟨he, rfl⟩⟩
set_option maxRecDepth 100000 in
theorem zup_gen (N : Int) (l : List Int) (ao : Option Addr) (cap : Nat) (w : World) (hA : Arg w ao l) :
  Calls Tryz.prog 62 #[.agg #[.int .i64 N, .slice ao l.length cap]] w (ZRes w N (Zo.clo N.toNat (upL N.toNat l)) (upE N l)) := by
 have CH := Lib.hid (show ∀ W, Below w.heap.size w W → _ from fun W h => ch_up N l ao cap W (hA.on h))
 generalize Zo.clo N.toNat (upL N.toNat l) = r at *
 generalize upE N l = er at *
 generalize l.length = len at *
 obtain ⟨w0, hw0⟩ : ∃ w0, w0 = (w.alloc (.cells #[.int .i64 N, .slice ao len cap] 36)).alloc (.cells #[.int .i64 0, .slice none 0 0] 36) := ⟨_, rfl⟩
 have bx : Two w0 w.heap.size (.int .i64 N) (.slice ao len cap) := by rw [hw0]; exact (Two.made _ _ _ _).alloc _
 have rs : Two w0 (w.heap.size + 1) (.int .i64 0) (.slice none 0 0) := by
  rw [hw0]
  have := Two.made (w.alloc (.cells #[.int .i64 N, .slice ao len cap] 36)) (.int .i64 0) (.slice none 0 0) 36
  simpa using this
 have E0 := Lib.hid (show Below w.heap.size w w0 by rw [hw0]; exact past_two (Below.refl _ _))
 clear hA
 go_enter Tryz.func62, Tryz.ntmps62
 go_wp2_with fail
 rw [← hw0]
 clear hw0
 obtain ⟨b0, b1, b2, b3⟩ := bx.facts
 go_wp2_with fail
 clear b0 b1 b2 b3
 refine (CH.out _ E0.out).mono ?_
 intro e w4 hG
 obtain ⟨hb4, hres⟩ := hG
 obtain ⟨q0, q1, q2, q3⟩ := (rs.kept hb4).facts
 have HB4 := Lib.hid hb4
 have hlt := rs.lt
 rcases hres with ⟨he, g, c, rfl, hgl, hO⟩ | ⟨he, rfl⟩
 · have HO := Lib.hid hO
   subst he
   clear hO hb4
   go_wp2_with fail
   refine bodyPost_ret (v := .tuple #[.agg #[.int .i64 N, .slice (some ⟨g, 0, none⟩) r.length c], .int .i64 0]) (by simp [results, Tryz.results62, go_sem, q0, q1]) rfl (zres_over E0.out HB4.out HO.out hgl (by omega) hlt _ _)
 · have HEE := Lib.hid he
   clear he hb4
   go_wp2_with fail
   refine bodyPost_ret (v := .tuple #[.agg #[.int .i64 0, .slice none 0 0], .int .i64 er]) (by simp [results, Tryz.results62, go_sem, q0, q1]) rfl (zres_over0 E0.out HB4.out HEE.out (by omega) _ _)
set_option maxRecDepth 100000 in
theorem zdn_gen (N : Int) (l : List Int) (ao : Option Addr) (cap : Nat) (w : World) (hA : Arg w ao l) :
  Calls Tryz.prog 65 #[.agg #[.int .i64 N, .slice ao l.length cap]] w (ZRes w N (Zo.clo N.toNat (dnL N.toNat l)) (dnE N l)) := by
 have CH := Lib.hid (show ∀ W, Below w.heap.size w W → _ from fun W h => ch_dn N l ao cap W (hA.on h))
 generalize Zo.clo N.toNat (dnL N.toNat l) = r at *
 generalize dnE N l = er at *
 generalize l.length = len at *
 obtain ⟨w0, hw0⟩ : ∃ w0, w0 = (w.alloc (.cells #[.int .i64 N, .slice ao len cap] 36)).alloc (.cells #[.int .i64 0, .slice none 0 0] 36) := ⟨_, rfl⟩
 have bx : Two w0 w.heap.size (.int .i64 N) (.slice ao len cap) := by rw [hw0]; exact (Two.made _ _ _ _).alloc _
 have rs : Two w0 (w.heap.size + 1) (.int .i64 0) (.slice none 0 0) := by
  rw [hw0]
  have := Two.made (w.alloc (.cells #[.int .i64 N, .slice ao len cap] 36)) (.int .i64 0) (.slice none 0 0) 36
  simpa using this
 have E0 := Lib.hid (show Below w.heap.size w w0 by rw [hw0]; exact past_two (Below.refl _ _))
 clear hA
 go_enter Tryz.func65, Tryz.ntmps65
 go_wp2_with fail
 rw [← hw0]
 clear hw0
 obtain ⟨b0, b1, b2, b3⟩ := bx.facts
 go_wp2_with fail
 clear b0 b1 b2 b3
 refine (CH.out _ E0.out).mono ?_
 intro e w4 hG
 obtain ⟨hb4, hres⟩ := hG
 obtain ⟨q0, q1, q2, q3⟩ := (rs.kept hb4).facts
 have HB4 := Lib.hid hb4
 have hlt := rs.lt
 rcases hres with ⟨he, g, c, rfl, hgl, hO⟩ | ⟨he, rfl⟩
 · have HO := Lib.hid hO
   subst he
   clear hO hb4
   go_wp2_with fail
   refine bodyPost_ret (v := .tuple #[.agg #[.int .i64 N, .slice (some ⟨g, 0, none⟩) r.length c], .int .i64 0]) (by simp [results, Tryz.results65, go_sem, q0, q1]) rfl (zres_over E0.out HB4.out HO.out hgl (by omega) hlt _ _)
 · have HEE := Lib.hid he
   clear he hb4
   go_wp2_with fail
   refine bodyPost_ret (v := .tuple #[.agg #[.int .i64 0, .slice none 0 0], .int .i64 er]) (by simp [results, Tryz.results65, go_sem, q0, q1]) rfl (zres_over0 E0.out HB4.out HEE.out (by omega) _ _)
abbrev Con := Int × Int × Int
def gc (cs : List Con) (k : Nat) : Con := cs.getD k (0, 0, 0)
def Rd3 (w : World) (a : Addr) (cs : List Con) : Prop := ∀ j, j < cs.length → w.cell? (a.add (j * 3)) = some (.int .i64 (gc cs j).1) ∧ w.cell? ⟨(a.add (j * 3)).block, (a.add (j * 3)).off + 1, none⟩ = some (.int .i64 (gc cs j).2.1) ∧ w.cell? ⟨(a.add (j * 3)).block, (a.add (j * 3)).off + 2, none⟩ = some (.int .i64 (gc cs j).2.2)
theorem Rd3.on {w w' : World} {a : Addr} {l : List Con} (h : Rd3 w a l) (hb : Below w.heap.size w w') : Rd3 w' a l := fun j hj => ⟨kept hb (h j hj).1, kept hb (h j hj).2.1, kept hb (h j hj).2.2⟩
def okC (n : Nat) (c : Con) : Bool := decide (0 ≤ c.1 ∧ c.1 ≤ n ∧ 0 ≤ c.2.1 ∧ c.2.1 ≤ n) && lvB c.2.2
def anS (n : Nat) (cs : List Con) (x : List Int) (t : Nat) : List Int := x.set (Zo.ix n (gc cs t).1.toNat (gc cs t).2.1.toNat) (imin (Zo.At n x (gc cs t).1.toNat (gc cs t).2.1.toNat) (gc cs t).2.2)
def anL (n : Nat) (cs : List Con) (l : List Int) : List Int := (List.range cs.length).foldl (anS n cs) l
theorem anL_len (n : Nat) (cs : List Con) (l : List Int) : (anL n cs l).length = l.length := fold_len (fun x t => by simp [anS]) l _
def anE (n : Nat) (cs : List Con) (l : List Int) : Int := if cs.all (okC n) then cloE n (anL n cs l) else 2
theorem anE_ok {n : Nat} {cs : List Con} {l : List Int} (h : ∀ k, k < cs.length → okC n (gc cs k) = true) : anE n cs l = cloE n (anL n cs l) := by
 have : cs.all (okC n) = true := by
  rw [List.all_eq_true]
  intro x hx
  obtain ⟨k, hk, rfl⟩ := List.getElem_of_mem hx
  have := h k hk
  simpa [gc, hk] using this
 unfold anE; rw [this]; rfl
def Arg3 (w : World) (dao : Option Addr) (cs : List Con) : Prop := cs ≠ [] → ∃ d, dao = some d ∧ Rd3 w d cs
theorem Arg3.on {w w' : World} {ao : Option Addr} {l : List Con} (h : Arg3 w ao l) (hb : Below w.heap.size w w') : Arg3 w' ao l := fun hl => by
 obtain ⟨a, h1, h2⟩ := h hl
 exact ⟨a, h1, h2.on hb⟩
def anG (N : Int) (cs : List Con) (l : List Int) : Int := if chkE N l = 0 then anE N.toNat cs l else 2
theorem ZRes.ok {w : World} {N : Int} {l : List Int} {er : Int} {e : Ending} {w' : World} (h : ZRes w N l er e w') (he : er = 0) : ∃ g c, e = .returned (.tuple #[.agg #[.int .i64 N, .slice (some ⟨g, 0, none⟩) l.length c], .int .i64 0]) ∧ w.heap.size ≤ g ∧ Own w' g c l ∧ Below w.heap.size w w' := by
 rcases h.2 with ⟨_, g, c, h1, h2, h3⟩ | ⟨h1, _⟩
 · exact ⟨g, c, h1, h2, h3, h.1⟩
 · exact absurd he h1
theorem ZRes.no {w : World} {N : Int} {l : List Int} {er : Int} {e : Ending} {w' : World} (h : ZRes w N l er e w') (he : er ≠ 0) : e = .returned (.tuple #[.agg #[.int .i64 0, .slice none 0 0], .int .i64 er]) ∧ Below w.heap.size w w' := by
 rcases h.2 with ⟨h1, _⟩ | ⟨_, h1⟩
 · exact absurd h1 he
 · exact ⟨h1, h.1⟩
end Go.Proofs.YthjapmdfcbngmaaGreat
