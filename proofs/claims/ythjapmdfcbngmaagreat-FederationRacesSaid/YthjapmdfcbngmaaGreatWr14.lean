/- A part. -/
import Derived.Test.YthjapmdfcbngmaaGreatWr13
import Derived.Test.YthjapmdfcbngmaaGreatWr8
namespace Go.Proofs.YthjapmdfcbngmaaGreat
set_option maxHeartbeats 4000000
open Go.RowKit
def okZ (N : Int) (c : Con) : Bool := ckB N c.1 0 && (ckB N c.2.1 0 && lvB c.2.2)
theorem okZ_nat (n : Nat) (c : Con) : okZ n c = okC n c := by
 unfold okZ okC ckB
 cases lvB c.2.2
 · simp
 · rw [Bool.eq_iff_iff]; simp; omega
set_option maxRecDepth 100000 in
theorem and1_any (N I J L : Int) (v : Value) (pb : Nat) (w : World) (h0 : w.cell? ⟨pb, 0, none⟩ = some (.int .i64 N)) (h1 : w.cell? ⟨pb, 1, none⟩ = some v) :
  Calls Tryz.prog 182 #[.agg #[.int .i64 I, .int .i64 J, .int .i64 L], .pointer (some ⟨pb, 0, none⟩)] w (Made (.bool (!okZ N (I, J, L))) w) := by
 have C1 := Lib.hid (fun W => isClock_any N I 0 v W)
 have C2 := Lib.hid (fun W => isClock_any N J 0 v W)
 have C3 := Lib.hid (fun W => limValid_free L W)
 have HO := Lib.hid (show okZ N (I, J, L) = (ckB N I 0 && (ckB N J 0 && lvB L)) from rfl)
 generalize okZ N (I, J, L) = ok at *
 generalize ckB N I 0 = k1 at *
 generalize ckB N J 0 = k2 at *
 generalize lvB L = k3 at *
 obtain ⟨w0, hw0⟩ : ∃ w0, w0 = w.alloc (.cells #[.int .i64 I, .int .i64 J, .int .i64 L] 110) := ⟨_, rfl⟩
 have a0 : w0.cell? ⟨pb, 0, none⟩ = some (.int .i64 N) := by rw [hw0]; exact kept (one_more _) h0
 have a1 : w0.cell? ⟨pb, 1, none⟩ = some v := by rw [hw0]; exact kept (one_more _) h1
 have x0 : w0.cell? ⟨w.heap.size, 0, none⟩ = some (.int .i64 I) := by rw [hw0]; go_simp
 have x1 : w0.cell? ⟨w.heap.size, 1, none⟩ = some (.int .i64 J) := by rw [hw0]; go_simp
 have x2 : w0.cell? ⟨w.heap.size, 2, none⟩ = some (.int .i64 L) := by rw [hw0]; go_simp
 have E0 := Lib.hid (show Below w.heap.size w w0 by rw [hw0]; exact one_more _)
 have KS := Lib.hid (show ∀ w' : World, Below w0.heap.size w0 w' → (w'.cell? ⟨pb, 0, none⟩ = some (.int .i64 N) ∧ w'.cell? ⟨pb, 1, none⟩ = some v) ∧ w'.cell? ⟨w.heap.size, 0, none⟩ = some (.int .i64 I) ∧ w'.cell? ⟨w.heap.size, 1, none⟩ = some (.int .i64 J) ∧ w'.cell? ⟨w.heap.size, 2, none⟩ = some (.int .i64 L) from
  fun w' h => ⟨⟨kept h a0, kept h a1⟩, kept h x0, kept h x1, kept h x2⟩)
 have y0 : (w.alloc (.cells #[.int .i64 I, .int .i64 J, .int .i64 L] 110)).cell? ⟨pb, 0, none⟩ = some (.int .i64 N) := kept (one_more _) h0
 have y1 : (w.alloc (.cells #[.int .i64 I, .int .i64 J, .int .i64 L] 110)).cell? ⟨pb, 1, none⟩ = some v := kept (one_more _) h1
 clear h0 h1
 go_enter Tryz.func182, Tryz.ntmps182
 go_wp2_with fail
 rw [← hw0]
 clear hw0 y0 y1
 refine (C1.out _).mono ?_
 rintro e w1 ⟨rfl, hb1⟩
 clear a0 a1 x0 x1 x2
 obtain ⟨⟨a0, a1⟩, x0, x1, x2⟩ := KS.out _ hb1
 have B1 := Lib.hid hb1
 clear hb1
 cases k1
 · have HR := Lib.hid (show ok = false by rw [HO.out]; rfl)
   go_wp2_with fail
   go_ret
   exact ⟨ret_bool (by rw [HR.out]; rfl), below_on E0.out B1.out⟩
 · go_wp2_with fail
   refine (C2.out _).mono ?_
   rintro e w2 ⟨rfl, hb2⟩
   have B2 := Lib.hid (below_on B1.out hb2)
   clear hb2 a0 a1 x0 x1 x2
   obtain ⟨⟨a0, a1⟩, x0, x1, x2⟩ := KS.out _ B2.out
   cases k2
   · have HR := Lib.hid (show ok = false by rw [HO.out]; rfl)
     go_wp2_with fail
     go_ret
     exact ⟨ret_bool (by rw [HR.out]; rfl), below_on E0.out B2.out⟩
   · go_wp2_with fail
     refine (C3.out _).mono ?_
     rintro e w3 ⟨rfl, hw⟩
     rw [hw]; clear hw w3
     have HR := Lib.hid (show ok = k3 by rw [HO.out]; rfl)
     go_wp2_with fail
     go_ret
     exact ⟨ret_bool (by rw [HR.out]), below_on E0.out B2.out⟩
def aokB (N : Int) (cs : List Con) : Bool := cs.all (okZ N)
def Idx (N : Int) (cs : List Con) (w : World) (e : Ending) (w' : World) : Prop := ∃ r : Int, e = .returned (.int .i64 r) ∧ (decide (0 ≤ r) = !aokB N cs) ∧ Below w.heap.size w w'
set_option maxRecDepth 100000 in
theorem index_any (N : Int) (v : Value) (pb : Nat) (cs : List Con) (dao : Option Addr) (dc : Nat) (w : World) (hD : Arg3 w dao cs) (hdl : cs.length ≤ 1000) (h0 : w.cell? ⟨pb, 0, none⟩ = some (.int .i64 N)) (h1 : w.cell? ⟨pb, 1, none⟩ = some v) :
  Calls Tryz.prog 194 #[.slice dao cs.length dc, .func (.func 182) #[] #[.pointer (some ⟨pb, 0, none⟩)]] w (Idx N cs w) := by
 have hd : ∃ d, (cs ≠ [] → dao = some d) ∧ Rd3 w d cs := by
  by_cases he : cs = []
  · exact ⟨⟨0, 0, none⟩, fun h => absurd he h, by rw [he]; intro j hj; simp at hj⟩
  · obtain ⟨d, h2, h3⟩ := hD he
    exact ⟨d, fun _ => h2, h3⟩
 obtain ⟨d, hdo, hR⟩ := hd
 have HR := Lib.hid hR
 have C1 := Lib.hid (show ∀ (W : World) (c : Con), Below w.heap.size w W → Calls Tryz.prog 182 #[.agg #[.int .i64 c.1, .int .i64 c.2.1, .int .i64 c.2.2], .pointer (some ⟨pb, 0, none⟩)] W (Made (.bool (!okZ N c)) W) from fun W c h => and1_any N c.1 c.2.1 c.2.2 v pb W (kept h h0) (kept h h1))
 obtain ⟨len, hlen⟩ : ∃ len, len = cs.length := ⟨_, rfl⟩
 have HL := Lib.hid hlen
 have hz : ∀ t : Nat, t < len → dao = some d := fun t ht => hdo (by intro e; rw [e] at hlen; simp at hlen; omega)
 have hl2 : len ≤ 1000 := by omega
 rw [← hlen]
 clear hlen hR hD h0 h1 hdl hdo
 go_enter Tryz.func194, Tryz.ntmps194
 go_wp2_with fail
 go_loopw [8] (fun s wr => ∃ t : Nat, t ≤ len ∧ s = .int .i64 t ∧ Hid (∀ i, i < t → okZ N (gc cs i) = true) ∧ Hid (Below w.heap.size w wr)) (fun s _ => len - (intOf s).toNat)
 case atStart => exact ⟨0, by omega, rfl, Lib.hid (fun i hi => by omega), Lib.hid (Below.refl _ _)⟩
 case round =>
  obtain ⟨t, ht, rfl, HT, HB⟩ := hrel
  by_cases htn : t < len
  · obtain rfl := hz t htn
    obtain ⟨c0, c1, c2⟩ := (HR.out.on HB.out) t (by rw [← HL.out]; exact htn)
    obtain ⟨c, hc⟩ : ∃ c, c = gc cs t := ⟨_, rfl⟩
    rw [← hc] at c0 c1 c2
    have HC := Lib.hid hc
    have CC := C1.out
    have C2 := Lib.hid (fun W h => CC W c h)
    clear hc CC
    cases ho : okZ N c
    · rw [ho] at C2
      have HE := Lib.hid (show aokB N cs = false by
       unfold aokB
       rw [List.all_eq_false]
       have hlt : t < cs.length := by rw [← HL.out]; exact htn
       exact ⟨cs[t], List.getElem_mem hlt, by rw [show cs[t] = c by rw [HC.out]; simp [gc, hlt], ho]; simp⟩)
      clear ho
      go_wp2_with fail
      refine (C2.out _ HB.out).mono ?_
      rintro e w1 ⟨rfl, hb⟩
      have HB1 := Lib.hid (below_on HB.out hb)
      clear hb c0 c1 c2
      go_wp2_with fail
      go_ret
      exact ⟨t, rfl, by rw [HE.out]; simp, HB1.out⟩
    · rw [ho] at C2
      have HO := Lib.hid ho
      clear ho
      go_wp2_with fail
      refine (C2.out _ HB.out).mono ?_
      rintro e w1 ⟨rfl, hb⟩
      have HB1 := Lib.hid (below_on HB.out hb)
      clear hb c0 c1 c2
      go_wp2_with fail
      go_roundw
      case rel =>
       refine ⟨t + 1, by omega, by go_num, Lib.hid (fun i hi => ?_), HB1⟩
       by_cases e : i = t
       · rw [e, ← HC.out]; exact HO.out
       · exact HT.out i (by omega)
      case measure => simp [intOf]; omega
  · have HE := Lib.hid (show aokB N cs = true by
     unfold aokB
     rw [List.all_eq_true]
     intro x hx
     obtain ⟨i, hi, rfl⟩ := List.getElem_of_mem hx
     have := HT.out i (by have := HL.out; omega)
     simpa [gc, hi] using this)
    go_wp2_with fail
    go_ret
    exact ⟨-1, rfl, by rw [HE.out]; rfl, HB.out⟩
set_option maxRecDepth 100000 in
theorem contains_any (N : Int) (v : Value) (pb : Nat) (cs : List Con) (dao : Option Addr) (dc : Nat) (w : World) (hD : Arg3 w dao cs) (hdl : cs.length ≤ 1000) (h0 : w.cell? ⟨pb, 0, none⟩ = some (.int .i64 N)) (h1 : w.cell? ⟨pb, 1, none⟩ = some v) :
  Calls Tryz.prog 181 #[.slice dao cs.length dc, .func (.func 182) #[] #[.pointer (some ⟨pb, 0, none⟩)]] w (Made (.bool (!aokB N cs)) w) := by
 have CI := Lib.hid (index_any N v pb cs dao dc w hD hdl h0 h1)
 generalize cs.length = len at *
 clear hD h0 h1
 go_enter Tryz.func181, Tryz.ntmps181
 go_wp2_with fail
 refine CI.out.mono ?_
 rintro e w1 ⟨r, rfl, hr, hb⟩
 have HB := Lib.hid hb
 have HRR := Lib.hid hr
 clear hb hr
 go_wp2_with fail
 go_ret
 exact ⟨ret_bool HRR.out, HB.out⟩
theorem MSt.alloc {w0 w : World} {b n : Nat} {l : List Int} (h : MSt w0 b n l w) (o : Obj) : MSt w0 b n l (w.alloc o) := ⟨h.1.alloc o, grown_trans h.2 (World.grownBy_alloc w o _)⟩
theorem MSt.old {w0 w w' : World} {b n : Nat} {x : List Int} (hb : Below w0.heap.size w0 w) (hle : w0.heap.size ≤ b) (h : MSt w b n x w') {p : Addr} {v : Value} (hp : w0.cell? p = some v) : w'.cell? p = some v := by
 have hlt := World.block_lt_of_cell? w0 _ hp
 exact h.2.cell (kept hb hp) (by simp; omega)
theorem Rd3.mst {w0 w w' : World} {b n : Nat} {x : List Int} {d : Addr} {cs : List Con} (hR : Rd3 w0 d cs) (hb : Below w0.heap.size w0 w) (hle : w0.heap.size ≤ b) (h : MSt w b n x w') : Rd3 w' d cs :=
 fun j hj => ⟨h.old hb hle (hR j hj).1, h.old hb hle (hR j hj).2.1, h.old hb hle (hR j hj).2.2⟩
set_option maxRecDepth 100000 in
theorem and2_any (b n : Nat) (l : List Int) (cs : List Con) (dao : Option Addr) (dc : Nat) (lb : Addr) (w0 w : World) (hn : n ≤ 10) (hD : Arg3 w0 dao cs) (hdl : cs.length ≤ 1000) (hok : ∀ k, k < cs.length → okC n (gc cs k) = true)
  (hlb : w0.cell? lb = some (.slice dao cs.length dc)) (hb : Below w0.heap.size w0 w) (hle : w0.heap.size ≤ b) (h : Mx w b n l) :
  Calls Tryz.prog 184 #[.pointer (some ⟨b, 0, none⟩), .pointer (some lb)] w (Chg w b n (anL n cs l)) := by
 have hd : ∃ d, (cs ≠ [] → dao = some d) ∧ Rd3 w0 d cs := by
  by_cases he : cs = []
  · exact ⟨⟨0, 0, none⟩, fun h => absurd he h, by rw [he]; intro j hj; simp at hj⟩
  · obtain ⟨d, h2, h3⟩ := hD he
    exact ⟨d, fun _ => h2, h3⟩
 obtain ⟨d, hdo, hR⟩ := hd
 have KR := Lib.hid (show ∀ x w', MSt w b n x w' → Rd3 w' d cs from fun x w' hm => hR.mst hb hle hm)
 have HM := Lib.hid (show MSt w b n l w from ⟨h, World.grownBy.refl _ _⟩)
 have c0 : w.cell? lb = some (.slice dao cs.length dc) := kept hb hlb
 have HLL := Lib.hid h.2
 have OK := Lib.hid hok
 obtain ⟨len, hlen⟩ : ∃ len, len = cs.length := ⟨_, rfl⟩
 have HL := Lib.hid hlen
 have hz : ∀ t : Nat, t < len → dao = some d := fun t ht => hdo (by intro e; rw [e] at hlen; simp at hlen; omega)
 have hl2 : len ≤ 1000 := by omega
 rw [← hlen] at c0
 clear hlen hR hD hdl hdo hok hlb hb hle h
 go_enter Tryz.func184, Tryz.ntmps184
 go_wp2_with fail
 clear c0
 go_loopw [7] (fun s wr => ∃ (t : Nat) (x : List Int), t ≤ len ∧ s = .int .i64 t ∧ Hid (x.length = (n + 1) * (n + 1) ∧ x = (List.range t).foldl (anS n cs) l ∧ MSt w b n x wr)) (fun s _ => len - (intOf s).toNat)
 case atStart => exact ⟨0, l, by omega, rfl, Lib.hid ⟨HLL.out, rfl, HM.out⟩⟩
 case round =>
  obtain ⟨t, x, ht, rfl, HX⟩ := hrel
  by_cases htn : t < len
  · obtain rfl := hz t htn
    obtain ⟨c0, c1, c2⟩ := (KR.out _ _ HX.out.2.2) t (by rw [← HL.out]; exact htn)
    obtain ⟨c, hc⟩ : ∃ c, c = gc cs t := ⟨_, rfl⟩
    have hok := OK.out t (by rw [← HL.out]; exact htn)
    rw [← hc] at c0 c1 c2 hok
    have HC := Lib.hid hc
    unfold okC at hok
    simp only [Bool.and_eq_true, decide_eq_true_eq] at hok
    obtain ⟨⟨i1, i2, j1, j2⟩, _⟩ := hok
    obtain ⟨ci, cj, cl⟩ := c
    simp only at i1 i2 j1 j2 c0 c1 c2
    obtain ⟨i, rfl⟩ := Int.eq_ofNat_of_zero_le i1
    obtain ⟨j, rfl⟩ := Int.eq_ofNat_of_zero_le j1
    have TT := Lib.hid (fun (w' : World) (h : MSt w b n x w') => tighten_st (i := i) (j := j) cl hn (by omega) (by omega) h)
    have HS := Lib.hid (show anS n cs x t = x.set (Zo.ix n i j) (imin (Zo.At n x i j) cl) by unfold anS; rw [← HC.out]; rfl)
    clear hc
    go_wp2_with fail
    refine (TT.out _ (HX.out.2.2.alloc _)).mono ?_
    rintro e w1 ⟨rfl, hm⟩
    have HM1 := Lib.hid hm
    clear hm c0 c1 c2
    go_wp2_with fail
    go_roundw
    case rel => exact ⟨t + 1, _, by omega, by go_num, Lib.hid ⟨by simpa using HX.out.1, by rw [Zo.fold_succ, ← HX.out.2.1, HS.out], HM1.out⟩⟩
    case measure => simp [intOf]; omega
  · have HE := Lib.hid (show x = anL n cs l by rw [HX.out.2.1]; unfold anL; rw [← HL.out, show t = len by omega])
    go_wp2_with fail
    go_end0
    exact ⟨rfl, by rw [← HE.out]; exact HX.out.2.2⟩
theorem enter_an (args : Array Value) (W : World) : (callFunc 184 args).run Tryz.prog W = .ok (.enter 184 args) W := by go_simp
theorem aok_nat {n : Nat} {cs : List Con} : aokB n cs = cs.all (okC n) := by
 unfold aokB; congr 1; funext c; exact okZ_nat n c
theorem anL_64 {n : Nat} {cs : List Con} {l : List Int} (h : Zo.A64 l) (hok : cs.all (okC n) = true) : Zo.A64 (anL n cs l) := by
 unfold anL
 refine Zo.fold_keeps (R := Zo.A64) cs.length (fun x t ht hx => ?_) l h _ (Nat.le_refl _)
 unfold anS imin
 refine hx.min_ _ _ _ _ ?_ _
 rw [List.all_eq_true] at hok
 have := hok _ (List.getElem_mem ht)
 rw [show cs[t] = gc cs t by simp [gc, ht]] at this
 unfold okC at this
 simp only [Bool.and_eq_true] at this
 have := vl_of_lv this.2
 unfold Zo.Vl at this
 omega
theorem ch_an (N : Int) (l : List Int) (ao : Option Addr) (cap : Nat) (cs : List Con) (dao : Option Addr) (dc : Nat) (lb : Addr) (w : World) (hA : Arg w ao l) (hD : Arg3 w dao cs) (hdl : cs.length ≤ 1000) (hlb : w.cell? lb = some (.slice dao cs.length dc)) :
  Calls Tryz.prog 108 #[.agg #[.int .i64 N, .slice ao l.length cap], .bool (aokB N cs), .func (.func 184) #[] #[.pointer (some lb)]] w (ZRes w N (Zo.clo N.toNat (anL N.toNat cs l)) (anG N cs l)) := by
 by_cases hc : chkE N l = 0
 · obtain ⟨n, rfl, hn, hl, hne⟩ := chk_ok hc
   cases hk : aokB n cs
   · refine (changed_bad n l ao cap false _ w hA (Or.inr rfl)).mono fun e w' h => h.bad ?_
     unfold anG anE; rw [if_pos hc]
     rw [aok_nat] at hk
     simp only [Int.toNat_natCast]
     rw [hk]; rfl
   · have hk2 := hk
     rw [aok_nat] at hk2
     have := changed_ok n l (anL n cs l) ao cap 184 #[.pointer (some lb)] w hA hn hl hc (anL_64 (chk_64 hc).1 hk2) enter_an (fun W b hb hle hM => and2_any b n l cs dao dc lb w W hn hD hdl (fun k hk' => by
      rw [List.all_eq_true] at hk2
      have := hk2 _ (List.getElem_mem hk')
      rwa [show cs[k] = gc cs k by simp [gc, hk']] at this) hlb hb hle hM)
     rw [show anG (n : Int) cs l = cloE n (anL n cs l) by unfold anG anE; rw [if_pos hc]; simp only [Int.toNat_natCast]; rw [hk2]; rfl]
     exact this
 · refine (changed_bad N l ao cap _ _ w hA (Or.inl (by unfold okB; simpa using hc))).mono fun e w' h => h.bad ?_
   unfold anG; rw [if_neg hc]
set_option maxRecDepth 100000 in
theorem zan_gen (N : Int) (l : List Int) (ao : Option Addr) (cap : Nat) (cs : List Con) (dao : Option Addr) (dc : Nat) (w : World) (hA : Arg w ao l) (hD : Arg3 w dao cs) (hdl : cs.length ≤ 1000) :
  Calls Tryz.prog 159 #[.agg #[.int .i64 N, .slice ao l.length cap], .slice dao cs.length dc] w (ZRes w N (Zo.clo N.toNat (anL N.toNat cs l)) (anG N cs l)) := by
 have CH := Lib.hid (show ∀ W lb, Below w.heap.size w W → W.cell? lb = some (.slice dao cs.length dc) → _ from fun W lb h hp => ch_an N l ao cap cs dao dc lb W (hA.on h) (hD.on h) hdl hp)
 have CT := Lib.hid (show ∀ W pb, Below w.heap.size w W → W.cell? ⟨pb, 0, none⟩ = some (.int .i64 N) → W.cell? ⟨pb, 1, none⟩ = some (.slice ao l.length cap) → _ from fun W pb h hp hq => contains_any N (.slice ao l.length cap) pb cs dao dc W (hD.on h) hdl hp hq)
 generalize Zo.clo N.toNat (anL N.toNat cs l) = r at *
 generalize anG N cs l = er at *
 generalize aokB N cs = ck at *
 generalize l.length = len at *
 generalize cs.length = clen at *
 obtain ⟨w0, hw0⟩ : ∃ w0, w0 = ((w.alloc (.cells #[.int .i64 N, .slice ao len cap] 36)).alloc (.cells #[.slice dao clen dc] 104)).alloc (.cells #[.int .i64 0, .slice none 0 0] 36) := ⟨_, rfl⟩
 have b0 : w0.cell? ⟨w.heap.size, 0, none⟩ = some (.int .i64 N) := by rw [hw0]; go_simp
 have b1 : w0.cell? ⟨w.heap.size, 1, none⟩ = some (.slice ao len cap) := by rw [hw0]; go_simp
 have b2 : w0.cell? ⟨w.heap.size + 1, 0, none⟩ = some (.slice dao clen dc) := by rw [hw0]; go_simp
 have rs : Two w0 (w.heap.size + 1 + 1) (.int .i64 0) (.slice none 0 0) := by
  rw [hw0]
  have := Two.made ((w.alloc (.cells #[.int .i64 N, .slice ao len cap] 36)).alloc (.cells #[.slice dao clen dc] 104)) (.int .i64 0) (.slice none 0 0) 36
  simpa using this
 have z0 : w0.heap.size = w.heap.size + 3 := by rw [hw0]; simp
 have E0 := Lib.hid (show Below w.heap.size w w0 by rw [hw0]; exact past_three (Below.refl _ _))
 have KS := Lib.hid (show ∀ w' : World, Below w0.heap.size w0 w' → w'.cell? ⟨w.heap.size, 0, none⟩ = some (.int .i64 N) ∧ w'.cell? ⟨w.heap.size, 1, none⟩ = some (.slice ao len cap) ∧ w'.cell? ⟨w.heap.size + 1, 0, none⟩ = some (.slice dao clen dc) from fun w' h => ⟨kept h b0, kept h b1, kept h b2⟩)
 have HRS := Lib.hid rs
 clear hA hD hdl rs
 go_enter Tryz.func159, Tryz.ntmps159
 go_wp2_with fail
 rw [← hw0]
 clear hw0
 refine (CT.out _ _ E0.out b0 b1).mono ?_
 rintro e w1 ⟨rfl, hb1⟩
 clear b0 b1 b2
 obtain ⟨b0, b1, b2⟩ := KS.out _ hb1
 have B1 := Lib.hid hb1
 clear hb1
 go_wp2_with fail
 refine (CH.out _ _ (below_on E0.out B1.out) b2).mono ?_
 intro e w4 hG
 obtain ⟨hb4, hres⟩ := hG
 have HB4 := Lib.hid (below_on B1.out hb4)
 obtain ⟨q0, q1, q2, q3⟩ := (HRS.out.kept HB4.out).facts
 have h1s := B1.out.size
 clear b0 b1 b2
 rcases hres with ⟨he, g, c, rfl, hgl, hO⟩ | ⟨he, rfl⟩
 · have HO := Lib.hid hO
   subst he
   clear hO hb4
   go_wp2_with fail
   refine bodyPost_ret (v := .tuple #[.agg #[.int .i64 N, .slice (some ⟨g, 0, none⟩) r.length c], .int .i64 0]) (by simp [results, Tryz.results159, go_sem, q0, q1]) rfl (zres_over E0.out HB4.out HO.out (by omega) (by omega) (by omega) _ _)
 · have HEE := Lib.hid he
   clear he hb4
   go_wp2_with fail
   refine bodyPost_ret (v := .tuple #[.agg #[.int .i64 0, .slice none 0 0], .int .i64 er]) (by simp [results, Tryz.results159, go_sem, q0, q1]) rfl (zres_over0 E0.out HB4.out HEE.out (by omega) _ _)
theorem ret_be2 {a b : Bool} {c d : Int} (h : a = b) (g : c = d) : Ending.returned (.tuple #[.bool a, .int .i64 c]) = .returned (.tuple #[.bool b, .int .i64 d]) := by rw [h, g]
theorem kept2 {w w0 wr : World} {a : Addr} {l : List Int} (h : Rd w a l) (h0 : Below w.heap.size w w0) (h1 : Below w0.heap.size w0 wr) : Rd wr a l := (h.on h0).on h1
set_option maxRecDepth 100000 in
theorem zinc_gen (N M : Int) (l m : List Int) (ao bo : Option Addr) (ca cb : Nat) (w : World) (hA : Arg w ao l) (hB : Arg w bo m) :
  Calls Tryz.prog 143 #[.agg #[.int .i64 N, .slice ao l.length ca], .agg #[.int .i64 M, .slice bo m.length cb]] w (Made (.tuple #[.bool (inR N M l m), .int .i64 (inE N M l m)]) w) := by
 have C1 := Lib.hid (show ∀ W, Below w.heap.size w W → _ from fun W h => zcheck_gen N l ao ca W (hA.on h))
 have C2 := Lib.hid (show ∀ W, Below w.heap.size w W → _ from fun W h => zcheck_gen M m bo cb W (hB.on h))
 obtain ⟨w0, hw0⟩ : ∃ w0, w0 = (w.alloc (.cells #[.int .i64 N, .slice ao l.length ca] 36)).alloc (.cells #[.int .i64 M, .slice bo m.length cb] 36) := ⟨_, rfl⟩
 have y0 : Two w0 w.heap.size (.int .i64 N) (.slice ao l.length ca) := by rw [hw0]; exact (Two.made _ _ _ _).alloc _
 have y1 : Two w0 (w.heap.size + 1) (.int .i64 M) (.slice bo m.length cb) := by
  rw [hw0]
  have := Two.made (w.alloc (.cells #[.int .i64 N, .slice ao l.length ca] 36)) (.int .i64 M) (.slice bo m.length cb) 36
  simpa using this
 have E0 := Lib.hid (show Below w.heap.size w w0 by rw [hw0]; exact past_two (Below.refl _ _))
 have KS := Lib.hid (show ∀ W, Below w0.heap.size w0 W → (W.cell? ⟨w.heap.size, 0, none⟩ = some (.int .i64 N) ∧ W.cell? ⟨w.heap.size, 1, none⟩ = some (.slice ao l.length ca)) ∧ W.cell? ⟨w.heap.size + 1, 0, none⟩ = some (.int .i64 M) ∧ W.cell? ⟨w.heap.size + 1, 1, none⟩ = some (.slice bo m.length cb) from
  fun W h => ⟨⟨kept h y0.1.1, kept h y0.2.1⟩, kept h y1.1.1, kept h y1.2.1⟩)
 have HZ := Lib.hid (show chkE N l = 0 → chkE M m = 0 → N = M → m.length = l.length ∧ m.length ≤ 121 ∧ ∃ a b, ao = some a ∧ bo = some b ∧ Rd w a l ∧ Rd w b m from fun h1 h2 h3 => by
  obtain ⟨n, rfl, hn, hl, hne⟩ := chk_ok h1
  obtain ⟨k, hk, hkn, hm, hme⟩ := chk_ok h2
  have : k = n := by omega
  subst this
  obtain ⟨a, ha, hR⟩ := hA hne
  obtain ⟨b, hb, hS⟩ := hB hme
  have := dsq_le hn
  exact ⟨by omega, by omega, a, b, ha, hb, hR, hS⟩)
 have HR := Lib.hid (show inR N M l m = (decide (chkE N l = 0) && decide (chkE M m = 0) && decide (N = M) && inB l m) ∧ inE N M l m = (if decide (chkE N l = 0) && decide (chkE M m = 0) && decide (N = M) then 0 else 2) from ⟨rfl, rfl⟩)
 have T1 := Lib.hid (show chkE N l ≠ 0 → chkE N l = 2 from chk_two)
 have T2 := Lib.hid (show chkE M m ≠ 0 → chkE M m = 2 from chk_two)
 have HBD := Lib.hid (show inB l m = (List.range l.length).all fun k => decide (Zo.gt m k ≤ Zo.gt l k) from rfl)
 generalize inR N M l m = rr at *
 generalize inE N M l m = re at *
 generalize chkE N l = c1 at *
 generalize chkE M m = c2 at *
 clear y0 y1
 generalize hlen : l.length = len at hw0 C1 KS ⊢
 have HLN := Lib.hid hlen
 clear hlen
 generalize hmlen : m.length = mlen at hw0 C2 KS ⊢
 have HMN := Lib.hid hmlen
 clear hA hB hmlen
 go_enter Tryz.func143, Tryz.ntmps143
 go_wp2_with fail
 rw [← hw0]
 clear hw0
 refine (C1.out _ E0.out).mono ?_
 rintro e w1 ⟨rfl, hb1⟩
 obtain ⟨⟨a0, a1⟩, a2, a3⟩ := KS.out _ hb1
 have B1 := Lib.hid hb1
 clear hb1
 by_cases h1 : c1 = 0
 · have HC1 := Lib.hid h1
   subst h1
   go_wp2_with fail
   refine (C2.out _ (below_on E0.out B1.out)).mono ?_
   rintro e w2 ⟨rfl, hb2⟩
   have B2 := Lib.hid (below_on B1.out hb2)
   clear hb2 a0 a1 a2 a3
   obtain ⟨⟨a0, a1⟩, a2, a3⟩ := KS.out _ B2.out
   by_cases h2 : c2 = 0
   · subst h2
     by_cases h3 : N = M
     · have D : (N != M) = false := by simpa using h3
       obtain ⟨z1, z2, a, b, rfl, rfl, R1, R2⟩ := HZ.out (by first | rfl | trivial) (by first | rfl | trivial) h3
       have HR1 := Lib.hid R1
       have HR2 := Lib.hid R2
       have HRR := Lib.hid (show rr = inB l m ∧ re = 0 by rw [HR.out.1, HR.out.2, h3]; simp)
       have HML := Lib.hid (show mlen = len by rw [← HMN.out, ← HLN.out]; exact z1)
       have hm121 : mlen ≤ 121 := by rw [← HMN.out]; exact z2
       clear h3 R1 R2 z1 z2
       go_wp2_with fail
       clear a0 a1 a2 a3
       go_loopw [26] (fun s wr => ∃ t : Nat, t ≤ mlen ∧ s = .int .i64 t ∧ Hid (∀ i, i < t → Zo.gt m i ≤ Zo.gt l i) ∧ Hid (Below w0.heap.size w0 wr)) (fun s _ => mlen - (intOf s).toNat)
       case atStart => exact ⟨0, by omega, rfl, Lib.hid (fun i hi => by omega), B2⟩
       case round =>
        obtain ⟨t, ht, rfl, HT, HB⟩ := hrel
        obtain ⟨⟨a0, a1⟩, a2, a3⟩ := KS.out _ HB.out
        by_cases htn : t < mlen
        · obtain ⟨x, hx⟩ : ∃ x, x = Zo.gt l t := ⟨_, rfl⟩
          obtain ⟨y, hy⟩ : ∃ y, y = Zo.gt m t := ⟨_, rfl⟩
          have htl : t < len := by rw [← HML.out]; exact htn
          have x1 : wr.cell? (a.add t) = some (.int .i64 x) := by rw [hx]; exact kept2 HR1.out E0.out HB.out t (by rw [HLN.out]; exact htl)
          have x2 : wr.cell? (b.add t) = some (.int .i64 y) := by rw [hy]; exact kept2 HR2.out E0.out HB.out t (by rw [HMN.out]; exact htn)
          have HX := Lib.hid hx
          have HY := Lib.hid hy
          clear hx hy
          by_cases hxy : y ≤ x
          · have HXY := Lib.hid hxy
            have D : decide (x < y) = false := by simp; omega
            clear hxy
            go_wp2_with fail
            clear a0 a1 a2 a3 x1 x2
            go_roundw
            case rel =>
             refine ⟨t + 1, by omega, by go_num, Lib.hid (fun i hi => ?_), HB⟩
             by_cases e : i = t
             · rw [e, ← HX.out, ← HY.out]; exact HXY.out
             · exact HT.out i (by omega)
            case measure => simp [intOf]; omega
          · have HE := Lib.hid (show inB l m = false by
             rw [HBD.out, List.all_eq_false]
             exact ⟨t, List.mem_range.2 (by rw [HLN.out]; exact htl), by rw [← HX.out, ← HY.out]; simpa using hxy⟩)
            have D : decide (x < y) = true := by simp; omega
            clear hxy
            go_wp2_with fail
            go_ret2
            exact ⟨ret_be2 (by rw [HRR.out.1, HE.out]) HRR.out.2.symm, below_on E0.out HB.out⟩
        · have HE := Lib.hid (show inB l m = true by
           rw [HBD.out, List.all_eq_true]
           intro i hi
           have := List.mem_range.1 hi
           have := HML.out
           have := HLN.out
           simpa using HT.out i (by omega))
          go_wp2_with fail
          go_ret2
          exact ⟨ret_be2 (by rw [HRR.out.1, HE.out]) HRR.out.2.symm, below_on E0.out HB.out⟩
     · have D : (N != M) = true := by simpa using h3
       have HRR := Lib.hid (show rr = false ∧ re = 2 by rw [HR.out.1, HR.out.2]; simp [h3])
       clear h3
       go_wp2_with fail
       go_ret2
       exact ⟨ret_be2 HRR.out.1.symm HRR.out.2.symm, below_on E0.out B2.out⟩
   · have HRR := Lib.hid (show rr = false ∧ re = 2 by rw [HR.out.1, HR.out.2]; simp [h2])
     obtain rfl := T2.out h2
     clear h2
     go_wp2_with fail
     go_ret2
     exact ⟨ret_be2 HRR.out.1.symm HRR.out.2.symm, below_on E0.out B2.out⟩
 · have HRR := Lib.hid (show rr = false ∧ re = 2 by rw [HR.out.1, HR.out.2]; simp [h1])
   obtain rfl := T1.out h1
   clear h1
   go_wp2_with fail
   go_ret2
   exact ⟨ret_be2 HRR.out.1.symm HRR.out.2.symm, below_on E0.out B1.out⟩
theorem run_place (b t : Nat) (ht : t < 121) (w : World) : (Instr.indexAt 118 (.pointer (some ⟨b, 1, none⟩)) (.int .i64 t)).run Tryz.prog w = .ok (.pointer (some ⟨b, 1 + t, none⟩)) w := by
 have ha : Tryz.prog.arrayLen 118 = 121 := by simp [Program.arrayLen]
 have he : Tryz.prog.elem 118 = 37 := by simp [Program.elem]
 rw [run_indexAt_array (P := Tryz.prog) w 118 ⟨b, 1, none⟩ .i64 t (by rw [ha, he]; exact cells_ty), ha, he]
 rw [if_pos (by omega), limit_size]
 simp [Addr.add]
set_option maxRecDepth 100000 in
theorem me1_any (b n : Nat) (l m : List Int) (mb : Addr) (cb : Nat) (bb : Nat) (w0 w : World) (hn : n ≤ 10) (hm : m.length = l.length) (h : Mx w b n l) (hR : Rd w0 mb m) (h1 : w0.cell? ⟨bb, 1, none⟩ = some (.slice (some mb) m.length cb))
  (hb : Below w0.heap.size w0 w) (hle : w0.heap.size ≤ b) : Calls Tryz.prog 132 #[.pointer (some ⟨b, 0, none⟩), .pointer (some ⟨bb, 0, none⟩)] w (Chg w b n (meL l m)) := by
 have HM := Lib.hid (show MSt w b n l w from ⟨h, World.grownBy.refl _ _⟩)
 have KR := Lib.hid (show ∀ x w', MSt w b n x w' → Rd w' mb m from fun x w' hx j hj => hx.old hb hle (hR j hj))
 have c1 : w.cell? ⟨bb, 1, none⟩ = some (.slice (some mb) m.length cb) := kept hb h1
 have HML := Lib.hid hm
 have hl := h.2
 have d2 := dsq_le hn
 obtain ⟨len, hlen⟩ : ∃ len, len = m.length := ⟨_, rfl⟩
 have HLN := Lib.hid hlen
 have hl2 : len ≤ 121 := by omega
 have HLL := Lib.hid (show l.length = (n + 1) * (n + 1) ∧ len = l.length from ⟨hl, by omega⟩)
 rw [← hlen] at c1
 clear hR h1 hb hle hm h hl d2 hlen
 go_enter Tryz.func132, Tryz.ntmps132
 go_wp2_with fail
 clear c1
 go_loopw [8] (fun s wr => ∃ (t : Nat) (x : List Int), t ≤ len ∧ s = .int .i64 t ∧ Hid (x.length = l.length ∧ x = (List.range t).foldl (meS m) l ∧ MSt w b n x wr)) (fun s _ => len - (intOf s).toNat)
 case atStart => exact ⟨0, l, by omega, rfl, Lib.hid ⟨rfl, rfl, HM.out⟩⟩
 case round =>
  obtain ⟨t, x, ht, rfl, HX⟩ := hrel
  by_cases htn : t < len
  · have htx : t < x.length := by rw [HX.out.1, ← HLL.out.2]; exact htn
    obtain ⟨y, hy⟩ : ∃ y, y = Zo.gt m t := ⟨_, rfl⟩
    have c1 : wr.cell? (mb.add t) = some (.int .i64 y) := by rw [hy]; exact KR.out _ _ HX.out.2.2 t (by rw [← HLN.out]; exact htn)
    have D1 := Lib.hid (show wr.drew.cell? ⟨b, 1 + t, none⟩ = some (.int .i64 (Zo.gt x t)) from HX.out.2.2.drew.1.at htx)
    have D3 := Lib.hid (show wr.drew.frozen? ⟨b, 1 + t, none⟩ = false from HX.out.2.2.drew.1.free _)
    have d1 : wr.cell? ⟨b, 1 + t, none⟩ = some (.int .i64 (Zo.gt x t)) := HX.out.2.2.1.at htx
    have HY := Lib.hid hy
    have ST := Lib.hid (HX.out.2.2.drew.put t (imin (Zo.gt x t) y) htx)
    have hm := run_imin (Zo.gt x t) y
    have hpl := run_place b t (by omega)
    clear hy
    go_wp2_with fail
    go_still_tail 13, (by kernel_rfl)
    clear d1
    have d1 := D1.out
    have d3 := D3.out
    change wpList _ _ _ _ _ (World.drew _)
    go_wp2_with fail
    clear hm hpl c1 d1 d3 htx
    go_roundw
    case rel => exact ⟨t + 1, _, by omega, by go_num, Lib.hid ⟨by simpa using HX.out.1, by rw [Zo.fold_succ, ← HX.out.2.1, HY.out]; rfl, ST.out⟩⟩
    case measure => simp [intOf]; omega
  · have HE := Lib.hid (show x = meL l m by rw [HX.out.2.1]; unfold meL; rw [← HLL.out.2, show t = len by omega])
    go_wp2_with fail
    go_end0
    exact ⟨rfl, by rw [← HE.out]; exact HX.out.2.2⟩
theorem enter_me (args : Array Value) (W : World) : (callFunc 132 args).run Tryz.prog W = .ok (.enter 132 args) W := by go_simp
theorem meL_64 {l m : List Int} (h : Zo.A64 l) (g : Zo.A64 m) : Zo.A64 (meL l m) := fold_64 (fun x t hx => by
 unfold meS imin
 refine Zo.gt_range _ _ _ hx ?_
 have := hx t
 have := g t
 omega) h _
set_option maxRecDepth 100000 in
theorem hu1_any (b n : Nat) (l m : List Int) (mb : Addr) (cb : Nat) (bb : Nat) (w0 w : World) (hn : n ≤ 10) (hm : m.length = l.length) (h : Mx w b n l) (hR : Rd w0 mb m) (h1 : w0.cell? ⟨bb, 1, none⟩ = some (.slice (some mb) m.length cb))
  (hb : Below w0.heap.size w0 w) (hle : w0.heap.size ≤ b) : Calls Tryz.prog 164 #[.pointer (some ⟨b, 0, none⟩), .pointer (some ⟨bb, 0, none⟩)] w (Chg w b n (huL l m)) := by
 have HM := Lib.hid (show MSt w b n l w from ⟨h, World.grownBy.refl _ _⟩)
 have KR := Lib.hid (show ∀ x w', MSt w b n x w' → Rd w' mb m from fun x w' hx j hj => hx.old hb hle (hR j hj))
 have c1 : w.cell? ⟨bb, 1, none⟩ = some (.slice (some mb) m.length cb) := kept hb h1
 have HML := Lib.hid hm
 have hl := h.2
 have d2 := dsq_le hn
 obtain ⟨len, hlen⟩ : ∃ len, len = m.length := ⟨_, rfl⟩
 have HLN := Lib.hid hlen
 have hl2 : len ≤ 121 := by omega
 have HLL := Lib.hid (show l.length = (n + 1) * (n + 1) ∧ len = l.length from ⟨hl, by omega⟩)
 rw [← hlen] at c1
 clear hR h1 hb hle hm h hl d2 hlen
 go_enter Tryz.func164, Tryz.ntmps164
 go_wp2_with fail
 clear c1
 go_loopw [8] (fun s wr => ∃ (t : Nat) (x : List Int), t ≤ len ∧ s = .int .i64 t ∧ Hid (x.length = l.length ∧ x = (List.range t).foldl (huS m) l ∧ MSt w b n x wr)) (fun s _ => len - (intOf s).toNat)
 case atStart => exact ⟨0, l, by omega, rfl, Lib.hid ⟨rfl, rfl, HM.out⟩⟩
 case round =>
  obtain ⟨t, x, ht, rfl, HX⟩ := hrel
  by_cases htn : t < len
  · have htx : t < x.length := by rw [HX.out.1, ← HLL.out.2]; exact htn
    obtain ⟨y, hy⟩ : ∃ y, y = Zo.gt m t := ⟨_, rfl⟩
    have c1 : wr.cell? (mb.add t) = some (.int .i64 y) := by rw [hy]; exact KR.out _ _ HX.out.2.2 t (by rw [← HLN.out]; exact htn)
    have D1 := Lib.hid (show wr.drew.cell? ⟨b, 1 + t, none⟩ = some (.int .i64 (Zo.gt x t)) from HX.out.2.2.drew.1.at htx)
    have D3 := Lib.hid (show wr.drew.frozen? ⟨b, 1 + t, none⟩ = false from HX.out.2.2.drew.1.free _)
    have d1 : wr.cell? ⟨b, 1 + t, none⟩ = some (.int .i64 (Zo.gt x t)) := HX.out.2.2.1.at htx
    have HY := Lib.hid hy
    have ST := Lib.hid (HX.out.2.2.drew.put t (imax (Zo.gt x t) y) htx)
    have hm := run_imax (Zo.gt x t) y
    have hpl := run_place b t (by omega)
    clear hy
    go_wp2_with fail
    go_still_tail 13, (by kernel_rfl)
    clear d1
    have d1 := D1.out
    have d3 := D3.out
    change wpList _ _ _ _ _ (World.drew _)
    go_wp2_with fail
    clear hm hpl c1 d1 d3 htx
    go_roundw
    case rel => exact ⟨t + 1, _, by omega, by go_num, Lib.hid ⟨by simpa using HX.out.1, by rw [Zo.fold_succ, ← HX.out.2.1, HY.out]; rfl, ST.out⟩⟩
    case measure => simp [intOf]; omega
  · have HE := Lib.hid (show x = huL l m by rw [HX.out.2.1]; unfold huL; rw [← HLL.out.2, show t = len by omega])
    go_wp2_with fail
    go_end0
    exact ⟨rfl, by rw [← HE.out]; exact HX.out.2.2⟩
theorem enter_hu (args : Array Value) (W : World) : (callFunc 164 args).run Tryz.prog W = .ok (.enter 164 args) W := by go_simp
theorem huL_64 {l m : List Int} (h : Zo.A64 l) (g : Zo.A64 m) : Zo.A64 (huL l m) := fold_64 (fun x t hx => by
 unfold huS imax
 refine Zo.gt_range _ _ _ hx ?_
 have := hx t
 have := g t
 omega) h _
end Go.Proofs.YthjapmdfcbngmaaGreat
