/- The contract of layer 3's And.; The contract of layer 4's reference: Reduce; lists of constraints that a call has made.; Plain mathematics: what is closed, tightened and closed again is what is tightened and closed once.; Plain mathematics: constraints tighten; what Free makes is a zone. -/
import Derived.Test.YtaegiihkgicdnaaGreatWs13
import Derived.Test.YtaegiihkgicdnaaGreatWs15
import Derived.Test.YtaegiihkgicdnaaGreatWs9

namespace Go.Proofs.YtaegiihkgicdnaaGreat
open Go.RowKit

theorem MSt.alloc {w0 w : World} {b n : Nat} {l : List Int} (h : MSt w0 b n l w) (o : Obj) : MSt w0 b n l (w.alloc o) := ⟨h.1.alloc o, grown_trans h.2 (World.grownBy_alloc w o _)⟩

theorem MSt.old {w0 w w' : World} {b n : Nat} {x : List Int} (hb : Below w0.heap.size w0 w) (hle : w0.heap.size ≤ b) (h : MSt w b n x w') {p : Addr} {v : Value} (hp : w0.cell? p = some v) : w'.cell? p = some v := by
  have hlt := World.block_lt_of_cell? w0 _ hp
  exact h.2.cell (kept hb hp) (by simp; omega)

theorem Rd3.mst {w0 w w' : World} {b n : Nat} {x : List Int} {d : Addr} {cs : List Con} (hR : Rd3 w0 d cs) (hb : Below w0.heap.size w0 w) (hle : w0.heap.size ≤ b) (h : MSt w b n x w') : Rd3 w' d cs :=
  fun j hj => ⟨h.old hb hle (hR j hj).1, h.old hb hle (hR j hj).2.1, h.old hb hle (hR j hj).2.2⟩

set_option maxRecDepth 100000 in
set_option maxHeartbeats 4000000 in
theorem and2_any (b n : Nat) (l : List Int) (cs : List Con) (dao : Option Addr) (dc : Nat) (lb : Addr) (w0 w : World) (hn : n ≤ 10) (hD : Arg3 w0 dao cs) (hdl : cs.length ≤ 1000) (hok : ∀ k, k < cs.length → okC n (gc cs k) = true)
    (hlb : w0.cell? lb = some (.slice dao cs.length dc)) (hb : Below w0.heap.size w0 w) (hle : w0.heap.size ≤ b) (h : Mx w b n l) :
    Calls Tryz.prog 184 #[.pointer (some ⟨b, 0, none⟩), .pointer (some lb)] w (Chg w b n (anL n cs l)) := by
  have hd : ∃ d, (cs ≠ [] → dao = some d) ∧ Rd3 w0 d cs := by
    by_cases he : cs = []
    · exact ⟨⟨0, 0, none⟩, fun h => absurd he h, by rw [he]; intro j hj; simp at hj⟩
    · obtain ⟨d, h2, h3⟩ := hD he
      exact ⟨d, fun _ => h2, h3⟩
  obtain ⟨d, hdo, hR⟩ := hd
  have KR := Lib.hid (show ∀ x w', MSt w b n x w' → Rd3 w' d cs from fun x w' hm => hR.mst hb hle hm)
  have HM := Lib.hid (show MSt w b n l w from ⟨h, World.grownBy.refl _ _⟩)
  have c0 : w.cell? lb = some (.slice dao cs.length dc) := kept hb hlb
  have HLL := Lib.hid h.2
  have OK := Lib.hid hok
  obtain ⟨len, hlen⟩ : ∃ len, len = cs.length := ⟨_, rfl⟩
  have HL := Lib.hid hlen
  have hz : ∀ t : Nat, t < len → dao = some d := fun t ht => hdo (by intro e; rw [e] at hlen; simp at hlen; omega)
  have hl2 : len ≤ 1000 := by omega
  rw [← hlen] at c0
  clear hlen hR hD hdl hdo hok hlb hb hle h
  go_enter Tryz.func184, Tryz.ntmps184
  go_wp2_with fail
  clear c0
  go_loopw [7] (fun s wr => ∃ (t : Nat) (x : List Int), t ≤ len ∧ s = .int .i64 t ∧ Hid (x.length = (n + 1) * (n + 1) ∧ x = (List.range t).foldl (anS n cs) l ∧ MSt w b n x wr)) (fun s _ => len - (intOf s).toNat)
  case atStart => exact ⟨0, l, by omega, rfl, Lib.hid ⟨HLL.out, rfl, HM.out⟩⟩
  case round =>
    obtain ⟨t, x, ht, rfl, HX⟩ := hrel
    by_cases htn : t < len
    · obtain rfl := hz t htn
      obtain ⟨c0, c1, c2⟩ := (KR.out _ _ HX.out.2.2) t (by rw [← HL.out]; exact htn)
      obtain ⟨c, hc⟩ : ∃ c, c = gc cs t := ⟨_, rfl⟩
      have hok := OK.out t (by rw [← HL.out]; exact htn)
      rw [← hc] at c0 c1 c2 hok
      have HC := Lib.hid hc
      unfold okC at hok
      simp only [Bool.and_eq_true, decide_eq_true_eq] at hok
      obtain ⟨⟨i1, i2, j1, j2⟩, _⟩ := hok
      obtain ⟨ci, cj, cl⟩ := c
      simp only at i1 i2 j1 j2 c0 c1 c2
      obtain ⟨i, rfl⟩ := Int.eq_ofNat_of_zero_le i1
      obtain ⟨j, rfl⟩ := Int.eq_ofNat_of_zero_le j1
      have TT := Lib.hid (fun (w' : World) (h : MSt w b n x w') => tighten_st (i := i) (j := j) cl hn (by omega) (by omega) h)
      have HS := Lib.hid (show anS n cs x t = x.set (Zo.ix n i j) (imin (Zo.At n x i j) cl) by unfold anS; rw [← HC.out]; rfl)
      clear hc
      go_wp2_with fail
      refine (TT.out _ (HX.out.2.2.alloc _)).mono ?_
      rintro e w1 ⟨rfl, hm⟩
      have HM1 := Lib.hid hm
      clear hm c0 c1 c2
      go_wp2_with fail
      go_roundw
      case rel => exact ⟨t + 1, _, by omega, by go_num, Lib.hid ⟨by simpa using HX.out.1, by rw [Zo.fold_succ, ← HX.out.2.1, HS.out], HM1.out⟩⟩
      case measure => simp [intOf]; omega
    · have HE := Lib.hid (show x = anL n cs l by rw [HX.out.2.1]; unfold anL; rw [← HL.out, show t = len by omega])
      go_wp2_with fail
      go_end0
      exact ⟨rfl, by rw [← HE.out]; exact HX.out.2.2⟩

theorem enter_an (args : Array Value) (W : World) : (callFunc 184 args).run Tryz.prog W = .ok (.enter 184 args) W := by go_simp

theorem aok_nat {n : Nat} {cs : List Con} : aokB n cs = cs.all (okC n) := by
  unfold aokB; congr 1; funext c; exact okZ_nat n c

theorem anL_64 {n : Nat} {cs : List Con} {l : List Int} (h : Zo.A64 l) (hok : cs.all (okC n) = true) : Zo.A64 (anL n cs l) := by
  unfold anL
  refine Zo.fold_keeps (R := Zo.A64) cs.length (fun x t ht hx => ?_) l h _ (Nat.le_refl _)
  unfold anS imin
  refine hx.min_ _ _ _ _ ?_ _
  rw [List.all_eq_true] at hok
  have := hok _ (List.getElem_mem ht)
  rw [show cs[t] = gc cs t by simp [gc, ht]] at this
  unfold okC at this
  simp only [Bool.and_eq_true] at this
  have := vl_of_lv this.2
  unfold Zo.Vl at this
  omega

theorem ch_an (N : Int) (l : List Int) (ao : Option Addr) (cap : Nat) (cs : List Con) (dao : Option Addr) (dc : Nat) (lb : Addr) (w : World) (hA : Arg w ao l) (hD : Arg3 w dao cs) (hdl : cs.length ≤ 1000) (hlb : w.cell? lb = some (.slice dao cs.length dc)) :
    Calls Tryz.prog 108 #[.agg #[.int .i64 N, .slice ao l.length cap], .bool (aokB N cs), .func (.func 184) #[] #[.pointer (some lb)]] w (ZRes w N (Zo.clo N.toNat (anL N.toNat cs l)) (anG N cs l)) := by
  by_cases hc : chkE N l = 0
  · obtain ⟨n, rfl, hn, hl, hne⟩ := chk_ok hc
    cases hk : aokB n cs
    · refine (changed_bad n l ao cap false _ w hA (Or.inr rfl)).mono fun e w' h => h.bad ?_
      unfold anG anE; rw [if_pos hc]
      rw [aok_nat] at hk
      simp only [Int.toNat_natCast]
      rw [hk]; rfl
    · have hk2 := hk
      rw [aok_nat] at hk2
      have := changed_ok n l (anL n cs l) ao cap 184 #[.pointer (some lb)] w hA hn hl hc (anL_64 (chk_64 hc).1 hk2) enter_an (fun W b hb hle hM => and2_any b n l cs dao dc lb w W hn hD hdl (fun k hk' => by
        rw [List.all_eq_true] at hk2
        have := hk2 _ (List.getElem_mem hk')
        rwa [show cs[k] = gc cs k by simp [gc, hk']] at this) hlb hb hle hM)
      rw [show anG (n : Int) cs l = cloE n (anL n cs l) by unfold anG anE; rw [if_pos hc]; simp only [Int.toNat_natCast]; rw [hk2]; rfl]
      exact this
  · refine (changed_bad N l ao cap _ _ w hA (Or.inl (by unfold okB; simpa using hc))).mono fun e w' h => h.bad ?_
    unfold anG; rw [if_neg hc]

set_option maxRecDepth 100000 in
set_option maxHeartbeats 4000000 in
theorem zan_gen (N : Int) (l : List Int) (ao : Option Addr) (cap : Nat) (cs : List Con) (dao : Option Addr) (dc : Nat) (w : World) (hA : Arg w ao l) (hD : Arg3 w dao cs) (hdl : cs.length ≤ 1000) :
    Calls Tryz.prog 159 #[.agg #[.int .i64 N, .slice ao l.length cap], .slice dao cs.length dc] w (ZRes w N (Zo.clo N.toNat (anL N.toNat cs l)) (anG N cs l)) := by
  have CH := Lib.hid (show ∀ W lb, Below w.heap.size w W → W.cell? lb = some (.slice dao cs.length dc) → _ from fun W lb h hp => ch_an N l ao cap cs dao dc lb W (hA.on h) (hD.on h) hdl hp)
  have CT := Lib.hid (show ∀ W pb, Below w.heap.size w W → W.cell? ⟨pb, 0, none⟩ = some (.int .i64 N) → W.cell? ⟨pb, 1, none⟩ = some (.slice ao l.length cap) → _ from fun W pb h hp hq => contains_any N (.slice ao l.length cap) pb cs dao dc W (hD.on h) hdl hp hq)
  generalize Zo.clo N.toNat (anL N.toNat cs l) = r at *
  generalize anG N cs l = er at *
  generalize aokB N cs = ck at *
  generalize l.length = len at *
  generalize cs.length = clen at *
  obtain ⟨w0, hw0⟩ : ∃ w0, w0 = ((w.alloc (.cells #[.int .i64 N, .slice ao len cap] 36)).alloc (.cells #[.slice dao clen dc] 104)).alloc (.cells #[.int .i64 0, .slice none 0 0] 36) := ⟨_, rfl⟩
  have b0 : w0.cell? ⟨w.heap.size, 0, none⟩ = some (.int .i64 N) := by rw [hw0]; go_simp
  have b1 : w0.cell? ⟨w.heap.size, 1, none⟩ = some (.slice ao len cap) := by rw [hw0]; go_simp
  have b2 : w0.cell? ⟨w.heap.size + 1, 0, none⟩ = some (.slice dao clen dc) := by rw [hw0]; go_simp
  have rs : Two w0 (w.heap.size + 1 + 1) (.int .i64 0) (.slice none 0 0) := by
    rw [hw0]
    have := Two.made ((w.alloc (.cells #[.int .i64 N, .slice ao len cap] 36)).alloc (.cells #[.slice dao clen dc] 104)) (.int .i64 0) (.slice none 0 0) 36
    simpa using this
  have z0 : w0.heap.size = w.heap.size + 3 := by rw [hw0]; simp
  have E0 := Lib.hid (show Below w.heap.size w w0 by rw [hw0]; exact past_three (Below.refl _ _))
  have KS := Lib.hid (show ∀ w' : World, Below w0.heap.size w0 w' → w'.cell? ⟨w.heap.size, 0, none⟩ = some (.int .i64 N) ∧ w'.cell? ⟨w.heap.size, 1, none⟩ = some (.slice ao len cap) ∧ w'.cell? ⟨w.heap.size + 1, 0, none⟩ = some (.slice dao clen dc) from fun w' h => ⟨kept h b0, kept h b1, kept h b2⟩)
  have HRS := Lib.hid rs
  clear hA hD hdl rs
  go_enter Tryz.func159, Tryz.ntmps159
  go_wp2_with fail
  rw [← hw0]
  clear hw0
  refine (CT.out _ _ E0.out b0 b1).mono ?_
  rintro e w1 ⟨rfl, hb1⟩
  clear b0 b1 b2
  obtain ⟨b0, b1, b2⟩ := KS.out _ hb1
  have B1 := Lib.hid hb1
  clear hb1
  go_wp2_with fail
  refine (CH.out _ _ (below_on E0.out B1.out) b2).mono ?_
  intro e w4 hG
  obtain ⟨hb4, hres⟩ := hG
  have HB4 := Lib.hid (below_on B1.out hb4)
  obtain ⟨q0, q1, q2, q3⟩ := (HRS.out.kept HB4.out).facts
  have h1s := B1.out.size
  clear b0 b1 b2
  rcases hres with ⟨he, g, c, rfl, hgl, hO⟩ | ⟨he, rfl⟩
  · have HO := Lib.hid hO
    subst he
    clear hO hb4
    go_wp2_with fail
    refine bodyPost_ret (v := .tuple #[.agg #[.int .i64 N, .slice (some ⟨g, 0, none⟩) r.length c], .int .i64 0]) (by simp [results, Tryz.results159, go_sem, q0, q1]) rfl (zres_over E0.out HB4.out HO.out (by omega) (by omega) (by omega) _ _)
  · have HEE := Lib.hid he
    clear he hb4
    go_wp2_with fail
    refine bodyPost_ret (v := .tuple #[.agg #[.int .i64 0, .slice none 0 0], .int .i64 er]) (by simp [results, Tryz.results159, go_sem, q0, q1]) rfl (zres_over0 E0.out HB4.out HEE.out (by omega) _ _)
end Go.Proofs.YtaegiihkgicdnaaGreat

namespace Go.Proofs.YtaegiihkgicdnaaGreat
open Go.RowKit

def conV (cs : List Con) : List Value := cs.flatMap fun c => [.int .i64 c.1, .int .i64 c.2.1, .int .i64 c.2.2]

theorem conV_app (cs : List Con) (i j x : Int) : conV (cs ++ [(i, j, x)]) = conV cs ++ [.int .i64 i, .int .i64 j, .int .i64 x] := by unfold conV; rw [List.flatMap_append]; rfl

theorem conV_at (cs : List Con) (k : Nat) (hk : k < cs.length) : (conV cs)[k * 3]? = some (.int .i64 (gc cs k).1) ∧ (conV cs)[k * 3 + 1]? = some (.int .i64 (gc cs k).2.1) ∧ (conV cs)[k * 3 + 2]? = some (.int .i64 (gc cs k).2.2) := by
  induction cs generalizing k with
  | nil => simp at hk
  | cons c cs ih =>
    cases k with
    | zero => exact ⟨rfl, rfl, rfl⟩
    | succ k =>
      have := ih k (by simp at hk; omega)
      have e : conV (c :: cs) = [.int .i64 c.1, .int .i64 c.2.1, .int .i64 c.2.2] ++ conV cs := rfl
      have g : gc (c :: cs) (k + 1) = gc cs k := by simp [gc]
      rw [e, g, show (k + 1) * 3 = k * 3 + 3 by omega]
      refine ⟨?_, ?_, ?_⟩
      · rw [List.getElem?_append_right (by simp)]; exact this.1
      · rw [List.getElem?_append_right (by simp)]; simpa using this.2.1
      · rw [List.getElem?_append_right (by simp)]; simpa using this.2.2

def OwnC (w : World) (B : Nat) (v : Value) (cs : List Con) : Prop := w.ownsRow B 110 3 v cs.length (conV cs)

theorem OwnC.nil (w : World) (B : Nat) : OwnC w B (.slice none 0 0) [] := World.ownsRow_nil w B _ _

theorem OwnC.on {w w' : World} {B : Nat} {v : Value} {cs : List Con} (h : OwnC w B v cs) (hb : Below w.heap.size w w') : OwnC w' B v cs := by
  have hg : w.grownBy w' none := ⟨hb.os, hb.tape, hb.output, hb.size, fun k hk _ => hb.block k hk⟩
  exact World.ownsRow.kept h hg (by cases v.ownBlock <;> simp)

theorem OwnC.arg {w : World} {B : Nat} {v : Value} {cs : List Con} (h : OwnC w B v cs) : ∃ ao cap, v = .slice ao cs.length cap ∧ Arg3 w ao cs := by
  rcases h.2 with ⟨rfl, hn⟩ | ⟨g, cap, cur, rfl, hb, hg, hc, hm, hsz, htake⟩
  · exact ⟨none, 0, by rw [hn], fun hne => absurd (List.eq_nil_of_length_eq_zero hn) hne⟩
  · refine ⟨_, cap, rfl, fun _ => ⟨⟨g, 0, none⟩, rfl, fun j hj => ?_⟩⟩
    have hc := World.ownsRow.cellAt (g := g) (cap := cap) h
    obtain ⟨c0, c1, c2⟩ := conV_at cs j hj
    refine ⟨?_, ?_, ?_⟩
    · rw [addr_add]; exact (hc (j * 3) (by omega)).trans c0
    · rw [addr_add]; exact (hc (j * 3 + 1) (by omega)).trans c1
    · rw [addr_add]; exact (hc (j * 3 + 2) (by omega)).trans c2

theorem OwnC.low {w : World} {B B' : Nat} {v : Value} {cs : List Con} (h : OwnC w B v cs) (hb : B' ≤ B) : OwnC w B' v cs := by
  refine ⟨h.1, ?_⟩
  rcases h.2 with c | ⟨g, cap, cur, h1, h2, h3⟩
  · exact Or.inl c
  · exact Or.inr ⟨g, cap, cur, h1, by omega, h3⟩

def CRes (w : World) (cs : List Con) (er : Int) (e : Ending) (w' : World) : Prop :=
  Below w.heap.size w w' ∧ ∃ v, e = .returned (.tuple #[v, .int .i64 er]) ∧ OwnC w' w.heap.size v cs

theorem cells_three {w w' : World} (x y z : Value) (t : TypeId) (hw : w' = w.alloc (.cells #[x, y, z] t)) : ∀ j u, ([x, y, z] : List Value)[j]? = some u → w'.cell? ((⟨w.heap.size, 0, none⟩ : Addr).add j) = some u := by
  subst hw
  intro j u hu
  rw [addr_add]
  match j, hu with
  | 0, hu => simp at hu; subst hu; go_simp
  | 1, hu => simp at hu; subst hu; go_simp
  | 2, hu => simp at hu; subst hu; go_simp

def redT (n : Nat) (l : List Int) (i t : Nat) : List Con := (List.range t).flatMap fun j => if kpB n l i j then [((i : Int), (j : Int), Zo.At n l i j)] else []

def redS (n : Nat) (l : List Int) (t : Nat) : List Con := (List.range t).flatMap fun i => redT n l i (n + 1)

def redL (n : Nat) (l : List Int) : List Con := redS n l (n + 1)

theorem redT_no {n i t : Nat} {l : List Int} (h : kpB n l i t = false) : redT n l i (t + 1) = redT n l i t := by
  unfold redT; rw [List.range_succ, List.flatMap_append]; simp [h]

theorem redT_yes {n i t : Nat} {l : List Int} (h : kpB n l i t = true) : redT n l i (t + 1) = redT n l i t ++ [((i : Int), (t : Int), Zo.At n l i t)] := by
  unfold redT; rw [List.range_succ, List.flatMap_append]; simp [h]

theorem redS_succ (n : Nat) (l : List Int) (t : Nat) : redS n l (t + 1) = redS n l t ++ redT n l t (n + 1) := by
  unfold redS; rw [List.range_succ, List.flatMap_append]; simp

theorem flat_le {α : Type} (f : Nat → List α) (b : Nat) (hf : ∀ i, (f i).length ≤ b) (t : Nat) : ((List.range t).flatMap f).length ≤ t * b := by
  induction t with
  | zero => simp
  | succ t ih =>
    rw [List.range_succ, List.flatMap_append, List.length_append]
    have := hf t
    simp only [List.flatMap_cons, List.flatMap_nil, List.append_nil]
    rw [Nat.add_mul]; omega

theorem redT_len (n : Nat) (l : List Int) (i t : Nat) : (redT n l i t).length ≤ t := by
  have := flat_le (fun j => if kpB n l i j then [((i : Int), (j : Int), Zo.At n l i j)] else []) 1 (fun j => by split <;> simp) t
  unfold redT; omega

theorem redS_len (n : Nat) (l : List Int) (t : Nat) : (redS n l t).length ≤ t * (n + 1) := flat_le _ _ (fun i => redT_len n l i (n + 1)) t

theorem redL_le {n : Nat} {l : List Int} (hn : n ≤ 10) : (redL n l).length ≤ 121 := by
  have := redS_len n l (n + 1)
  have : (n + 1) * (n + 1) ≤ 11 * 11 := Nat.mul_le_mul (by omega) (by omega)
  unfold redL; omega

theorem con_info : (Tryz.prog.info? 110).map (fun i => (i.zero, i.size, i.bytes)) = some (some (.agg #[.int .i64 0, .int .i64 0, .int .i64 0]), 3, 24) := by kernel_rfl

theorem rkept_len {n : Nat} {l : List Int} {a : Addr} {cap len : Nat} {w : World} (hn : n ≤ 10) (hl : l.length = (n + 1) * (n + 1)) (h : Rd w a l) (hlen : len = l.length) :
    ∀ (i j : Nat) (W : World), i ≤ n → j ≤ n → Below w.heap.size w W → Calls Tryz.prog 137 #[.agg #[.int .i64 n, .slice (some a) len cap], .int .i64 i, .int .i64 j] W (Made (.bool (kpB n l i j)) W) := by
  intro i j W hi hj h'
  have := rkept_any n i j l a cap W hn hi hj hl (h.on h')
  rw [← hlen] at this; exact this

set_option maxHeartbeats 3200000 in
theorem rreduce_any (n : Nat) (l : List Int) (a : Addr) (cap : Nat) (w : World) (hn : n ≤ 10) (hl : l.length = (n + 1) * (n + 1)) (hc : chkE n l = 0) (h : Rd w a l) :
    Calls Tryz.prog 99 #[.agg #[.int .i64 n, .slice (some a) l.length cap]] w (CRes w (redL n l) 0) := by
  obtain ⟨len, hlen⟩ : ∃ len, len = l.length := ⟨_, rfl⟩
  obtain ⟨i0, hi, hz0, hz1, hz2⟩ := info_parts con_info
  have AT := Lib.hid (mrat_len (cap := cap) hn hl h hlen)
  have KP := Lib.hid (rkept_len (cap := cap) hn hl h hlen)
  have CK := Lib.hid (show ∀ W, Below w.heap.size w W → Calls Tryz.prog 39 #[.agg #[.int .i64 n, .slice (some a) len cap]] W (Made (.int .i64 0) W) from fun W h' => by have := check_any n l a cap W hn hl (h.on h'); rw [hc, ← hlen] at this; exact this)
  rw [← hlen]
  obtain ⟨w0, hw0, e0, ks⟩ := zbox n a len cap w
  have KS := Lib.hid ks
  have E0 := Lib.hid e0
  have HW0 := Lib.hid hw0
  obtain ⟨b0, b1⟩ := ks w0 (Below.refl _ _)
  have RL := Lib.hid (show redS n l (n + 1) = redL n l from rfl)
  clear ks e0 hw0 hlen hl h hc
  go_enter Tryz.func99, Tryz.ntmps99
  go_wp2_with fail
  rw [← HW0.out]
  go_wp2_with fail
  refine (CK.out _ E0.out).mono ?_
  rintro e w1 ⟨rfl, hb1⟩
  have B1 := Lib.hid hb1
  have BH := Lib.hid (show Below w.heap.size w w1 from below_on E0.out hb1)
  clear hb1 b0 b1
  go_wp2_with fail
  go_loopw [4, 5] (fun v s wr => ∃ (t : Nat) (cs : List Con), t ≤ n + 1 ∧ s = .int .i64 t ∧ Hid (cs = redS n l t ∧ OwnC wr w0.heap.size v cs ∧ Below w0.heap.size w0 wr)) (fun _ s _ => n + 1 - (intOf s).toNat)
  case atStart => exact ⟨0, [], by omega, rfl, Lib.hid ⟨rfl, OwnC.nil _ _, B1.out⟩⟩
  case round =>
    obtain ⟨t, cs, ht, rfl, HX⟩ := hrel
    obtain ⟨b0, b1⟩ := KS.out _ HX.out.2.2
    by_cases htn : t ≤ n
    · go_wp2_with fail
      clear b0 b1
      go_loopw [4, 6] (fun v s wx => ∃ (j : Nat) (ds : List Con), j ≤ n + 1 ∧ s = .int .i64 j ∧ Hid (ds = redS n l t ++ redT n l t j ∧ OwnC wx w0.heap.size v ds ∧ Below w0.heap.size w0 wx)) (fun _ s _ => n + 1 - (intOf s).toNat)
      case atStart => exact ⟨0, cs, by omega, rfl, Lib.hid ⟨by rw [HX.out.1]; simp [redT], HX.out.2.1, HX.out.2.2⟩⟩
      case round =>
        obtain ⟨j, ds, hj, rfl, HY⟩ := hrel
        obtain ⟨b0, b1⟩ := KS.out _ HY.out.2.2
        by_cases hjn : j ≤ n
        · cases hkp : kpB n l t j
          · have HK := Lib.hid hkp
            clear hkp
            go_wp2_with fail
            refine (made_as (KP.out t j _ htn hjn (below_on E0.out HY.out.2.2)) HK.out).mono ?_
            rintro e w2 ⟨rfl, hb2⟩
            have HZ := Lib.hid (show ds = redS n l t ++ redT n l t (j + 1) ∧ OwnC w2 w0.heap.size _ ds ∧ Below w0.heap.size w0 w2 from ⟨by rw [redT_no HK.out]; exact HY.out.1, HY.out.2.1.on hb2, below_on HY.out.2.2 hb2⟩)
            clear hb2 b0 b1
            go_wp2_with fail
            go_roundw
            case rel => exact ⟨j + 1, ds, by omega, by go_num, HZ⟩
            case measure => simp [intOf]; omega
          · have HK := Lib.hid hkp
            obtain ⟨x, hx⟩ : ∃ x, x = Zo.At n l t j := ⟨_, rfl⟩
            have HXX := Lib.hid hx
            have A1 := Lib.hid (show ∀ W, Below w.heap.size w W → Calls Tryz.prog 138 #[.agg #[.int .i64 n, .slice (some a) len cap], .int .i64 t, .int .i64 j] W (Made (.int .i64 x) W) from fun W h' => by rw [hx]; exact AT.out t j W htn hjn h')
            clear hkp hx
            go_wp2_with fail
            refine (made_as (KP.out t j _ htn hjn (below_on E0.out HY.out.2.2)) HK.out).mono ?_
            rintro e w2 ⟨rfl, hb2⟩
            have B2 := Lib.hid hb2
            clear hb2 b0 b1
            obtain ⟨b0, b1⟩ := KS.out _ (below_on HY.out.2.2 B2.out)
            go_wp2_with fail
            refine (A1.out _ (below_on E0.out (below_on HY.out.2.2 B2.out))).mono ?_
            rintro e w3 ⟨rfl, hb3⟩
            have HZ := Lib.hid (show Below w0.heap.size w0 w3 from below_on (below_on HY.out.2.2 B2.out) hb3)
            have hown := (HY.out.2.1.on B2.out).on hb3
            have hdl : ds.length ≤ 1000 := by
              rw [HY.out.1, List.length_append]
              have := redS_len n l t
              have := redT_len n l t j
              have : t * (n + 1) ≤ 10 * 11 := Nat.mul_le_mul (by omega) (by omega)
              omega
            have hsz : w0.heap.size ≤ w3.heap.size := HZ.out.size
            clear hb3 b0 b1
            go_wp2_with (at_builtin; refine wpList_append_own _ rfl _ _ 104 rfl w0.heap.size 110 i0 (.agg #[.int .i64 0, .int .i64 0, .int .i64 0]) 3 24 Tryz.underlying104 hi hz0 hz1 hz2 rfl (by decide) _ _ _ rfl (World.ownsRow.alloc hown _) ⟨w3.heap.size, 0, none⟩ 1 1 [.int .i64 t, .int .i64 j, .int .i64 x] rfl rfl (cells_three _ _ _ _ rfl) (by simp [Value.oneCell']) (by unfold maxLen; omega) (by omega) (by simp; omega) ?_)
            intro v' w4 hown4 hgrow _
            have HZ4 := Lib.hid (show Below w0.heap.size w0 w4 from Below.grown (HZ.out.alloc HZ.out.size _) hgrow (by simp; omega) (fun k hk => (World.ownsRow.lt hown k hk).1))
            have HW := Lib.hid (show ds ++ [((t : Int), (j : Int), x)] = redS n l t ++ redT n l t (j + 1) ∧ OwnC w4 w0.heap.size v' (ds ++ [((t : Int), (j : Int), x)]) ∧ Below w0.heap.size w0 w4 from
              ⟨by rw [redT_yes HK.out, HY.out.1, HXX.out, List.append_assoc], by unfold OwnC; rw [conV_app, List.length_append]; exact hown4, HZ4.out⟩)
            clear hown4 hgrow hown hdl hsz
            go_wp2_with fail
            go_roundw
            case rel => exact ⟨j + 1, _, by omega, by go_num, HW⟩
            case measure => simp [intOf]; omega
        · have HE := Lib.hid (show ds = redS n l (t + 1) ∧ OwnC _ w0.heap.size _ ds ∧ Below w0.heap.size w0 _ from ⟨by rw [HY.out.1, redS_succ, show j = n + 1 by omega], HY.out.2⟩)
          go_wp2_with fail
          go_roundw
          case rel => exact ⟨t + 1, ds, by omega, by go_num, HE⟩
          case measure => simp [intOf]; omega
    · have HE := Lib.hid (show cs = redL n l by rw [HX.out.1, ← RL.out, show t = n + 1 by omega])
      go_wp2_with fail
      go_ret2
      exact ⟨below_on E0.out HX.out.2.2, _, rfl, by rw [← HE.out]; exact OwnC.low HX.out.2.1 E0.out.size⟩
end Go.Proofs.YtaegiihkgicdnaaGreat

namespace Go.Proofs.YtaegiihkgicdnaaGreat.Zo

end Go.Proofs.YtaegiihkgicdnaaGreat.Zo

namespace Go.Proofs.YtaegiihkgicdnaaGreat
open Go.RowKit

theorem chk_tri {n : Nat} {l : List Int} (h : chkE n l = 0) : ∀ i j k, i ≤ n → j ≤ n → k ≤ n → Zo.At n l i j ≤ Zo.smW (Zo.At n l i k) (Zo.At n l k j) := by
  have hc : chkB n l = true := by
    unfold chkE at h
    cases e : chkB n l
    · rw [e] at h; simp at h
    · rfl
  unfold chkB at hc
  simp only [Bool.and_eq_true, Int.toNat_natCast] at hc
  have h2 := chk2_iff.1 hc.2
  intro i j k hi hj hk
  have := h2 i (by omega) j (by omega) k (by omega)
  unfold okT at this
  simpa using this

def mk (n : Nat) (G : Nat → Nat → Int) : List Int := (List.range ((n + 1) * (n + 1))).map fun k => G (k / (n + 1)) (k % (n + 1))

theorem smW_no (a : Int) : Zo.smW a 1099511627776 = 1099511627776 := by unfold Zo.smW; rw [if_pos (Or.inr rfl)]

theorem no_smW (a : Int) : Zo.smW 1099511627776 a = 1099511627776 := by unfold Zo.smW; rw [if_pos (Or.inl rfl)]

end Go.Proofs.YtaegiihkgicdnaaGreat
