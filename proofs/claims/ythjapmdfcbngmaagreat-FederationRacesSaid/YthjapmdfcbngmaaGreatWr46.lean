/- A part. -/
import Derived.Test.YthjapmdfcbngmaaGreatWr45
import Derived.Test.YthjapmdfcbngmaaGreatWr39
import Derived.Test.YthjapmdfcbngmaaGreatWr20
import Derived.Test.YthjapmdfcbngmaaGreatWr43
import Derived.Test.YthjapmdfcbngmaaGreatWr11
import Derived.Test.YthjapmdfcbngmaaGreatWr40
import Derived.Test.YthjapmdfcbngmaaGreatWr9
namespace Go.Proofs.YthjapmdfcbngmaaGreat
set_option maxHeartbeats 8000000
open Go.RowKit
def Gd (x : Dl) : Prop := vldB x.ln x.ld = true ∧ (x.nh = false → vldB x.hn x.hd = true)
theorem vld_eq {n d m c : Int} (h : vldB n d = true) (k : vldB m c = true) (e : n * c = m * d) : n = m ∧ d = c := by
 have q := vld_pos k
 have h1 := mk_is (a := m) (b := c) h (by omega) e
 have h2 := mk_self k
 exact ⟨h1.1.symm.trans h2.1, h1.2.1.symm.trans h2.2.1⟩
theorem sh_seven {n d c : Int} (h : vldB n d = true) (e : shE n d c ≠ 0) : shE n d c = 7 := by
 have p := vld_pos h
 unfold shE opErr at e ⊢
 rw [h] at e ⊢
 simp only [if_true] at e ⊢
 exact (mk_zero (by omega) e).2.2
theorem sh_vld {n d c : Int} (h : vldB n d = true) (e : shE n d c = 0) : vldB (shN n d c) (shD n d c) = true := (sh_sc (D := d) (N := n) ⟨h, rfl⟩ e).vld
theorem cmK_vld {n d m c : Int} (h : vldB n d = true) (k : vldB m c = true) : (cmK n d m c < 0 ↔ n * c < m * d) ∧ (cmK n d m c = 0 ↔ n * c = m * d) ∧ (0 < cmK n d m c ↔ m * d < n * c) := by
 unfold cmK
 rw [h, k]
 simp only [Bool.and_self, if_true]
 generalize n * c = x
 generalize m * d = y
 rcases sgn_three x y with ⟨a, b⟩ | ⟨a, b⟩ | ⟨a, b⟩ <;> rw [a] <;> omega
theorem lsB_vld {n d m c : Int} (h : vldB n d = true) (k : vldB m c = true) (e : Bool) : lsB n d m c e = (decide (n * c < m * d) || (decide (n * c = m * d) && e)) := by
 unfold lsB
 rw [h, k]
 rfl
theorem moL_same {x : Dl} {p q : Int} {o : Bool} (hx : Gd x) (v : vldB p q = true) : moL x p q o = (if x.nh || lsB p q x.hn x.hd o then { x with hn := p, hd := q, ho := o, nh := false } else x) ∧ Gd (if x.nh || lsB p q x.hn x.hd o then { x with hn := p, hd := q, ho := o, nh := false } else x) := by
 refine ⟨?_, ?_⟩
 · obtain ⟨ln, ld, hn, hd, lo, ho, nh⟩ := x
   cases nh
   · have hv : vldB hn hd = true := hx.2 rfl
     obtain ⟨c1, c2, c3⟩ := cmK_vld v hv
     have L := lsB_vld v hv o
     by_cases a : p * hd < hn * q
     · have A : cmK p q hn hd < 0 := c1.2 a
       have B : lsB p q hn hd o = true := by rw [L]; simp [a]
       simp [moL, A, B]
     · have A : ¬ cmK p q hn hd < 0 := fun y => a (c1.1 y)
       by_cases b : p * hd = hn * q
       · have Z : cmK p q hn hd = 0 := c2.2 b
         have B : lsB p q hn hd o = o := by rw [L]; simp [b]
         obtain ⟨rfl, rfl⟩ := vld_eq v hv b
         cases o <;> simp [moL, Z, B]
       · have Z : ¬ cmK p q hn hd = 0 := fun y => b (c2.1 y)
         have B : lsB p q hn hd o = false := by rw [L]; simp [a, b]
         simp [moL, A, Z, B]
   · simp [moL]
 · split
   · exact ⟨hx.1, fun _ => v⟩
   · exact hx
theorem leL_same {x : Dl} {p q : Int} {o : Bool} (hx : Gd x) (v : vldB p q = true) : leL x p q o = (if lsB x.ln x.ld p q o then { x with ln := p, ld := q, lo := o } else x) ∧ Gd (if lsB x.ln x.ld p q o then { x with ln := p, ld := q, lo := o } else x) := by
 refine ⟨?_, ?_⟩
 · obtain ⟨ln, ld, hn, hd, lo, ho, nh⟩ := x
   have hv : vldB ln ld = true := hx.1
   obtain ⟨c1, c2, c3⟩ := cmK_vld v hv
   have L := lsB_vld hv v o
   by_cases a : ln * q < p * ld
   · have A : 0 < cmK p q ln ld := c3.2 a
     have B : lsB ln ld p q o = true := by rw [L]; simp [a]
     simp [leL, A, B]
   · have A : ¬ 0 < cmK p q ln ld := fun y => a (c3.1 y)
     by_cases b : ln * q = p * ld
     · have Z : cmK p q ln ld = 0 := c2.2 b.symm
       have B : lsB ln ld p q o = o := by rw [L]; simp [b]
       obtain ⟨rfl, rfl⟩ := vld_eq hv v b
       cases o <;> simp [leL, Z, B]
     · have Z : ¬ cmK p q ln ld = 0 := fun y => b (c2.1 y).symm
       have B : lsB ln ld p q o = false := by rw [L]; simp [a, b]
       simp [leL, A, Z, B]
 · split
   · exact ⟨v, hx.2⟩
   · exact hx
theorem up_same {x : Dl} {n d : Int} (hx : Gd x) (h : vldB n d = true) (u : Int) : (wuE n d u = 0 → (∀ b, bwB b n d u = b) ∧ bwX x n d u = wuL x n d u ∧ Gd (wuL x n d u)) ∧ (wuE n d u ≠ 0 → wuE n d u = 7 ∧ ∀ b, bwB b n d u = true) := by
 by_cases hs : spE u = 0
 · have E : wuE n d u = shE n d (spC u) := by unfold wuE; rw [if_pos hs]
   rw [E]
   refine ⟨fun e => ?_, fun e => ⟨sh_seven h e, fun b => by unfold bwB; rw [if_pos hs, if_neg e]⟩⟩
   refine ⟨fun b => by unfold bwB; rw [if_pos hs, if_pos e], ?_⟩
   have m := moL_same (o := spS u) hx (sh_vld h e)
   unfold bwX wuL
   rw [if_pos hs, if_pos e, if_pos hs]
   exact m
 · have E : wuE n d u = 0 := by unfold wuE; rw [if_neg hs]
   rw [E]
   refine ⟨fun _ => ⟨fun b => by unfold bwB; rw [if_neg hs], ?_⟩, fun q => absurd rfl q⟩
   unfold bwX wuL
   rw [if_neg hs, if_neg hs]
   exact ⟨rfl, hx⟩
theorem lo_same {x : Dl} {n d : Int} (hx : Gd x) (h : vldB n d = true) (u : Int) : (wlE n d u = 0 → (∀ b, abB b n d u = b) ∧ abX x n d u = wlL x n d u ∧ Gd (wlL x n d u)) ∧ (wlE n d u ≠ 0 → wlE n d u = 7 ∧ ∀ b, abB b n d u = true) := by
 by_cases hs : spE u = 0
 · have E : wlE n d u = shE n d (-spC u) := by unfold wlE; rw [if_pos hs]
   rw [E]
   refine ⟨fun e => ?_, fun e => ⟨sh_seven h e, fun b => by unfold abB; rw [if_pos hs, if_neg e]⟩⟩
   refine ⟨fun b => by unfold abB; rw [if_pos hs, if_pos e], ?_⟩
   have m := leL_same (o := spS u) hx (sh_vld h e)
   unfold abX wlL
   rw [if_pos hs, if_pos e, if_pos hs]
   exact m
 · have E : wlE n d u = 0 := by unfold wlE; rw [if_neg hs]
   rw [E]
   refine ⟨fun _ => ⟨fun b => by unfold abB; rw [if_neg hs], ?_⟩, fun q => absurd rfl q⟩
   unfold abX wlL
   rw [if_neg hs, if_neg hs]
   exact ⟨rfl, hx⟩
theorem bwB_true (n d u : Int) : bwB true n d u = true := by unfold bwB; split <;> (try split) <;> rfl
theorem abB_true (n d u : Int) : abB true n d u = true := by unfold abB; split <;> (try split) <;> rfl
theorem walk_same {T : Nat} (W : Nat → Dl × Int) (V : Nat → Dl × Bool) (r : Nat → Pq) (U L : Nat → Int) (w0 : W 0 = (Dl.one, 0)) (v0 : V 0 = (Dl.one, false))
  (ws : ∀ t, W (t + 1) = if (W t).2 = 0 then (wiL (W t).1 (r t).1 (r t).2 (U t) (L t), wiE (r t).1 (r t).2 (U t) (L t)) else W t)
  (vs : ∀ t, V (t + 1) = (abX (bwX (V t).1 (r t).1 (r t).2 (U t)) (r t).1 (r t).2 (L t), abB (bwB (V t).2 (r t).1 (r t).2 (U t)) (r t).1 (r t).2 (L t)))
  (hv : ∀ t, t < T → vldB (r t).1 (r t).2 = true) :
  ∀ t, t ≤ T → ((W t).2 = 0 → V t = ((W t).1, false) ∧ Gd (W t).1) ∧ ((W t).2 ≠ 0 → (W t).2 = 7 ∧ (V t).2 = true) := by
 intro t
 induction t with
 | zero =>
  intro _
  rw [w0, v0]
  exact ⟨fun _ => ⟨rfl, by decide, fun q => by cases q⟩, fun q => absurd rfl q⟩
 | succ t ih =>
  intro ht
  have ih := ih (by omega)
  have v := hv t (by omega)
  rw [ws, vs]
  by_cases c : (W t).2 = 0
  · obtain ⟨e, g⟩ := ih.1 c
    rw [if_pos c, e]
    dsimp only
    generalize (W t).1 = x at *
    generalize (r t).1 = n at *
    generalize (r t).2 = d at *
    generalize U t = u at *
    generalize L t = l at *
    obtain ⟨u1, u2⟩ := up_same g v u
    by_cases a : wuE n d u = 0
    · obtain ⟨b1, b2, b3⟩ := u1 a
      obtain ⟨l1, l2⟩ := lo_same b3 v l
      have ei : wiE n d u l = wlE n d l := by unfold wiE; rw [if_neg (by omega)]
      rw [b1, b2]
      by_cases b : wlE n d l = 0
      · obtain ⟨d1, d2, d3⟩ := l1 b
        refine ⟨fun _ => ?_, fun q => absurd (ei.trans b) q⟩
        have : wiL x n d u l = wlL (wuL x n d u) n d l := by unfold wiL; rw [ei, if_pos b]
        rw [this, d1, d2]
        exact ⟨rfl, d3⟩
      · refine ⟨fun q => absurd (ei.symm.trans q) b, fun _ => ?_⟩
        rw [ei]
        exact ⟨(l2 b).1, (l2 b).2 _⟩
    · have ei : wiE n d u l = wuE n d u := by unfold wiE; rw [if_pos a]
      refine ⟨fun q => absurd (ei.symm.trans q) a, fun _ => ?_⟩
      rw [ei, (u2 a).2]
      exact ⟨(u2 a).1, abB_true _ _ _⟩
  · obtain ⟨e, g⟩ := ih.2 c
    rw [if_neg c]
    refine ⟨fun q => absurd q c, fun _ => ⟨e, ?_⟩⟩
    show abB (bwB (V t).2 _ _ _) _ _ _ = true
    rw [g, bwB_true, abB_true]
theorem td_same {x : Dl} (g : Gd x) : tdB x = x.empty := by
 obtain ⟨ln, ld, hn, hd, lo, ho, nh⟩ := x
 cases nh
 · have hv : vldB hn hd = true := g.2 rfl
   have lv : vldB ln ld = true := g.1
   obtain ⟨c1, c2, c3⟩ := cmK_vld lv hv
   have L := lsB_vld hv lv (lo || ho)
   unfold tdB Dl.empty
   simp only
   rw [L, decide_eq_decide.2 c3, decide_eq_decide.2 (c2.trans eq_comm)]
 · rfl
theorem vld_negI {n d : Int} (v : vldB n d = true) : vldB (-n) d = true := by rw [← v]; unfold vldB; rw [Bool.eq_iff_iff]; simp; omega
theorem st_same {n : Nat} {l : List Int} {ps : List Pq} (hr : rdE n l ps = 0) : rsV n l ps = syV n l ps := by
 obtain ⟨hc, hp, hv, hs⟩ := rd_parts hr
 have h := walk_same (T := n) (syR n l ps) (ryX n l ps) (fun t => (-(gp ps t).1, (gp ps t).2)) (fun t => Zo.At n l (t + 1) 0) (fun t => Zo.At n l 0 (t + 1)) rfl rfl (fun _ => rfl) (fun _ => rfl)
  (fun t ht => by have := hv t (by omega); unfold vldC at this; simp at this; exact vld_negI this.1) n (Nat.le_refl _)
 have m : omR n 1 l ps = (mtH n 1 l ps, 0) := by unfold omR; rw [if_pos (mtA_iff.2 fun i _ hi j _ hj => hs i (by omega) j (by omega))]
 unfold rsV syV
 rw [m]
 simp only [ne_eq, not_true, if_false]
 by_cases c : (syR n l ps n).2 = 0
 · obtain ⟨e, g⟩ := h.1 c
   have t := td_same g
   clear g h m
   rw [e]
   clear e
   generalize syR n l ps n = y at *
   obtain ⟨x, k⟩ := y
   simp only at c t
   subst c
   unfold tdX tdE
   simp only [t]
   cases mtH n 1 l ps <;> cases x.empty <;> simp
 · obtain ⟨e, g⟩ := h.2 c
   rw [if_pos g, if_pos (by simpa using c), e]
theorem sb_first {ps : List Pq} (h : ∀ k, k < ps.length → vldC (gp ps k) = true) {i : Nat} (hi : i ≤ ps.length) : sbE ps i 0 = 0 ∧ sbE ps 0 i = 0 := by
 have v := (clk_vld h hi).1
 have e : clk ps 0 = (0, 1) := rfl
 unfold sbE
 rw [e]
 generalize (clk ps i).1 = n at *
 generalize (clk ps i).2 = d at *
 have e1 : n * 1 - 0 * d = n := by omega
 have e2 : d * 1 = d := by omega
 have e3 : 0 * d - n * 1 = -n := by omega
 have e4 : 1 * d = d := by omega
 simp only [e1, e2, e3, e4]
 exact ⟨(mk_self v).2.2, (mk_self (vld_negI v)).2.2⟩
theorem stay_same (N : Int) (l : List Int) (ps : List Pq) : rsR N l ps = stR N l ps := by
 unfold rsR stR
 by_cases h0 : rdE N l ps = 0
 · obtain ⟨n, rfl, _⟩ := chk_ok (rd_yes (by rw [h0]; decide)).1
   rw [if_pos h0, if_neg (by rw [h0]; decide), Int.toNat_natCast]
   exact st_same h0
 · rw [if_neg h0]
   by_cases h2 : rdE N l ps = 2
   · rw [if_pos h2, h2]
   · rw [if_neg h2]
     obtain ⟨hc, hp, hv⟩ := rd_yes h2
     obtain ⟨n, rfl, _⟩ := chk_ok hc
     have hR : rdE n l ps = if rdR n ps then 0 else 7 := by unfold rdE; rw [if_pos ⟨hc, hp, hv⟩, Int.toNat_natCast]
     have hn : rdR n ps = false := by
      cases c : rdR n ps
      · rfl
      · rw [hR, c] at h0; exact absurd rfl h0
     have h7 : rdE n l ps = 7 := by rw [hR, hn]; rfl
     have hl : ps.length = n := by omega
     have hA : mtA n 1 ps = false := by
      cases c : mtA n 1 ps
      · rfl
      · have q := mtA_iff.1 c
        have : rdR n ps = true := rdR_of fun i hi j hj => by
         by_cases i0 : i = 0
         · subst i0; exact (sb_first (rd_all hv) (by omega)).2
         · by_cases j0 : j = 0
           · subst j0; exact (sb_first (rd_all hv) (by omega)).1
           · exact q i (by omega) hi j (by omega) hj
        rw [hn] at this; cases this
     have m : omR n 1 l ps = (false, 7) := by unfold omR; rw [hA]; rfl
     rw [h7, Int.toNat_natCast]
     unfold syV
     rw [m]
     rfl
theorem rstay_gen (N : Int) (l : List Int) (ao : Option Addr) (cap : Nat) (ps : List Pq) (po : Option Addr) (pc : Nat) (w : World) (hA : Arg w ao l) (hP : Arg2 w po ps) (hI : Fits ps) :
  Calls Tryz.prog 77 #[.agg #[.int .i64 N, .slice ao l.length cap], .slice po ps.length pc] w (Made (.tuple #[.agg (stR N l ps).1.cs, .int .i64 (stR N l ps).2]) w) := by
 rw [← stay_same]
 unfold rsR
 by_cases h0 : rdE N l ps = 0
 · obtain ⟨n, rfl, hn, hl, hne⟩ := chk_ok (rd_yes (by rw [h0]; decide)).1
   obtain ⟨a, rfl, hR⟩ := hA hne
   rw [if_pos h0, Int.toNat_natCast]
   exact rstay_any n l a cap ps po pc w hn hl hR hP hI h0
 · rw [if_neg h0]
   exact rstay_bad N l ao cap ps po pc w hA hP hI h0
theorem ownQ_argR {w : World} {B n : Nat} {v : Value} {qs : List Pq} (hn : n = qs.length) (h : w.ownsRow B 45 2 v n (qV qs)) : ∃ qo qc, v = .slice qo n qc ∧ Arg2 w qo qs ∧ (qo = none → qc = 0) := by
 subst hn
 have h' := h
 rcases h.2 with ⟨rfl, hn⟩ | ⟨g, cap, cur, rfl, _⟩
 · exact ⟨none, 0, by rw [hn], fun hne => absurd (List.eq_nil_of_length_eq_zero hn) hne, fun _ => rfl⟩
 · exact ⟨_, cap, rfl, fun _ => ⟨_, rfl, OwnQ.rd h'⟩, fun q => by cases q⟩
theorem ownsQ_onR {w w' : World} {B n : Nat} {v : Value} {xs : List Value} (h : w.ownsRow B 45 2 v n xs) (hb : Below w.heap.size w w') : w'.ownsRow B 45 2 v n xs := World.ownsRow.kept h (grown_none hb) (by cases v.ownBlock <;> simp)
theorem below_putR {X w : World} {n b : Nat} (h : Below n X w) (hb : n ≤ b) (u v : Value) : Below n X ((w.setCell ⟨b, 0, none⟩ u).setCell ⟨b, 1, none⟩ v) := (h.setCell (p := ⟨b, 0, none⟩) hb u).setCell (p := ⟨b, 1, none⟩) hb v
def adV (dn dd : Int) (p : Pq) : Pq := (opNum (vldB p.1 p.2 && vldB dn dd) (p.1 * dd + dn * p.2) (p.2 * dd), opDen (vldB p.1 p.2 && vldB dn dd) (p.1 * dd + dn * p.2) (p.2 * dd))
def adX (dn dd : Int) (p : Pq) : Int := opErr (vldB p.1 p.2 && vldB dn dd) (p.1 * dd + dn * p.2) (p.2 * dd)
theorem adV_gp {dn dd : Int} {ps : List Pq} {k : Nat} (h : k < ps.length) : gp (ps.map (adV dn dd)) k = adV dn dd (gp ps k) := by simp [gp, h]
theorem adV_fits (dn dd : Int) (ps : List Pq) : Fits (ps.map (adV dn dd)) := fun k hk => by
 rw [adV_gp (by simpa using hk)]
 exact ⟨opNum_64 _ _ _, opDen_64 _ _ _⟩
def ArOk (ps : List Pq) (dn dd : Int) (L : List Zp) : Prop :=
 vldB dn dd = true ∧ 0 ≤ dn ∧ (∀ k, k < ps.length → adX dn dd (gp ps k) = 0) ∧ hsF (ps.map (adV dn dd)) L = (true, 0)
def ArRes (P : Prop) (w : World) (e : Ending) (w' : World) : Prop := Below w.heap.size w w' ∧ ∃ b m : Bool, e = .returned (.tuple #[.bool b, .bool m]) ∧ (b = true → m = true → P)
set_option maxRecDepth 100000 in
theorem larr_any (L : List ZV) (go : Option Addr) (gc : Nat) (ps : List Pq) (po : Option Addr) (pc : Nat) (dn dd : Int) (w : World) (hL : RdW w go L) (hl : L.length ≤ 1000000) (hP : Arg2 w po ps) (hI : Fits ps) (hpl : ps.length ≤ 50) (hdn : I64 dn) (hdd : I64 dd) :
  Calls Tryz.prog 35 #[.slice go L.length gc, .agg #[.slice po ps.length pc, .int .i64 dn, .int .i64 dd]] w (ArRes (ArOk ps dn dd (L.map ZV.p)) w) := by
 obtain ⟨i0, hi0, hz0, hz1, hz2⟩ := info_parts rat_info
 obtain ⟨n, hn⟩ : ∃ n, n = L.length := ⟨_, rfl⟩
 obtain ⟨pn, hpn⟩ : ∃ pn, pn = ps.length := ⟨_, rfl⟩
 have HPN := Lib.hid hpn
 have PP := Lib.hid hP
 have PI := Lib.hid hI
 have DN := Lib.hid hdn
 have DD := Lib.hid hdd
 have ple : pn ≤ 50 := by omega
 have HS := Lib.hid (show ∀ W qo qc, Below w.heap.size w W → Arg2 W qo (ps.map (adV dn dd)) → Calls Tryz.prog 30 #[.slice go n gc, .slice qo pn qc] W (Made (.tuple #[.bool (hsF (ps.map (adV dn dd)) (L.map ZV.p)).1, .int .i64 (hsF (ps.map (adV dn dd)) (L.map ZV.p)).2]) W) from fun W qo qc h h2 => by
  have := rhasW_any L go gc (ps.map (adV dn dd)) qo qc W (hL.on h) hl h2 (adV_fits dn dd ps)
  rw [List.length_map, ← hpn, ← hn] at this
  exact this)
 have VA := Lib.hid (show ∀ W, Calls Tryz.prog 79 #[.agg #[.int .i64 dn, .int .i64 dd]] W (Made (.bool (vldB dn dd)) W) from fun W => refValid_any dn dd W hdn.1 hdn.2 hdd.1 hdd.2)
 have AD := Lib.hid (show ∀ W k, k < pn → Calls Tryz.prog 80 #[.agg #[.int .i64 (gp ps k).1, .int .i64 (gp ps k).2], .agg #[.int .i64 dn, .int .i64 dd]] W (Made (.tuple #[.agg #[.int .i64 (adV dn dd (gp ps k)).1, .int .i64 (adV dn dd (gp ps k)).2], .int .i64 (adX dn dd (gp ps k))]) W) from fun W k hk => refAdd_any _ _ _ _ W (hI k (by omega)).1 (hI k (by omega)).2 hdn hdd)
 obtain ⟨qs, hqs⟩ : ∃ qs, qs = ps.map (adV dn dd) := ⟨_, rfl⟩
 have QS := Lib.hid hqs
 have QL := Lib.hid (show qs.length = pn by rw [hqs, List.length_map, hpn])
 have HTK := Lib.hid (show ∀ t, t < pn → qs.take (t + 1) = qs.take t ++ [((adV dn dd (gp ps t)).1, (adV dn dd (gp ps t)).2)] from fun t ht => by
  rw [List.take_add_one, hqs]
  simp [gp, show t < ps.length by omega])
 obtain ⟨P, hPP⟩ : ∃ P, P = ArOk ps dn dd (L.map ZV.p) := ⟨_, rfl⟩
 have AO := Lib.hid (show vldB dn dd = true → 0 ≤ dn → (∀ k, k < pn → adX dn dd (gp ps k) = 0) → hsF qs (L.map ZV.p) = (true, 0) → P from fun h1 h2 h3 h4 => by
  rw [hPP]
  exact ⟨h1, h2, fun k hk => h3 k (by omega), by rw [← hqs]; exact h4⟩)
 rw [← hqs] at HS
 rw [← hPP, ← hn, ← hpn]
 obtain ⟨w1, hw1⟩ : ∃ w1, w1 = w.alloc (.cells #[.slice po pn pc, .int .i64 dn, .int .i64 dd] 47) := ⟨_, rfl⟩
 have B1 := Lib.hid (show Below w.heap.size w w1 by rw [hw1]; exact one_more _)
 have X3 := Lib.hid (show Bx w1 w.heap.size #[.slice po pn pc, .int .i64 dn, .int .i64 dd] by rw [hw1]; exact Bx.made w _ _)
 obtain ⟨q3, hq3⟩ : ∃ q3, q3 = w.heap.size := ⟨_, rfl⟩
 generalize hsF qs (L.map ZV.p) = r at *
 obtain ⟨rb, re⟩ := r
 obtain ⟨vb, hvb⟩ : ∃ vb, vb = vldB dn dd := ⟨_, rfl⟩
 rw [← hvb] at VA AO
 clear hL hl hP hI hdn hdd hn hpn hqs hPP hpl hvb
 go_enter Tryz.func35, Tryz.ntmps35
 go_upto_region 1 with (fail)
 rw [← hw1]
 rw [← hq3] at X3 ⊢
 clear hw1 hq3
 have x1 := X3.out.cell 1
 have x2 := X3.out.cell 2
 simp only [List.getElem?_toArray, List.getElem?_cons_succ, List.getElem?_cons_zero] at x1 x2
 go_wp2_with fail
 refine (VA.out w1).mono ?_
 rintro e w2 ⟨rfl, hb⟩
 have B2 := Lib.hid (below_on B1.out hb)
 have X3 := Lib.hid (X3.out.kept hb)
 clear hb x1 x2 B1 VA
 cases vb with
 | false =>
  go_wp2_with fail
  go_ret2
  exact ⟨B2.out, false, false, rfl, fun h => by cases h⟩
 | true =>
 have x1 := X3.out.cell 1
 simp only [List.getElem?_toArray, List.getElem?_cons_succ, List.getElem?_cons_zero] at x1
 by_cases d0 : dn < 0
 · have D0 : decide (dn < 0) = true := decide_eq_true d0
   clear AO
   go_wp2_with fail
   go_ret2
   exact ⟨B2.out, false, false, rfl, fun h => by cases h⟩
 have D0 : decide (dn < 0) = false := decide_eq_false d0
 have AO2 := Lib.hid (AO.out rfl (by omega))
 clear d0 AO
 go_wp2_with fail
 clear x1 D0
 go_loopw [6, 7] (fun v s wr => ∃ t : Nat, t ≤ pn ∧ s = .int .i64 (t : Int) ∧ Hid (wr.ownsRow w2.heap.size 45 2 v t (qV (qs.take t)) ∧ Below w2.heap.size w2 wr) ∧ Hid (∀ k, k < t → adX dn dd (gp ps k) = 0)) (fun _ s _ => pn - (intOf s).toNat)
 case atStart => exact ⟨0, by omega, rfl, Lib.hid ⟨World.ownsRow_nil _ _ _ _, Below.refl _ _⟩, Lib.hid (fun k hk => absurd hk (by omega))⟩
 case round =>
  generalize wr = wo at *
  obtain ⟨t, ht, rfl, HX, HAL⟩ := hrel
  have BW := Lib.hid (below_on B2.out HX.out.2)
  have XW := Lib.hid (X3.out.kept HX.out.2)
  have x0 := XW.out.cell 0
  simp only [List.getElem?_toArray, List.getElem?_cons_zero] at x0
  by_cases htn : t < pn
  · obtain ⟨pb, epo, hR⟩ := PP.out (fun e => by have := HPN.out; rw [e] at this; simp at this; omega)
    have RT := Lib.hid (fun W (h : Below w.heap.size w W) => (show Rd2 W pb ps from by have := (PP.out.on h) (fun e => by have := HPN.out; rw [e] at this; simp at this; omega); obtain ⟨a, e, k⟩ := this; rw [epo] at e; injection e with e; subst e; exact k) t (by have := HPN.out; omega))
    have AT := Lib.hid (fun W => AD.out W t htn)
    have HTT := Lib.hid (HTK.out t htn)
    obtain ⟨ev, hev⟩ : ∃ ev, ev = adX dn dd (gp ps t) := ⟨_, rfl⟩
    rw [← hev] at AT
    have HEV := Lib.hid hev
    obtain ⟨an, han⟩ : ∃ an, an = (adV dn dd (gp ps t)).1 := ⟨_, rfl⟩
    obtain ⟨ad, had⟩ : ∃ ad, ad = (adV dn dd (gp ps t)).2 := ⟨_, rfl⟩
    rw [← han, ← had] at AT HTT
    obtain ⟨p1, hp1⟩ : ∃ p1, p1 = (gp ps t).1 := ⟨_, rfl⟩
    obtain ⟨p2, hp2⟩ : ∃ p2, p2 = (gp ps t).2 := ⟨_, rfl⟩
    rw [← hp1, ← hp2] at AT RT
    clear hev han had hp1 hp2 hR
    subst epo
    go_upto_region 7 with (fail)
    clear x0
    go_cut [8, 9] from 55 (fun s8 s9 wx => ∃ q8 : Nat, s8 = .pointer (some ⟨q8, 0, none⟩) ∧ s9 = .int .i64 ev ∧ Hid (Below wo.heap.size wo wx) ∧ Hid (Pair wx q8 an ad))
    case first =>
     rename_i J0 K0 hJ0 hK0
     have KS := Lib.hid (show ∀ W, Below wo.heap.size wo W → (W.cell? ⟨q3, 0, none⟩ = some (.slice (some pb) pn pc) ∧ W.cell? ⟨q3, 1, none⟩ = some (.int .i64 dn) ∧ W.cell? ⟨q3, 2, none⟩ = some (.int .i64 dd) ∧ W.cell? (pb.add (t * 2)) = some (.int .i64 p1) ∧ W.cell? ⟨(pb.add (t * 2)).block, (pb.add (t * 2)).off + 1, none⟩ = some (.int .i64 p2)) from fun W h => ⟨(XW.out.kept h).cell 0, (XW.out.kept h).cell 1, (XW.out.kept h).cell 2, (RT.out _ (below_on BW.out h)).1, (RT.out _ (below_on BW.out h)).2⟩)
     obtain ⟨wc, hwc⟩ : ∃ wc, wc = wo.drew := ⟨_, rfl⟩
     have Bc := Lib.hid (show Below wo.heap.size wo wc by rw [hwc]; exact (Below.refl _ _).drew)
     refine wp_region_held_drew (S := (fun W => (W.cell? ⟨q3, 0, none⟩ = some (.slice (some pb) pn pc) ∧ W.cell? ⟨q3, 1, none⟩ = some (.int .i64 dn) ∧ W.cell? ⟨q3, 2, none⟩ = some (.int .i64 dd) ∧ W.cell? (pb.add (t * 2)) = some (.int .i64 p1) ∧ W.cell? ⟨(pb.add (t * 2)).block, (pb.add (t * 2)).off + 1, none⟩ = some (.int .i64 p2)))) (by kernel_rfl) (by rw [← hwc]; exact KS.out _ Bc.out) (fun h0 => ?_)
     rw [← hwc] at h0 ⊢
     clear hwc
     refine tkI (i := 0) rfl h0 ?_
     simp only [Act.put, sA, sB, sD, sE, sF]
     refine tkI (i := 1) rfl h0 ?_
     simp only [Act.put, sZ]
     refine tkI (i := 2) rfl h0 ?_
     simp only [Act.put, sZ]
     refine tkI (i := 3) rfl h0 ?_
     simp only [Act.put, sZ]
     refine tkI (i := 4) rfl h0 ?_
     simp only [Act.put, sZ]
     refine tkI (i := 5) rfl h0 ?_
     simp only [Act.put, sZ]
     refine tkI (i := 6) rfl h0 ?_
     simp only [Act.put, sZ]
     refine wpAnyH_ready (rs := [7, 11]) (by kernel_rfl) (by simp) (AllReadyH.cons rfl (fun K hK => ?_) (AllReadyH.cons rfl (fun K hK => ?_) AllReadyH.nil))
     · rw [if_pos (by rfl)]
       go_simp
       refine (AT.out wc).mono ?_
       rintro e wd ⟨rfl, hb⟩
       try (have N8 := Lib.hid (N8.out.kept hb))
       have Bc := Lib.hid (below_on Bc.out hb)
       clear hb
       obtain ⟨wc, hwc⟩ : ∃ wc, wc = wd := ⟨_, rfl⟩
       rw [← hwc] at Bc ⊢
       try rw [← hwc] at N8
       clear hwc
       go_simp
       refine hK.out _ _ (KS.out _ Bc.out) (fun h0_1 => ?_)
       clear hK K h0
       refine tkI (i := 8) rfl h0_1 ?_
       simp only [Act.put, sZ]
       refine tkI (i := 9) rfl h0_1 ?_
       simp only [Act.put, sZ]
       refine tkI (i := 10) rfl h0_1 ?_
       simp only [Act.put, sZ]
       refine wpAnyH_ready (rs := [11]) (by kernel_rfl) (by simp) (AllReadyH.cons rfl (fun K hK => ?_) AllReadyH.nil)
       rw [if_pos (by rfl)]
       go_simp
       have hb := one_more (w1 := wc) (.cells #[.int .i64 0, .int .i64 0] 45)
       have hP := Pair.made wc 0 0 45
       have hz := Bc.out.size
       obtain ⟨q8, hbb⟩ : ∃ b, b = wc.heap.size := ⟨_, rfl⟩
       rw [← hbb] at hP hz
       obtain ⟨wn, hwn⟩ : ∃ wn, wn = wc.alloc (.cells #[.int .i64 0, .int .i64 0] 45) := ⟨_, rfl⟩
       rw [← hwn] at hb hP ⊢
       try rw [← hbb]
       have Bc := Lib.hid (below_on Bc.out hb)
       have N8 := Lib.hid hP
       have Zq8 := Lib.hid hz
       clear hb hP hz hbb hwn
       obtain ⟨wc, hwc⟩ : ∃ wc, wc = wn := ⟨_, rfl⟩
       rw [← hwc] at Bc N8 ⊢
       clear hwc
       go_simp
       refine hK.out _ _ (KS.out _ Bc.out) (fun h0_2 => ?_)
       clear hK K h0_1
       refine wpAnyH_ready (rs := [12]) (by kernel_rfl) (by simp) (AllReadyH.cons rfl (fun K hK => ?_) AllReadyH.nil)
       rw [if_pos (by rfl)]
       go_simp
       obtain ⟨s0, s1, s2, s3⟩ := N8.out.facts
       go_simp
       refine hK.out _ _ (KS.out _ (below_putR Bc.out Zq8.out _ _)) (fun h0_3 => ?_)
       clear hK K h0_2
       clear s0 s1 s2 s3
       refine tkI (i := 13) rfl h0_3 ?_
       simp only [Act.put, sA, sB, sC, sD]
       try simp only [sF]
       try simp only [sE]
       refine wpAnyH_done (by kernel_rfl) ?_ _
       have N9 := N8.out.put an ad
       have D9 := below_putR Bc.out Zq8.out (.int .i64 an) (.int .i64 ad)
       simp only [Exit.then]
       refine hK0 _ _ (Met.intro (hJ0 _ _ ?_))
       (repeat apply Exists.intro)
       refine ⟨?rel, rfl⟩
       case rel => exact ⟨q8, rfl, rfl, Lib.hid D9, Lib.hid N9⟩
     · rw [if_pos (by rfl)]
       go_simp
       have hb := one_more (w1 := wc) (.cells #[.int .i64 0, .int .i64 0] 45)
       have hP := Pair.made wc 0 0 45
       have hz := Bc.out.size
       obtain ⟨q8, hbb⟩ : ∃ b, b = wc.heap.size := ⟨_, rfl⟩
       rw [← hbb] at hP hz
       obtain ⟨wn, hwn⟩ : ∃ wn, wn = wc.alloc (.cells #[.int .i64 0, .int .i64 0] 45) := ⟨_, rfl⟩
       rw [← hwn] at hb hP ⊢
       try rw [← hbb]
       have Bc := Lib.hid (below_on Bc.out hb)
       have N8 := Lib.hid hP
       have Zq8 := Lib.hid hz
       clear hb hP hz hbb hwn
       obtain ⟨wc, hwc⟩ : ∃ wc, wc = wn := ⟨_, rfl⟩
       rw [← hwc] at Bc N8 ⊢
       clear hwc
       go_simp
       refine hK.out _ _ (KS.out _ Bc.out) (fun h0_1 => ?_)
       clear hK K h0
       refine wpAnyH_ready (rs := [7]) (by kernel_rfl) (by simp) (AllReadyH.cons rfl (fun K hK => ?_) AllReadyH.nil)
       rw [if_pos (by rfl)]
       go_simp
       refine (AT.out wc).mono ?_
       rintro e wd ⟨rfl, hb⟩
       try (have N8 := Lib.hid (N8.out.kept hb))
       have Bc := Lib.hid (below_on Bc.out hb)
       clear hb
       obtain ⟨wc, hwc⟩ : ∃ wc, wc = wd := ⟨_, rfl⟩
       rw [← hwc] at Bc ⊢
       try rw [← hwc] at N8
       clear hwc
       go_simp
       refine hK.out _ _ (KS.out _ Bc.out) (fun h0_4 => ?_)
       clear hK K h0_1
       refine tkI (i := 8) rfl h0_4 ?_
       simp only [Act.put, sZ]
       refine tkI (i := 9) rfl h0_4 ?_
       simp only [Act.put, sZ]
       refine tkI (i := 10) rfl h0_4 ?_
       simp only [Act.put, sZ]
       refine wpAnyH_ready (rs := [12]) (by kernel_rfl) (by simp) (AllReadyH.cons rfl (fun K hK => ?_) AllReadyH.nil)
       rw [if_pos (by rfl)]
       go_simp
       obtain ⟨s0, s1, s2, s3⟩ := N8.out.facts
       go_simp
       refine hK.out _ _ (KS.out _ (below_putR Bc.out Zq8.out _ _)) (fun h0_5 => ?_)
       clear hK K h0_4
       clear s0 s1 s2 s3
       refine tkI (i := 13) rfl h0_5 ?_
       simp only [Act.put, sA, sB, sC, sD]
       try simp only [sF]
       try simp only [sE]
       refine wpAnyH_done (by kernel_rfl) ?_ _
       have N9 := N8.out.put an ad
       have D9 := below_putR Bc.out Zq8.out (.int .i64 an) (.int .i64 ad)
       simp only [Exit.then]
       refine hK0 _ _ (Met.intro (hJ0 _ _ ?_))
       (repeat apply Exists.intro)
       refine ⟨?rel, rfl⟩
       case rel => exact ⟨q8, rfl, rfl, Lib.hid D9, Lib.hid N9⟩
    generalize wc = wd at *
    obtain ⟨q8, rfl, rfl, D5, N8⟩ := hcut
    have B5 := Lib.hid (below_on BW.out D5.out)
    have Q5 := Lib.hid (below_on HX.out.2 D5.out)
    by_cases he : ev = 0
    rotate_left
    · have E2 : (ev != 0) = true := by simp [he]
      clear he AO2
      go_wp2_with fail
      go_ret2
      exact ⟨B5.out, false, false, rfl, fun h => by cases h⟩
    have HAL1 := Lib.hid (show ∀ k, k < t + 1 → adX dn dd (gp ps k) = 0 from fun k hk => by
     by_cases c : k = t
     · rw [c, ← HEV.out, he]
     · exact HAL.out k (by omega))
    subst he
    have hown := ownsQ_onR HX.out.1 D5.out
    have hsz := Q5.out.size
    obtain ⟨p0, p1, p2, p3⟩ := N8.out.facts
    have A9 := Lib.hid (cells_two (w := wd) (.int .i64 an) (.int .i64 ad) 45 rfl)
    go_wp2_with (at_builtin; refine wpList_append_own _ rfl _ _ 40 rfl w2.heap.size 45 i0 (.agg #[.int .i64 0, .int .i64 0]) 2 16 Tryz.underlying40 hi0 hz0 hz1 hz2 rfl (by decide) _ _ _ rfl (World.ownsRow.alloc hown _) ⟨wd.heap.size, 0, none⟩ 1 1 [.int .i64 an, .int .i64 ad] rfl rfl A9.out (by simp [Value.oneCell']) (by unfold maxLen; omega) (by omega) (by simp; omega) ?_)
    intro v' w9 hown9 hgrow _
    have B9 := Lib.hid (show Below w2.heap.size w2 w9 from Below.grown (Q5.out.alloc Q5.out.size _) hgrow (by simp; omega) (fun k hk => (World.ownsRow.lt hown k hk).1))
    have O9 := Lib.hid (show w9.ownsRow w2.heap.size 45 2 v' (t + 1) (qV (qs.take (t + 1))) by
     rw [HTT.out, qV_app]
     exact hown9)
    clear hown9 hgrow hown hsz p0 p1 p2 p3
    go_wp2_with fail
    go_roundw
    case rel => exact ⟨t + 1, by omega, by go_num, Lib.hid ⟨O9.out, B9.out⟩, HAL1⟩
    case measure => simp [intOf]; omega
  · have hown := HX.out.1
    rw [List.take_of_length_le (by have := QL.out; omega)] at hown
    obtain ⟨qo, qc, rfl, hA, hN⟩ := ownQ_argR (by have := QL.out; omega) hown
    obtain rfl : t = pn := by omega
    have AO3 := Lib.hid (AO2.out HAL.out)
    have HA := Lib.hid hA
    clear hown hA hN HAL HX htn
    go_wp2_with fail
    refine (HS.out wo qo qc BW.out HA.out).mono ?_
    rintro e w6 ⟨rfl, hb⟩
    have B6 := Lib.hid (below_on BW.out hb)
    clear hb x0
    go_wp2_with fail
    go_ret2
    exact ⟨B6.out, rb, (re == 0), rfl, fun h1 h2 => AO3.out (by rw [h1, show re = 0 by simpa using h2])⟩
end Go.Proofs.YthjapmdfcbngmaaGreat
