/- A part. -/
import Derived.Test.YthjapmdfcbngmaaGreatWp46
import Derived.Test.YthjapmdfcbngmaaGreatWp11
import Derived.Test.YthjapmdfcbngmaaGreatWp41
import Derived.Test.YthjapmdfcbngmaaGreatWp43

namespace Go.Proofs.YthjapmdfcbngmaaGreat
open Go.RowKit

theorem rd_yes {N : Int} {l : List Int} {ps : List Pq} (h : rdE N l ps ≠ 2) : chkE N l = 0 ∧ (ps.length : Int) = N ∧ ps.all vldC = true := by
  unfold rdE at h
  split at h
  · rename_i c; exact c
  · exact absurd rfl h

theorem mt_has {n : Nat} {l : List Int} {ps : List Pq} (h : rdE n l ps ≠ 2) : omR n 0 l ps = (hsR n l ps, rdE n l ps) := by
  have c := rd_yes h
  have e1 : mtA n 0 ps = rdR n ps := by
    rw [Bool.eq_iff_iff]
    constructor
    · intro h; exact rdR_of fun i hi j hj => mtA_iff.1 h i (Nat.zero_le _) hi j (Nat.zero_le _) hj
    · intro h; exact mtA_iff.2 fun i _ hi j _ hj => rdR_at h hi hj
  have e2 : mtH n 0 l ps = hsB n l ps := by
    rw [Bool.eq_iff_iff]
    constructor
    · intro h; exact hsB_iff.2 fun i hi j hj => mtH_iff.1 h i (Nat.zero_le _) hi j (Nat.zero_le _) hj
    · intro h; exact mtH_iff.2 fun i _ hi j _ hj => hsB_iff.1 h i hi j hj
  have er : rdE n l ps = if rdR n ps then 0 else 7 := by
    unfold rdE; rw [if_pos c, Int.toNat_natCast]
  unfold omR hsR
  rw [e1, e2, er, Int.toNat_natCast]
  cases rdR n ps <;> rfl

set_option maxRecDepth 100000 in
set_option maxHeartbeats 4000000 in
theorem zhas_gen (N : Int) (l : List Int) (ao : Option Addr) (cap : Nat) (ps : List Pq) (po : Option Addr) (pc : Nat) (w : World) (hA : Arg w ao l) (hP : Arg2 w po ps) (hI : Fits ps) (hN : po = none → pc = 0) :
    Calls Tryz.prog 74 #[.agg #[.int .i64 N, .slice ao l.length cap], .slice po ps.length pc] w (Made (.tuple #[.bool (hsR N l ps), .int .i64 (rdE N l ps)]) w) := by
  have hz := mx_zero
  have sz0 := mcs_size (n := 0) (l := []) (by simp)
  have OA := Lib.hid (fun W (h : Below w.heap.size w W) => openat_gen N l ao cap ps po pc W (hA.on h) (hP.on h) hI hN)
  have HPL := Lib.hid (show rdE N l ps ≠ 2 → ((0, 1) :: ps).length = N.toNat + 1 from fun h => by
    have := (rd_yes h).2.1
    simp; omega)
  have HNN := Lib.hid (show rdE N l ps ≠ 2 → (N.toNat : Int) = N ∧ chkE N l = 0 ∧ ps.all vldC = true ∧ (mcs N.toNat l).size = 122 ∧ l.length = (N.toNat + 1) * (N.toNat + 1) from fun h => by
    have c := rd_yes h
    obtain ⟨n', e, hn, hl, _⟩ := chk_ok c.1
    have e2 : N.toNat = n' := by omega
    refine ⟨by omega, c.1, c.2.2, ?_, by rw [e2]; exact hl⟩
    rw [e2]; exact mcs_size (by rw [hl]; exact dsq_le hn))
  generalize ps.length = plen at OA ⊢
  generalize l.length = len at OA ⊢
  obtain ⟨w0, hw0, e0, ks⟩ := qbox N ao len cap w
  have E0 := Lib.hid e0
  have HW0 := Lib.hid hw0
  obtain ⟨b0, b1⟩ := ks w0 (Below.refl _ _)
  clear ks e0 hw0 hA hP hI hN
  unfold OARes at OA
  go_enter Tryz.func74, Tryz.ntmps74
  go_upto_region 1 with (fail)
  rw [← HW0.out]
  go_wp2_with fail
  refine (OA.out _ E0.out).mono ?_
  rintro e w1 ⟨hb1, hE⟩
  clear b0 b1
  have B1 := Lib.hid (below_on E0.out hb1)
  rcases hE with ⟨h2, rfl⟩ | ⟨h2, v, rfl, hv⟩
  · have HE := Lib.hid (show hsR N l ps = false by unfold hsR; rw [h2]; rfl)
    have H2 := Lib.hid h2
    clear h2 HNN HPL
    go_wp2_with (refine wpl_store rfl _ _ rfl _ _ rfl rfl _ (Var.made _) sz0 (mcs_one _ _) ?_)
    go_ret2
    rw [HE.out, H2.out]
    exact ⟨rfl, Below.setRow (B1.out.alloc B1.out.size _) B1.out.size _⟩
  · obtain ⟨hNn, hc, hvl, sz, hll⟩ := HNN.out h2
    have hpl := HPL.out h2
    have hov := hv
    unfold OwnQ at hv
    rw [hpl] at hv
    obtain ⟨g, c, rfl⟩ := Joins.ownsRow_form hv (by omega)
    have HR := Lib.hid (mt_has (n := N.toNat) (l := l) (ps := ps) (by rw [hNn]; exact h2))
    obtain ⟨w2, hw2⟩ : ∃ w2, w2 = (w1.alloc (.cells (mcs 0 []) 120)).setRow w1.heap.size (mcs N.toNat l) := ⟨_, rfl⟩
    have M2 : Mx w2 w1.heap.size N.toNat l := by rw [hw2]; exact ⟨((Var.made w1).put (mcs N.toNat l) sz).1, hll⟩
    have B2 := Lib.hid (show Below w.heap.size w w2 by rw [hw2]; exact Below.setRow (B1.out.alloc B1.out.size _) B1.out.size _)
    have O2 : OwnQ w2 w0.heap.size (.slice (some ⟨g, 0, none⟩) ((0, 1) :: ps).length c) ((0, 1) :: ps) := by
      rw [hw2, hpl]
      have h1 := OwnQ.on hov (one_more (.cells (mcs 0 []) 120))
      have hlt := (World.ownsRow.lt hov g rfl).2
      refine World.ownsRow.kept (row := some w1.heap.size) h1 (grown_row _ _ _) ?_
      right
      simp only [Value.ownBlock]
      intro e; injection e with e; omega
    have MT := Lib.hid (meets_any N.toNat 0 l ps w1.heap.size ⟨g, 0, none⟩ c w2 (by rw [hNn]; exact hc) (by omega) (by simp at hpl; exact hpl) M2 O2.rd hvl)
    have HNE := Lib.hid hNn
    have s1 := mcs_one N.toNat l
    rw [HR.out, hNn] at MT
    clear M2 O2 hov hv hpl hvl hc hNn h2 hll HNN HPL hb1
    go_upto_region 2 with (refine wpl_store rfl _ _ rfl _ _ rfl rfl _ (Var.made _) sz s1 ?_)
    rw [← hw2]
    clear hw2
    go_wp2_with fail
    refine MT.out.mono ?_
    rintro e w3 ⟨rfl, hb3⟩
    have B3 := Lib.hid (below_on B2.out hb3)
    clear hb3
    go_wp2_with fail
    go_ret2
    exact ⟨rfl, B3.out⟩
end Go.Proofs.YthjapmdfcbngmaaGreat

namespace Go.Proofs.YthjapmdfcbngmaaGreat
open Go.RowKit

def TellsZ (fv : Value) (w : World) (p : Zp → Bool) (er : Zp → Int) (l : List ZV) : Prop :=
  ∃ g lb, fv = .func (.func g) #[] lb ∧ (∀ args w, (callFunc g args).run Tryz.prog w = .ok (.enter g args) w) ∧ ∀ W, Below w.heap.size w W → ∀ x ∈ l, Calls Tryz.prog g (#[.agg #[.int .i64 x.N, .slice x.a x.l.length x.c]] ++ lb) W (fun e W' => Below W.heap.size W W' ∧ ((er x.p = 0 ∧ e = .returned (.bool (p x.p))) ∨ (er x.p ≠ 0 ∧ e = .panicked (pan (er x.p)))))

def anyZ (p : Zp → Bool) (er : Zp → Int) : List Zp → Bool × Int
  | [] => (false, 0)
  | x :: r => if er x ≠ 0 then (false, er x) else if p x then (true, 0) else anyZ p er r

theorem anyZ_drop {p : Zp → Bool} {er : Zp → Int} : ∀ {l : List Zp} {t : Nat}, (∀ i, ∀ q : i < l.length, i < t → er l[i] = 0 ∧ p l[i] = false) → anyZ p er l = anyZ p er (l.drop t)
  | l, 0, _ => rfl
  | [], t + 1, _ => by simp [anyZ]
  | x :: r, t + 1, h => by
    have h0 := h 0 (by simp) (by omega)
    simp only [sB] at h0
    have ih := anyZ_drop (p := p) (er := er) (l := r) (t := t) (fun i q k => by have := h (i + 1) (by simpa using q) (by omega); simpa using this)
    rw [List.drop_succ_cons, ← ih]
    show (if er x ≠ 0 then _ else _) = _
    rw [if_neg (fun q => q h0.1), h0.2]
    rfl

theorem anyZ_here {p : Zp → Bool} {er : Zp → Int} {l : List Zp} {t : Nat} (ht : t < l.length) (h : ∀ i, ∀ q : i < l.length, i < t → er l[i] = 0 ∧ p l[i] = false) : anyZ p er l = if er l[t] ≠ 0 then (false, er l[t]) else if p l[t] then (true, 0) else anyZ p er (l.drop (t + 1)) := by
  rw [anyZ_drop h, List.drop_eq_getElem_cons ht]
  rfl

theorem anyZ_none {p : Zp → Bool} {er : Zp → Int} {l : List Zp} (h : ∀ i, ∀ q : i < l.length, er l[i] = 0 ∧ p l[i] = false) : anyZ p er l = (false, 0) := by
  rw [anyZ_drop (t := l.length) (fun i q _ => h i q), List.drop_length]
  rfl

def IxZ (r : Bool × Int) (w : World) (e : Ending) (w' : World) : Prop :=
  Below w.heap.size w w' ∧ ((r.2 = 0 ∧ ∃ k : Int, e = .returned (.int .i64 k) ∧ decide (0 ≤ k) = r.1) ∨ (r.2 ≠ 0 ∧ e = .panicked (pan r.2)))

def CnZ (r : Bool × Int) (w : World) (e : Ending) (w' : World) : Prop :=
  Below w.heap.size w w' ∧ ((r.2 = 0 ∧ e = .returned (.bool r.1)) ∨ (r.2 ≠ 0 ∧ e = .panicked (pan r.2)))

set_option maxRecDepth 100000 in
set_option maxHeartbeats 4000000 in
theorem idxZ_any (l : List ZV) (ao : Option Addr) (cap : Nat) (fv : Value) (p : Zp → Bool) (er : Zp → Int) (w : World) (hl : l.length ≤ 1000000) (hR : RdW w ao l) (hp : TellsZ fv w p er l) :
    Calls Tryz.prog 115 #[.slice ao l.length cap, fv] w (IxZ (anyZ p er (l.map ZV.p)) w) := by
  obtain ⟨g, lb, rfl, eg, hp⟩ := hp
  have HP := Lib.hid hp
  have HR := Lib.hid hR
  obtain ⟨n, hn⟩ : ∃ n, n = l.length := ⟨_, rfl⟩
  have HN := Lib.hid hn
  have hle : n ≤ 1000000 := by omega
  obtain ⟨P, hP⟩ : ∃ P, P = l.map ZV.p := ⟨_, rfl⟩
  have HPE := Lib.hid hP
  have HPL := Lib.hid (show P.length = n by rw [hP, hn]; simp)
  obtain ⟨r, hr⟩ : ∃ r, r = anyZ p er P := ⟨_, rfl⟩
  have HRR := Lib.hid hr
  rw [← hn, ← hP, ← hr]
  clear hp hR hl hn hr hP
  go_enter Tryz.func115, Tryz.ntmps115
  go_wp2_with fail
  go_loopw [8] (fun s wr => ∃ t : Nat, s = .int .i64 t ∧ t ≤ n ∧ Hid (Below w.heap.size w wr) ∧ Hid (∀ i, ∀ q : i < P.length, i < t → er P[i] = 0 ∧ p P[i] = false)) (fun s _ => n - (intOf s).toNat)
  case atStart => exact ⟨0, rfl, by omega, Lib.hid (Below.refl _ _), Lib.hid (fun i q h => by omega)⟩
  case round =>
    generalize wr = wo at *
    obtain ⟨t, rfl, ht, HB, HF⟩ := hrel
    by_cases htn : t < n
    · have hlt : t < P.length := by have := HPL.out; omega
      have hll : t < l.length := by have := HN.out; omega
      obtain ⟨v, hv⟩ : ∃ v, v = l[t] := ⟨_, rfl⟩
      have ev : P[t] = v.p := by
        have h1 : P[t]? = some v.p := by rw [HPE.out, List.getElem?_map, List.getElem?_eq_getElem hll, hv]; rfl
        rw [List.getElem?_eq_getElem hlt] at h1
        injection h1
      obtain ⟨a, ha, c0, c1⟩ := (HR.out.on HB.out).hd t hll
      have AH := Lib.hid (anyZ_here (p := p) (er := er) hlt HF.out)
      rw [← hv] at c0 c1
      rw [ev, ← HRR.out] at AH
      have PV := HP.out wo HB.out v (by rw [hv]; exact List.getElem_mem hll)
      obtain ⟨xl, hxl⟩ : ∃ xl, xl = v.l.length := ⟨_, rfl⟩
      rw [← hxl] at PV c1
      obtain ⟨pv, hpv⟩ : ∃ pv, pv = p v.p := ⟨_, rfl⟩
      obtain ⟨ee, hee⟩ : ∃ ee, ee = er v.p := ⟨_, rfl⟩
      rw [← hpv, ← hee] at PV AH
      have PV := Lib.hid PV
      have HF' := Lib.hid (show ee = 0 → pv = false → ∀ i, ∀ q : i < P.length, i < t + 1 → er P[i] = 0 ∧ p P[i] = false from fun h1 h2 i q h => by
        by_cases e : i = t
        · subst e; rw [ev, ← hpv, ← hee]; exact ⟨h1, h2⟩
        · exact HF.out i q (by omega))
      clear ev hv hlt hll hpv hee hxl
      subst ha
      go_wp2_with fail
      refine PV.out.mono ?_
      rintro e w1 ⟨hb, (⟨he, rfl⟩ | ⟨he, rfl⟩)⟩
      rotate_left
      · have B1 := Lib.hid (below_on HB.out hb)
        have R1 := Lib.hid (show r = (false, ee) by rw [AH.out, if_pos he])
        have NE := Lib.hid he
        clear hb he PV AH
        go_wp2_with fail
        exact And.intro rfl ⟨B1.out, Or.inr ⟨by rw [R1.out]; exact NE.out, by rw [R1.out]⟩⟩
      have B1 := Lib.hid (below_on HB.out hb)
      cases pv
      · have HF2 := Lib.hid (HF'.out he rfl)
        clear hb c0 c1 he AH PV HF'
        go_wp2_with fail
        go_roundw
        case rel => exact ⟨t + 1, by go_num, by omega, B1, HF2⟩
        case measure => simp [intOf]; omega
      · have R1 := Lib.hid (show r = (true, 0) by rw [AH.out, if_neg (fun q => q he), if_pos rfl])
        clear hb c0 c1 he AH PV HF'
        go_wp2_with fail
        go_ret
        exact ⟨B1.out, Or.inl ⟨by rw [R1.out], t, rfl, by rw [R1.out]; simp⟩⟩
    · have R1 := Lib.hid (show r = (false, 0) by rw [HRR.out]; exact anyZ_none (fun i q => HF.out i q (by have := HPL.out; omega)))
      go_wp2_with fail
      go_ret
      exact ⟨HB.out, Or.inl ⟨by rw [R1.out], -1, rfl, by rw [R1.out]; decide⟩⟩

set_option maxRecDepth 20000 in
set_option maxHeartbeats 1000000 in
theorem conZ_any (l : List ZV) (ao : Option Addr) (cap : Nat) (fv : Value) (p : Zp → Bool) (er : Zp → Int) (w : World) (hl : l.length ≤ 1000000) (hR : RdW w ao l) (hp : TellsZ fv w p er l) :
    Calls Tryz.prog 71 #[.slice ao l.length cap, fv] w (CnZ (anyZ p er (l.map ZV.p)) w) := by
  have IX := Lib.hid (idxZ_any l ao cap fv p er w hl hR hp)
  generalize l.length = n at *
  generalize anyZ p er (l.map ZV.p) = r at *
  obtain ⟨b, z⟩ := r
  clear hR hp
  go_enter Tryz.func71, Tryz.ntmps71
  go_wp2_with fail
  refine IX.out.mono ?_
  rintro e w1 ⟨hb, (⟨he, k, rfl, hk⟩ | ⟨he, rfl⟩)⟩
  · have B1 := Lib.hid hb
    have HK := Lib.hid hk
    have HE := Lib.hid he
    clear hb hk he
    by_cases k0 : 0 ≤ k
    · go_wp2_with fail
      go_ret
      exact ⟨B1.out, Or.inl ⟨HE.out, by rw [← HK.out]; simp [k0]⟩⟩
    · go_wp2_with fail
      go_ret
      exact ⟨B1.out, Or.inl ⟨HE.out, by rw [← HK.out]; simp []⟩⟩
  · have B1 := Lib.hid hb
    have HE := Lib.hid he
    clear hb he
    go_wp2_with fail
    exact And.intro rfl ⟨B1.out, Or.inr ⟨HE.out, rfl⟩⟩

set_option maxRecDepth 20000 in
set_option maxHeartbeats 4000000 in
theorem fhas11_any (N : Int) (l : List Int) (a : Option Addr) (c q : Nat) (ps : List Pq) (po : Option Addr) (pc : Nat) (w : World) (hA : Arg w a l) (hP : Arg2 w po ps) (hI : Fits ps) (hN : po = none → pc = 0) (hq : w.cell? ⟨q, 0, none⟩ = some (.slice po ps.length pc)) :
    Calls Tryz.prog 72 #[.agg #[.int .i64 N, .slice a l.length c], .pointer (some ⟨q, 0, none⟩)] w (fun e W' => Below w.heap.size w W' ∧ ((rdE N l ps = 0 ∧ e = .returned (.bool (hsR N l ps))) ∨ (rdE N l ps ≠ 0 ∧ e = .panicked (pan (rdE N l ps))))) := by
  obtain ⟨w0, hw0⟩ : ∃ w0, w0 = w.alloc (.cells #[.int .i64 N, .slice a l.length c] 36) := ⟨_, rfl⟩
  have B0 := Lib.hid (show Below w.heap.size w w0 by rw [hw0]; exact one_more _)
  have X0 := Lib.hid (show Bx2 w0 w.heap.size (.int .i64 N) (.slice a l.length c) 36 by rw [hw0]; exact Bx2.made w _ _ _)
  have HS := Lib.hid (fun W (h : Below w.heap.size w W) => zhas_gen N l a c ps po pc W (hA.on h) (hP.on h) hI hN)
  have q0 := kept B0.out hq
  obtain ⟨x0, x1, _, _⟩ := X0.out.facts
  have MU := Lib.hid (fun W => mustB_any (hsR N l ps) (rdE N l ps) W)
  generalize hsR N l ps = bb at *
  generalize rdE N l ps = er at *
  generalize l.length = n at *
  generalize ps.length = pn at *
  clear hA hP hI hN hq
  go_enter Tryz.func72, Tryz.ntmps72
  go_upto_region 1 with (fail)
  rw [← hw0]
  clear hw0
  go_wp2_with fail
  refine (HS.out _ B0.out).mono ?_
  rintro e w1 ⟨rfl, hb⟩
  have B1 := Lib.hid (below_on B0.out hb)
  clear hb HS
  go_wp2_with fail
  refine (MU.out _).mono ?_
  rintro e w2 ⟨hb, (⟨he, rfl⟩ | ⟨he, rfl⟩)⟩
  · have B2 := Lib.hid (below_on B1.out hb)
    have HE := Lib.hid he
    clear hb he MU
    go_wp2_with fail
    go_ret
    exact ⟨B2.out, Or.inl ⟨HE.out, rfl⟩⟩
  · have B2 := Lib.hid (below_on B1.out hb)
    have HE := Lib.hid he
    clear hb he MU
    go_wp2_with fail
    exact And.intro rfl ⟨B2.out, Or.inr ⟨HE.out, rfl⟩⟩
end Go.Proofs.YthjapmdfcbngmaaGreat

namespace Go.Proofs.YthjapmdfcbngmaaGreat
open Go.RowKit

def haS (ps : List Pq) (L : List Zp) : Bool × Int := anyZ (fun z => hsR z.1 z.2 ps) (fun z => rdE z.1 z.2 ps) L

theorem one_list {L : List ZV} {go po : Option Addr} {gc pn pc : Nat} {w w3 : World} (hL : RdW w go L) (h1 : go = none → gc = 0)
    (hw : w3 = ((w.alloc (.cells #[.slice go L.length gc] 22)).alloc (.cells #[.slice po pn pc] 40)).alloc (.cells #[.slice go L.length gc] 22)) :
    Below w.heap.size w w3 ∧ Bx1 w3 w.heap.size (.slice go L.length gc) 22 ∧ Bx1 w3 (w.heap.size + 1) (.slice po pn pc) 40 ∧ RdGW w3 (some ⟨w.heap.size + 2, 0, none⟩) [L] := by
  have B : Below w.heap.size w w3 := by rw [hw]; exact past_three (Below.refl _ _)
  have X2 : Bx1 w3 (w.heap.size + 2) (.slice go L.length gc) 22 := by
    rw [hw]
    have := Bx1.made ((w.alloc (.cells #[.slice go L.length gc] 22)).alloc (.cells #[.slice po pn pc] 40)) (.slice go L.length gc) 22
    rw [World.size_alloc, World.size_alloc] at this
    exact this
  refine ⟨B, ?_, ?_, ⟨fun t ht => ?_⟩⟩
  · rw [hw]; exact ((Bx1.made w _ _).kept (one_more _)).kept (one_more _)
  · rw [hw]
    have := Bx1.made (w.alloc (.cells #[.slice go L.length gc] 22)) (.slice po pn pc) 40
    rw [World.size_alloc] at this
    exact this.kept (one_more _)
  · match t, ht with
    | 0, _ => exact ⟨_, go, gc, rfl, by rw [addr_add]; exact X2.cell, hL.on B, h1⟩

set_option maxRecDepth 100000 in
set_option maxHeartbeats 4000000 in
theorem fhas1_any (L : List ZV) (go : Option Addr) (gc pa pb : Nat) (ps : List Pq) (po : Option Addr) (pc : Nat) (W : World) (c0 : W.cell? ⟨pa, 0, none⟩ = some (.slice go L.length gc)) (c1 : W.cell? ⟨pb, 0, none⟩ = some (.slice po ps.length pc)) (hL : RdW W go L) (hl : L.length ≤ 3000) (hP : Arg2 W po ps) (hI : Fits ps) (hN : po = none → pc = 0) :
    Calls Tryz.prog 70 #[.pointer (some ⟨pa, 0, none⟩), .pointer (some ⟨pb, 0, none⟩)] W (fun e W' => ((haS ps (L.map ZV.p)).2 = 0 ∧ ∃ v, e = .returned v ∧ v = .bool (haS ps (L.map ZV.p)).1 ∧ Below W.heap.size W W') ∨ ((haS ps (L.map ZV.p)).2 ≠ 0 ∧ e = .panicked (pan (haS ps (L.map ZV.p)).2) ∧ Below W.heap.size W W')) := by
  have CN := Lib.hid (conZ_any L go gc (.func (.func 72) #[] #[.pointer (some ⟨pb, 0, none⟩)]) (fun z => hsR z.1 z.2 ps) (fun z => rdE z.1 z.2 ps) W (by omega) hL ⟨_, _, rfl, fclosure _ Tryz.func72 (by kernel_rfl) rfl, fun V hV x hx => by
    have := fhas11_any x.N x.l x.a x.c pb ps po pc V ((hL.el x hx).on hV).1 (hP.on hV) hI hN (kept hV c1)
    exact this⟩)
  have hmf : ∀ (fn : Go.Fn) (first cap : Array Value) (w : World), (Instr.makeFunc fn first cap).run Tryz.prog w = .ok (.func fn first cap) w := fun _ _ _ _ => rfl
  unfold CnZ at CN
  unfold haS
  generalize anyZ (fun z => hsR z.1 z.2 ps) (fun z => rdE z.1 z.2 ps) (L.map ZV.p) = r at *
  obtain ⟨bb, er⟩ := r
  generalize L.length = n at *
  clear hL hl hP hI hN c1
  go_enter Tryz.func70, Tryz.ntmps70
  go_wp2_with fail
  refine CN.out.mono ?_
  rintro e w2 ⟨hb, (⟨h1, rfl⟩ | ⟨h1, rfl⟩)⟩
  · have HB := Lib.hid hb
    have H1 := Lib.hid h1
    clear hb h1 CN
    go_wp2_with fail
    go_ret
    exact Or.inl ⟨H1.out, _, rfl, rfl, HB.out⟩
  · exact And.intro rfl (Or.inr ⟨h1, rfl, hb⟩)

def haR (ps : List Pq) (L : List Zp) : Bool × Int := if ansE [L] (haS ps L).2 = 0 then ((haS ps L).1, 0) else (false, ansE [L] (haS ps L).2)

set_option maxRecDepth 100000 in
set_option maxHeartbeats 4000000 in
theorem fhasW_out (L : List ZV) (go : Option Addr) (gc : Nat) (ps : List Pq) (po : Option Addr) (pc : Nat) (w : World) (hL : RdW w go L) (h1 : go = none → gc = 0) (hl : L.length ≤ 3000) (hP : Arg2 w po ps) (hI : Fits ps) (hN : po = none → pc = 0) :
    Calls Tryz.prog 29 #[.slice go L.length gc, .slice po ps.length pc] w (Made (.tuple #[.bool (haR ps (L.map ZV.p)).1, .int .i64 (haR ps (L.map ZV.p)).2]) w) := by
  obtain ⟨w3, hw3⟩ : ∃ w3, w3 = ((w.alloc (.cells #[.slice go L.length gc] 22)).alloc (.cells #[.slice po ps.length pc] 40)).alloc (.cells #[.slice go L.length gc] 22) := ⟨_, rfl⟩
  obtain ⟨t1, t2, t3, t4⟩ := one_list hL h1 hw3
  have B3 := Lib.hid t1
  have AN := Lib.hid (answerBW_any 70 #[.pointer (some ⟨w.heap.size, 0, none⟩), .pointer (some ⟨w.heap.size + 1, 0, none⟩)] [L] (some ⟨w.heap.size + 2, 0, none⟩) 1 (haS ps (L.map ZV.p)).2 w3 t4 (by simp) (by intro X hX; simp at hX; subst hX; exact hl) (fclosure _ Tryz.func70 (by kernel_rfl) rfl) (fun _ v _ => v = .bool (haS ps (L.map ZV.p)).1) (fun _ _ _ _ _ h _ => h) (fun _ W hW => fhas1_any L go gc w.heap.size (w.heap.size + 1) ps po pc W (t2.kept hW).cell (t3.kept hW).cell ((hL.on t1).on hW) hl ((hP.on t1).on hW) hI hN))
  simp only [List.map_cons, List.map_nil, List.length_cons, List.length_nil, Nat.zero_add] at AN
  unfold haR
  generalize haS ps (L.map ZV.p) = r at *
  obtain ⟨bb, er⟩ := r
  unfold AnsRes at AN
  generalize ansE [L.map ZV.p] er = ae at *
  obtain ⟨rr, hrr⟩ : ∃ rr : Bool × Int, rr = (if ae = 0 then (bb, 0) else (false, ae)) := ⟨_, rfl⟩
  rw [← show rr = (if ae = 0 then ((bb, er).1, 0) else (false, ae)) from hrr]
  have HRR := Lib.hid hrr
  clear hrr
  generalize hLl : L.length = n at *
  generalize hPl : ps.length = pn at *
  clear hL h1 t1 t2 t3 t4 hl hLl hP hI hN hPl
  go_enter Tryz.func29, Tryz.ntmps29
  go_wp2_with fail
  rw [← hw3]
  refine AN.out.mono ?_
  intro e w4 h
  rcases h.2 with ⟨e1, W, v, e2, rfl, hv⟩ | ⟨e1, rfl⟩
  · have HB := Lib.hid (below_on B3.out h.1)
    have E1 := Lib.hid (show rr = (bb, 0) by rw [HRR.out, if_pos e1])
    subst hv
    clear h e1 e2 AN
    go_wp2_with fail
    go_ret2
    refine ⟨?_, HB.out⟩
    rw [E1.out]; rfl
  · have HB := Lib.hid (below_on B3.out h.1)
    have E1 := Lib.hid (show rr = (false, ae) by rw [HRR.out, if_neg e1])
    clear h e1 AN
    go_wp2_with fail
    go_ret2
    refine ⟨?_, HB.out⟩
    rw [E1.out]; rfl

theorem haS_eq {ps : List Pq} : ∀ {L : List Zp}, (haS ps L).2 = (hsL ps L).2 ∧ ((hsL ps L).2 = 0 → (haS ps L).1 = (hsL ps L).1) ∧ ((hsL ps L).2 ≠ 0 → (hsL ps L).1 = false)
  | [] => ⟨rfl, fun _ => rfl, fun h => absurd rfl h⟩
  | z :: r => by
    have ih := haS_eq (ps := ps) (L := r)
    unfold haS at ih ⊢
    unfold anyZ hsL
    by_cases he : rdE z.1 z.2 ps = 0
    · rw [if_neg (fun q => q he)]
      cases hb : hsR z.1 z.2 ps with
      | true => 
        rw [if_pos rfl, if_neg (fun q => by cases q.2)]
        exact ⟨he.symm, fun _ => rfl, fun h => absurd he h⟩
      | false =>
        rw [if_neg (by simp), if_pos ⟨he, rfl⟩]
        exact ih
    · have hb : hsR z.1 z.2 ps = false := by unfold hsR; simp [he]
      rw [if_pos he, if_neg (fun q => he q.1), hb]
      exact ⟨rfl, fun _ => rfl, fun _ => rfl⟩

theorem haR_eq {ps : List Pq} {L : List Zp} : haR ps L = hsF ps L := by
  unfold haR hsF
  have e : ansE [L] (haS ps L).2 = if rchk L = 0 then (haS ps L).2 else rchk L := by
    unfold ansE
    rw [show chkG [L] = rchk L from by unfold chkG rchk; simp]
  rw [e]
  obtain ⟨h1, h2, h3⟩ := haS_eq (ps := ps) (L := L)
  by_cases c : rchk L = 0
  · rw [if_pos c, if_pos c, h1]
    by_cases d : (hsL ps L).2 = 0
    · rw [if_pos d, h2 d]
      exact Prod.ext rfl d.symm
    · rw [if_neg d]
      exact Prod.ext (h3 d).symm rfl
  · rw [if_neg c, if_neg c, if_neg c]
end Go.Proofs.YthjapmdfcbngmaaGreat

namespace Go.Proofs.YthjapmdfcbngmaaGreat
open Go.RowKit

theorem prP_yes {l : List Zp} {i : Nat} : ∀ {m j : Nat}, (prP l i m j).2 = 0 → (prP l i m j).1.1 ≠ i → (prP l i m j).1.1 < l.length ∧ (tryP (gz l (min i (prP l i m j).1.1)) (gz l (max i (prP l i m j).1.1))).2 = 0 ∧ (tryP (gz l (min i (prP l i m j).1.1)) (gz l (max i (prP l i m j).1.1))).1.2 = true ∧ (prP l i m j).1.2 = (tryP (gz l (min i (prP l i m j).1.1)) (gz l (max i (prP l i m j).1.1))).1.1
  | 0, j, _, h => absurd rfl h
  | m + 1, j, q, h => by
    unfold prP at q h ⊢
    by_cases hj : j < l.length
    · rw [if_pos hj] at q h ⊢
      by_cases e : j = i
      · rw [if_pos e] at q h ⊢
        exact prP_yes q h
      · rw [if_neg e] at q h ⊢
        by_cases t : (tryP (gz l (min i j)) (gz l (max i j))).2 = 0
        · rw [if_neg (fun f => f t)] at q h ⊢
          by_cases b : (tryP (gz l (min i j)) (gz l (max i j))).1.2 = true
          · rw [if_pos b] at q h ⊢
            exact ⟨hj, t, b, rfl⟩
          · rw [if_neg b] at q h ⊢
            exact prP_yes q h
        · rw [if_pos t] at q
          exact absurd q t
    · rw [if_neg hj] at h
      exact absurd rfl h

section
variable {n : Nat} {D : Int} {X : Nat → Int}

theorem join_in {l : List Zp} {a b : Nat} {z : Zp} (hab : a < b) (hb : b < l.length) (hz : InZ n D X z ↔ InZ n D X (gz l a) ∨ InZ n D X (gz l b)) : AnyZ n D X ((l.set a z).eraseIdx b) ↔ AnyZ n D X l := by
  have ha : a < l.length := by omega
  rw [gz_eq ha, gz_eq hb] at hz
  constructor
  · rintro ⟨y, hy, q⟩
    obtain ⟨t, ht, hne, e⟩ := List.mem_eraseIdx_iff_getElem.1 hy
    have ht2 : t < l.length := by simpa using ht
    rw [List.getElem_set] at e
    split at e
    · subst e
      rcases hz.1 q with c | c
      · exact ⟨_, List.getElem_mem ha, c⟩
      · exact ⟨_, List.getElem_mem hb, c⟩
    · exact ⟨_, List.getElem_mem ht2, by rw [e]; exact q⟩
  · rintro ⟨y, hy, q⟩
    obtain ⟨t, ht, rfl⟩ := List.getElem_of_mem hy
    by_cases e : t = a ∨ t = b
    · refine ⟨z, List.mem_eraseIdx_iff_getElem.2 ⟨a, by simpa using ha, by omega, by simp⟩, hz.2 ?_⟩
      rcases e with rfl | rfl
      · exact Or.inl q
      · exact Or.inr q
    · refine ⟨l[t], List.mem_eraseIdx_iff_getElem.2 ⟨t, by simpa using ht, by omega, ?_⟩, q⟩
      rw [List.getElem_set_ne (by omega)]

theorem Ck.put {N : Int} {L : List Zp} (h : Ck N L) {z : Zp} (hz : Ok1 N z) (i : Nat) : Ck N (L.set i z) := fun y hy => (List.mem_or_eq_of_mem_set hy).elim (h y) (fun e => by rw [e]; exact hz)

theorem joP_in (hp : Zo.Pt n D X 1099511627776) : ∀ {m i fr : Nat} {L : List Zp}, Ck (n : Int) L → (joP m L i fr).2 = 0 → Ck (n : Int) (joP m L i fr).1 ∧ (AnyZ n D X (joP m L i fr).1 ↔ AnyZ n D X L)
  | 0, _, _, _, h, _ => ⟨h, Iff.rfl⟩
  | m + 1, i, fr, L, h, q => by
    unfold joP at q ⊢
    by_cases hi : i < L.length
    · rw [if_pos hi] at q ⊢
      by_cases p0 : (prP L i (L.length - fr) fr).2 = 0
      · rw [if_neg (fun f => f p0)] at q ⊢
        by_cases e : (prP L i (L.length - fr) fr).1.1 = i
        · rw [if_pos e] at q ⊢
          exact joP_in hp h q
        · rw [if_neg e] at q ⊢
          obtain ⟨k1, k2, k3, k4⟩ := prP_yes p0 e
          generalize (prP L i (L.length - fr) fr).1.1 = k at *
          generalize (prP L i (L.length - fr) fr).1.2 = z at *
          have hlt : min i k < max i k := by omega
          have hmx : max i k < L.length := by omega
          have hmn : min i k < L.length := by omega
          have o1 : Ok1 (n : Int) (gz L (min i k)) := by rw [gz_eq hmn]; exact h _ (List.getElem_mem hmn)
          have o2 : Ok1 (n : Int) (gz L (max i k)) := by rw [gz_eq hmx]; exact h _ (List.getElem_mem hmx)
          have t := try_in hp o1 o2 k2 k3
          rw [← k4] at t
          have r := joP_in hp ((h.put t.1 (min i k)).erase (max i k)) q
          exact ⟨r.1, r.2.trans (join_in hlt hmx t.2)⟩
      · rw [if_pos p0] at q
        exact absurd q p0
    · rw [if_neg hi] at q ⊢; exact ⟨h, Iff.rfl⟩

theorem siP_in {L : List Zp} (hp : Zo.Pt n D X 1099511627776) (h : Ck (n : Int) L) (q : (siP L).2 = 0) : Ck (n : Int) (siP L).1 ∧ (AnyZ n D X (siP L).1 ↔ AnyZ n D X L) := by
  unfold siP at q ⊢
  have w := wpP_in hp (m := L.length) (i := 0) h
  have j := joP_in hp w.1 q
  exact ⟨j.1, j.2.trans w.2⟩
end
end Go.Proofs.YthjapmdfcbngmaaGreat

namespace Go.Proofs.YthjapmdfcbngmaaGreat
open Go.RowKit

theorem hsL_in {n : Nat} {D : Int} {X : Nat → Int} {ps : List Pq} (ho : Ov D X ps) (hr : ∀ l, chkE n l = 0 → rdE n l ps = 0) : ∀ {L : List Zp}, Ck (n : Int) L → (hsL ps L).2 = 0 ∧ ((hsL ps L).1 = true ↔ AnyZ n D X L)
  | [], _ => ⟨rfl, ⟨fun h => by simp [hsL] at h, fun h => absurd h any_nil⟩⟩
  | z :: r, h => by
    have hz := h z (List.mem_cons_self ..)
    have ih := hsL_in ho hr (L := r) (fun y hy => h y (List.mem_cons_of_mem _ hy))
    have e0 : rdE z.1 z.2 ps = 0 := by rw [hz.2]; exact hr _ (by rw [← hz.2]; exact hz.1)
    have hi : hsR z.1 z.2 ps = true ↔ InZ n D X z := by
      rw [hz.2]
      exact has_in (by rw [← hz.2]; exact e0) ho
    unfold hsL
    cases b : hsR z.1 z.2 ps with
    | false =>
      rw [if_pos ⟨e0, rfl⟩]
      refine ⟨ih.1, ih.2.trans ⟨fun ⟨y, hy, q⟩ => ⟨y, List.mem_cons_of_mem _ hy, q⟩, fun ⟨y, hy, q⟩ => ?_⟩⟩
      rcases List.mem_cons.1 hy with rfl | hy
      · rw [hi.2 q] at b; cases b
      · exact ⟨y, hy, q⟩
    | true =>
      rw [if_neg (fun q => by cases q.2)]
      exact ⟨e0, fun _ => ⟨z, List.mem_cons_self .., hi.1 b⟩, fun _ => rfl⟩

theorem hsF_in {n : Nat} {D : Int} {X : Nat → Int} {ps : List Pq} (ho : Ov D X ps) (hr : ∀ l, chkE n l = 0 → rdE n l ps = 0) {L : List Zp} (hc : rchk L = 0) (hL : Ck (n : Int) L) : (hsF ps L).2 = 0 ∧ ((hsF ps L).1 = true ↔ AnyZ n D X L) := by
  unfold hsF
  rw [if_pos hc]
  exact hsL_in ho hr hL

theorem hsF_chk {ps : List Pq} {L : List Zp} (h : (hsF ps L).2 = 0) : rchk L = 0 ∧ ∀ z r, L = z :: r → rdE z.1 z.2 ps = 0 := by
  unfold hsF at h
  by_cases c : rchk L = 0
  · rw [if_pos c] at h
    refine ⟨c, ?_⟩
    rintro z r rfl
    unfold hsL at h
    split at h
    · rename_i q; exact q.1
    · exact h
  · rw [if_neg c] at h
    exact absurd h c

theorem rchk_ck {L : List Zp} (h : rchk L = 0) : L.length ≤ 2000 ∧ Ck (L.headD (0, [])).1 L := by
  unfold rchk at h
  split at h
  · cases h
  · exact ⟨by omega, fun z hz => (ckL_iff.1 h) z hz⟩

theorem ck_rchk {N : Int} {L : List Zp} (h : L.length ≤ 2000) (k : Ck N L) : rchk L = 0 := by
  unfold rchk
  rw [if_neg (by omega), ckL_iff]
  intro z hz
  refine ⟨(k z hz).1, ?_⟩
  cases L with
  | nil => simp at hz
  | cons y r => rw [(k z hz).2]; exact (k y (List.mem_cons_self ..)).2.symm

def lwB (r : Bool × Int) (want : Bool) : Bool := decide (r.2 = 7) || (decide (r.2 = 0) && r.1 == want)

set_option maxRecDepth 100000 in
set_option maxHeartbeats 4000000 in
theorem lhas_any (L : List ZV) (go : Option Addr) (gc : Nat) (ps : List Pq) (po : Option Addr) (pc : Nat) (want : Bool) (w : World) (hL : RdW w go L) (h1 : go = none → gc = 0) (hl : L.length ≤ 3000) (hP : Arg2 w po ps) (hI : Fits ps) (hN : po = none → pc = 0) :
    Calls Tryz.prog 31 #[.slice go L.length gc, .slice po ps.length pc, .bool want] w (Made (.bool (lwB (hsF ps (L.map ZV.p)) want)) w) := by
  have HS := Lib.hid (fhasW_out L go gc ps po pc w hL h1 hl hP hI hN)
  rw [haR_eq] at HS
  generalize hsF ps (L.map ZV.p) = r at *
  obtain ⟨b, e⟩ := r
  generalize L.length = n at *
  generalize ps.length = pn at *
  clear hL h1 hl hP hI hN
  by_cases e7 : e = 7
  · subst e7
    go_enter Tryz.func31, Tryz.ntmps31
    go_wp2_with fail
    refine HS.out.mono ?_
    rintro e2 w2 ⟨rfl, hb⟩
    have HB := Lib.hid hb
    clear hb HS
    go_wp2_with fail
    go_ret
    exact ⟨rfl, HB.out⟩
  · by_cases e0 : e = 0
    · subst e0
      go_enter Tryz.func31, Tryz.ntmps31
      go_wp2_with fail
      refine HS.out.mono ?_
      rintro e2 w2 ⟨rfl, hb⟩
      have HB := Lib.hid hb
      clear hb HS
      go_wp2_with fail
      go_ret
      exact ⟨by cases b <;> cases want <;> rfl, HB.out⟩
    · have f7 : (e == 7) = false := by simpa using e7
      have f0 : (e == 0) = false := by simpa using e0
      have LB := Lib.hid (show lwB (b, e) want = false by unfold lwB; simp [e7, e0])
      clear e7 e0
      go_enter Tryz.func31, Tryz.ntmps31
      go_wp2_with fail
      refine HS.out.mono ?_
      rintro e2 w2 ⟨rfl, hb⟩
      have HB := Lib.hid hb
      clear hb HS
      go_wp2_with fail
      go_ret
      exact ⟨by rw [LB.out]; rfl, HB.out⟩
end Go.Proofs.YthjapmdfcbngmaaGreat
