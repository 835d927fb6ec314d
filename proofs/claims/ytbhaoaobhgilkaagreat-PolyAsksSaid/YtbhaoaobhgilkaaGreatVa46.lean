/- slices.IndexFunc and ContainsFunc at lines for a function that may panic; the contract of Includes of layer 7's reference.; The contract of package poly's Includes, for whatever arguments. -/
import Derived.Test.YtbhaoaobhgilkaaGreatVa3
import Derived.Test.YtbhaoaobhgilkaaGreatVa43
import Derived.Test.YtbhaoaobhgilkaaGreatVa15

namespace Go.Proofs.YtbhaoaobhgilkaaGreat
open Go.RowKit Go.Sort Go.Shelf

/-- A function value that tells a boolean of each line, or panics. -/
def TellsE (fv : Value) (w : World) (p : Ln → Bool) (er : Ln → Int) (l : List Ln) : Prop :=
  ∃ g lb, fv = .func (.func g) #[] lb ∧ (∀ args w, (callFunc g args).run Tryz.prog w = .ok (.enter g args) w) ∧ ∀ W, Below w.heap.size w W → ∀ x ∈ l, Calls Tryz.prog g (#[.agg x.cs] ++ lb) W (fun e W' => Below W.heap.size W W' ∧ ((er x = 0 ∧ e = .returned (.bool (p x))) ∨ (er x ≠ 0 ∧ e = .panicked (pan (er x)))))

/-- Whether one of the lines is told, up to the first one, or an error. -/
def anyE (p : Ln → Bool) (er : Ln → Int) : List Ln → Bool × Int
  | [] => (false, 0)
  | x :: r => if er x ≠ 0 then (false, er x) else if p x then (true, 0) else anyE p er r

theorem anyE_drop {p : Ln → Bool} {er : Ln → Int} : ∀ {l : List Ln} {t : Nat}, (∀ i, ∀ q : i < l.length, i < t → er l[i] = 0 ∧ p l[i] = false) → anyE p er l = anyE p er (l.drop t)
  | l, 0, _ => rfl
  | [], t + 1, _ => by simp [anyE]
  | x :: r, t + 1, h => by
    have h0 := h 0 (by simp) (by omega)
    simp only [sB] at h0
    have ih := anyE_drop (p := p) (er := er) (l := r) (t := t) (fun i q k => by have := h (i + 1) (by simpa using q) (by omega); simpa using this)
    rw [List.drop_succ_cons, ← ih]
    show (if er x ≠ 0 then _ else _) = _
    rw [if_neg (fun q => q h0.1), h0.2]
    rfl

theorem anyE_here {p : Ln → Bool} {er : Ln → Int} {l : List Ln} {t : Nat} (ht : t < l.length) (h : ∀ i, ∀ q : i < l.length, i < t → er l[i] = 0 ∧ p l[i] = false) : anyE p er l = if er l[t] ≠ 0 then (false, er l[t]) else if p l[t] then (true, 0) else anyE p er (l.drop (t + 1)) := by
  rw [anyE_drop h, List.drop_eq_getElem_cons ht]
  rfl

theorem anyE_none {p : Ln → Bool} {er : Ln → Int} {l : List Ln} (h : ∀ i, ∀ q : i < l.length, er l[i] = 0 ∧ p l[i] = false) : anyE p er l = (false, 0) := by
  rw [anyE_drop (t := l.length) (fun i q _ => h i q), List.drop_length]
  rfl

/-- What IndexFunc leaves. -/
def IxR (r : Bool × Int) (w : World) (e : Ending) (w' : World) : Prop :=
  Below w.heap.size w w' ∧ ((r.2 = 0 ∧ ∃ k : Int, e = .returned (.int .i64 k) ∧ decide (0 ≤ k) = r.1) ∨ (r.2 ≠ 0 ∧ e = .panicked (pan r.2)))

def CnR (r : Bool × Int) (w : World) (e : Ending) (w' : World) : Prop :=
  Below w.heap.size w w' ∧ ((r.2 = 0 ∧ e = .returned (.bool r.1)) ∨ (r.2 ≠ 0 ∧ e = .panicked (pan r.2)))

set_option maxRecDepth 20000 in
set_option maxHeartbeats 1000000 in
theorem idxE_any (l : List Ln) (ao : Option Addr) (cap : Nat) (fv : Value) (p : Ln → Bool) (er : Ln → Int) (w : World) (hl : l.length ≤ 1000000) (hR : RdL w ao l) (hp : TellsE fv w p er l) :
    Calls Tryz.prog 97 #[.slice ao l.length cap, fv] w (IxR (anyE p er l) w) := by
  obtain ⟨g, lb, rfl, eg, hp⟩ := hp
  have HP := Lib.hid hp
  have HR := Lib.hid hR
  obtain ⟨n, hn⟩ : ∃ n, n = l.length := ⟨_, rfl⟩
  have HN := Lib.hid hn
  have hle : n ≤ 1000000 := by omega
  obtain ⟨r, hr⟩ : ∃ r, r = anyE p er l := ⟨_, rfl⟩
  have HRR := Lib.hid hr
  rw [← hn, ← hr]
  clear hp hR hl hn hr
  go_enter Tryz.func97, Tryz.ntmps97
  go_wp2_with fail
  go_loopw [8] (fun s wr => ∃ t : Nat, s = .int .i64 t ∧ t ≤ n ∧ Hid (Below w.heap.size w wr) ∧ Hid (∀ i, ∀ q : i < l.length, i < t → er l[i] = 0 ∧ p l[i] = false)) (fun s _ => n - (intOf s).toNat)
  case atStart => exact ⟨0, rfl, by omega, Lib.hid (Below.refl _ _), Lib.hid (fun i q h => by omega)⟩
  case round =>
    obtain ⟨t, rfl, ht, HB, HF⟩ := hrel
    by_cases htn : t < n
    · have hlt : t < l.length := by have := HN.out; omega
      obtain ⟨a, ha, c0⟩ := (HR.out.on HB.out) t hlt
      have AH := Lib.hid (anyE_here (p := p) (er := er) hlt HF.out)
      obtain ⟨v, hv⟩ : ∃ v, v = l[t] := ⟨_, rfl⟩
      have ev : l[t] = v := hv.symm
      rw [← hv] at c0
      rw [ev, ← HRR.out] at AH
      have C0 := Lib.hid c0
      have PV := Lib.hid (HP.out wr HB.out v (by rw [← ev]; exact List.getElem_mem hlt))
      obtain ⟨pv, hpv⟩ : ∃ pv, pv = p v := ⟨_, rfl⟩
      obtain ⟨ee, hee⟩ : ∃ ee, ee = er v := ⟨_, rfl⟩
      rw [← hpv, ← hee] at PV AH
      have HF' := Lib.hid (show ee = 0 → pv = false → ∀ i, ∀ q : i < l.length, i < t + 1 → er l[i] = 0 ∧ p l[i] = false from fun h1 h2 i q h => by
        by_cases e : i = t
        · subst e; rw [ev, ← hpv, ← hee]; exact ⟨h1, h2⟩
        · exact HF.out i q (by omega))
      clear ev hv hlt c0 hpv hee
      subst ha
      go_wp2_with (refine wpl_loadP rfl _ rfl _ rfl v C0.out ?_)
      refine PV.out.mono ?_
      rintro e w1 ⟨hb, (⟨he, rfl⟩ | ⟨he, rfl⟩)⟩
      rotate_left
      · have B1 := Lib.hid (below_on HB.out hb)
        have R1 := Lib.hid (show r = (false, ee) by rw [AH.out, if_pos he])
        have NE := Lib.hid he
        clear hb he PV AH
        go_wp2_with fail
        exact And.intro rfl ⟨B1.out, Or.inr ⟨by rw [R1.out]; exact NE.out, by rw [R1.out]⟩⟩
      have B1 := Lib.hid (below_on HB.out hb)
      cases pv
      · have HF2 := Lib.hid (HF'.out he rfl)
        clear hb C0 he AH PV HF'
        go_wp2_with fail
        go_roundw
        case rel => exact ⟨t + 1, by go_num, by omega, B1, HF2⟩
        case measure => simp [intOf]; omega
      · have R1 := Lib.hid (show r = (true, 0) by rw [AH.out, if_neg (fun q => q he), if_pos rfl])
        clear hb C0 he AH PV HF'
        go_wp2_with fail
        go_ret
        exact ⟨B1.out, Or.inl ⟨by rw [R1.out], t, rfl, by rw [R1.out]; simp⟩⟩
    · have R1 := Lib.hid (show r = (false, 0) by rw [HRR.out]; exact anyE_none (fun i q => HF.out i q (by have := HN.out; omega)))
      go_wp2_with fail
      go_ret
      exact ⟨HB.out, Or.inl ⟨by rw [R1.out], -1, rfl, by rw [R1.out]; decide⟩⟩

set_option maxRecDepth 20000 in
set_option maxHeartbeats 1000000 in
theorem conE_any (l : List Ln) (ao : Option Addr) (cap : Nat) (fv : Value) (p : Ln → Bool) (er : Ln → Int) (w : World) (hl : l.length ≤ 1000000) (hR : RdL w ao l) (hp : TellsE fv w p er l) :
    Calls Tryz.prog 62 #[.slice ao l.length cap, fv] w (CnR (anyE p er l) w) := by
  have IX := Lib.hid (idxE_any l ao cap fv p er w hl hR hp)
  generalize l.length = n at *
  generalize anyE p er l = r at *
  obtain ⟨b, z⟩ := r
  clear hR hp
  go_enter Tryz.func62, Tryz.ntmps62
  go_wp2_with fail
  refine IX.out.mono ?_
  rintro e w1 ⟨hb, (⟨he, k, rfl, hk⟩ | ⟨he, rfl⟩)⟩
  · have B1 := Lib.hid hb
    have HK := Lib.hid hk
    have HE := Lib.hid he
    clear hb hk he
    by_cases k0 : 0 ≤ k
    · go_wp2_with fail
      go_ret
      exact ⟨B1.out, Or.inl ⟨HE.out, by rw [← HK.out]; simp [k0]⟩⟩
    · go_wp2_with fail
      go_ret
      exact ⟨B1.out, Or.inl ⟨HE.out, by rw [← HK.out]; simp []⟩⟩
  · have B1 := Lib.hid hb
    have HE := Lib.hid he
    clear hb he
    go_wp2_with fail
    exact And.intro rfl ⟨B1.out, Or.inr ⟨HE.out, rfl⟩⟩

/-- Whether a list contains another one: its error, and what it tells. -/
def incS (n : Nat) (A B : List AV) : Bool × Int := anyE (fun x => !empB (B.map ofV ++ [x.opp]) n) (fun x => shE (B.map ofV ++ [x.opp]) n n) (A.map ofV)

def incE (n : Int) (A B : List AV) : Int := ansE n [A, B] (incS n.toNat A B).2

def incB (n : Int) (A B : List AV) : Bool := decide (incE n A B = 0) && !(incS n.toNat A B).1

theorem ansE_two (n : Int) (A B : List AV) (er : Int) : ansE n [A, B] er = if chkP n A = 0 then (if chkP n B = 0 then er else chkP n B) else chkP n A := by
  by_cases h1 : chkP n A = 0
  · rw [if_pos h1]
    by_cases h2 : chkP n B = 0
    · rw [if_pos h2]
      exact ansE_none (fun L hL => by
        simp only [List.mem_cons, List.not_mem_nil, or_false] at hL
        rcases hL with rfl | rfl <;> assumption)
    · rw [if_neg h2]
      exact ansE_at (t := 1) (G := [A, B]) (by simp) (fun i q h => by
        have : i = 0 := by omega
        subst this; exact h1) h2
  · rw [if_neg h1]
    exact ansE_at (t := 0) (G := [A, B]) (by simp) (fun i q h => by omega) h1

set_option maxRecDepth 100000 in
set_option maxHeartbeats 4000000 in
theorem rincludes_any (n : Int) (A B : List AV) (ao bo : Option Addr) (ac bc : Nat) (w : World) (hA : RdV w ao A) (hB : RdV w bo B) (hYA : ∀ y ∈ A, y.a.length ≤ 1000000) (hYB : ∀ y ∈ B, y.a.length ≤ 1000000 ∧ NilOk y) (hN : bo = none → B = [] ∧ bc = 0) :
    Calls Tryz.prog 22 #[.int .i64 n, .slice ao A.length ac, .slice bo B.length bc] w (EmRes w (incE n A B) (incB n A B)) := by
  have CA := Lib.hid (rcheck_any n A ao ac w hA hYA)
  have CB := Lib.hid (fun W (h : Below w.heap.size w W) => rcheck_any n B bo bc W (hB.on h) (fun y hy => (hYB y hy).1))
  have IM := Lib.hid (fun y W (h : Below w.heap.size w W) hy hyl => rimplies_any n B y bo bc W (hB.on h) hYB hN hy hyl)
  have HE : incE n A B = if chkP n A = 0 then (if chkP n B = 0 then (incS n.toNat A B).2 else chkP n B) else chkP n A := ansE_two _ _ _ _
  by_cases h1 : chkP n A = 0
  case neg =>
    rw [if_neg h1] at HE
    have HB0 : incB n A B = false := by unfold incB; rw [HE]; simp [h1]
    have h1' : (chkP n A != 0) = true := by simpa using h1
    have h1'' : (chkP n A == 0) = false := by simpa using h1
    rw [HE, HB0]
    generalize chkP n A = c at *
    generalize A.length = m at *
    generalize B.length = m2 at *
    clear hA hB hYA hYB h1 HE HB0 IM CB hN
    go_enter Tryz.func22, Tryz.ntmps22
    go_wp2_with fail
    refine CA.out.mono ?_
    rintro e w1 ⟨rfl, hb⟩
    have B1 := Lib.hid hb
    clear hb
    go_wp2_with fail
    refine bodyPost_ret (v := .tuple #[.bool false, .int .i64 c]) (by simp [results, Tryz.results22, go_sem]) rfl ?_
    exact ⟨rfl, B1.out⟩
  rw [if_pos h1] at HE
  rw [h1] at CA
  by_cases h2 : chkP n B = 0
  case neg =>
    rw [if_neg h2] at HE
    have HB0 : incB n A B = false := by unfold incB; rw [HE]; simp [h2]
    have h2' : (chkP n B != 0) = true := by simpa using h2
    rw [HE, HB0]
    generalize chkP n B = c at *
    generalize A.length = m at *
    generalize B.length = m2 at *
    clear hA hB hYA hYB h1 h2 HE HB0 IM hN
    go_enter Tryz.func22, Tryz.ntmps22
    go_wp2_with fail
    refine CA.out.mono ?_
    rintro e w1 ⟨rfl, hb⟩
    have B1 := Lib.hid hb
    have C1 := Lib.hid (CB.out w1 hb)
    clear hb CA CB
    go_wp2_with fail
    refine C1.out.mono ?_
    rintro e w2 ⟨rfl, hb⟩
    have B2 := Lib.hid (below_on B1.out hb)
    clear hb C1
    go_wp2_with fail
    refine bodyPost_ret (v := .tuple #[.bool false, .int .i64 c]) (by simp [results, Tryz.results22, go_sem]) rfl ?_
    exact ⟨rfl, B2.out⟩
  rw [if_pos h2] at HE
  rw [h2] at CB
  obtain ⟨⟨g1, g2⟩, gl, gv⟩ := chk_valid h1
  have IV := Lib.hid (show ∀ y ∈ A, impEr n B y = shE (B.map ofV ++ [(ofV y).opp]) n.toNat n.toNat from fun y hy => by
    unfold impEr impE; rw [if_pos h2]
    have : ((n.toNat : Nat) : Int) = n := by omega
    rw [this, if_pos (gv y hy)])
  obtain ⟨p, hp⟩ : ∃ p : Ln → Bool, p = fun x => !empB (B.map ofV ++ [x.opp]) n.toNat := ⟨_, rfl⟩
  obtain ⟨er, her⟩ : ∃ er : Ln → Int, er = fun x => shE (B.map ofV ++ [x.opp]) n.toNat n.toNat := ⟨_, rfl⟩
  have HS : incS n.toNat A B = anyE p er (A.map ofV) := by rw [hp, her]; rfl
  obtain ⟨r, hr⟩ : ∃ r, r = anyE p er (A.map ofV) := ⟨_, rfl⟩
  rw [HS, ← hr] at HE
  have HB0 : incB n A B = (decide (r.2 = 0) && !r.1) := by unfold incB; rw [HE, HS, ← hr]
  rw [HE, HB0]
  have HRR := Lib.hid hr
  have HAR := Lib.hid hA
  have HYA := Lib.hid hYA
  have IM2 := Lib.hid (show ∀ y ∈ A, ∀ W, Below w.heap.size w W → Rd1 W y.q y.a → Calls Tryz.prog 20 #[.int .i64 n, .slice bo B.length bc, .agg y.cs] W (EmRes W (er (ofV y)) (decide (er (ofV y) = 0) && !p (ofV y))) from fun y hy W h hr => by
    have := IM.out y W h hr (hYA y hy)
    rw [IV.out y hy] at this
    have e1 : er (ofV y) = shE (B.map ofV ++ [(ofV y).opp]) n.toNat n.toNat := by rw [her]
    have e2 : p (ofV y) = !empB (B.map ofV ++ [(ofV y).opp]) n.toNat := by rw [hp]
    rw [e1, e2]
    have hbb : (if shE (B.map ofV ++ [(ofV y).opp]) n.toNat n.toNat = 0 then empB (B.map ofV ++ [(ofV y).opp]) n.toNat else false) = (decide (shE (B.map ofV ++ [(ofV y).opp]) n.toNat n.toNat = 0) && !!empB (B.map ofV ++ [(ofV y).opp]) n.toNat) := by
      by_cases q : shE (B.map ofV ++ [(ofV y).opp]) n.toNat n.toNat = 0 <;> simp [q]
    rw [hbb] at this
    exact this)
  obtain ⟨m, hm⟩ : ∃ m, m = A.length := ⟨_, rfl⟩
  have HM := Lib.hid hm
  have hle : m ≤ 1000 := by omega
  rw [← hm] at CA ⊢
  generalize B.length = m2 at *
  clear hA hB hYA hYB hN HE HB0 HS hr h1 h2 g1 g2 gl gv hp her IV IM hm
  go_enter Tryz.func22, Tryz.ntmps22
  go_wp2_with fail
  refine CA.out.mono ?_
  rintro e w1 ⟨rfl, hb⟩
  have B1 := Lib.hid hb
  have C1 := Lib.hid (CB.out w1 hb)
  clear hb CA CB
  go_wp2_with fail
  refine C1.out.mono ?_
  rintro e w2 ⟨rfl, hb⟩
  have B2 := Lib.hid (below_on B1.out hb)
  clear hb C1
  go_wp2_with fail
  go_loopw [9, 10, 11] (fun s _ _ wr => ∃ t : Nat, s = .int .i64 t ∧ t ≤ m ∧ Hid (Below w.heap.size w wr) ∧ Hid (∀ i, ∀ q : i < (A.map ofV).length, i < t → er (A.map ofV)[i] = 0 ∧ p (A.map ofV)[i] = false)) (fun s _ _ _ => m - (intOf s).toNat)
  case atStart => exact ⟨0, rfl, by omega, B2, Lib.hid (fun i q h => by omega)⟩
  case round =>
    obtain ⟨t, rfl, ht, HB, HF⟩ := hrel
    generalize wr = wo at *
    by_cases htn : t < m
    · have hlt : t < A.length := by have := HM.out; omega
      obtain ⟨a, ha, c0⟩ := (HAR.out.on HB.out).at_ t hlt
      have AH := Lib.hid (anyE_here (p := p) (er := er) (l := A.map ofV) (t := t) (by simpa using hlt) HF.out)
      have hmem := List.getElem_mem hlt
      have RN := Lib.hid ((HAR.out.on HB.out).nums _ hmem)
      have I3 := Lib.hid (IM2.out _ hmem wo HB.out RN.out)
      have HF' := Lib.hid (show er (ofV A[t]) = 0 → p (ofV A[t]) = false → ∀ i, ∀ q : i < (A.map ofV).length, i < t + 1 → er (A.map ofV)[i] = 0 ∧ p (A.map ofV)[i] = false from fun h1 h2 i q h => by
        by_cases e : i = t
        · subst e; simpa using ⟨h1, h2⟩
        · exact HF.out i q (by omega))
      rw [List.getElem_map, ← HRR.out] at AH
      generalize A[t] = y at *
      have C0 := Lib.hid c0
      obtain ⟨pv, hpv⟩ : ∃ pv, pv = p (ofV y) := ⟨_, rfl⟩
      obtain ⟨ee, hee⟩ : ∃ ee, ee = er (ofV y) := ⟨_, rfl⟩
      rw [← hpv, ← hee] at I3 AH HF'
      have tm : (t : Int) < (m : Int) := by omega
      subst ha
      clear hlt c0 hmem hpv hee RN
      go_wp2_with (refine wpl_loadV rfl _ rfl _ rfl y C0.out ?_)
      refine I3.out.mono ?_
      rintro e w3 ⟨rfl, hb⟩
      have B3 := Lib.hid (below_on HB.out hb)
      clear hb I3 C0
      by_cases he : ee = 0
      case neg =>
        have R1 := Lib.hid (show r = (false, ee) by rw [AH.out, if_pos he])
        have e1 : (ee != 0) = true := by simpa using he
        have RX := Lib.hid (show EmRes w r.2 (decide (r.2 = 0) && !r.1) (.returned (.tuple #[.bool false, .int .i64 ee])) w3 from ⟨by rw [R1.out]; simp [he], B3.out⟩)
        clear he AH R1
        go_wp2_with fail
        refine bodyPost_ret (v := .tuple #[.bool false, .int .i64 ee]) (by simp [results, Tryz.results22, go_sem]) rfl ?_
        exact RX.out
      have e1 : (ee != 0) = false := by simpa using he
      cases pv
      · have HF2 := Lib.hid (HF'.out he rfl)
        rw [decide_eq_true he]
        clear he AH HF'
        go_wp2_with fail
        go_roundw
        case rel => exact ⟨t + 1, by go_num, by omega, B3, HF2⟩
        case measure => simp [intOf]; omega
      · have R1 := Lib.hid (show r = (true, 0) by rw [AH.out, if_neg (fun q => q he), if_pos rfl])
        have RX := Lib.hid (show EmRes w r.2 (decide (r.2 = 0) && !r.1) (.returned (.tuple #[.bool false, .int .i64 ee])) w3 from ⟨by rw [R1.out, he]; rfl, B3.out⟩)
        rw [decide_eq_true he]
        clear he AH HF' R1
        go_wp2_with fail
        refine bodyPost_ret (v := .tuple #[.bool false, .int .i64 ee]) (by simp [results, Tryz.results22, go_sem]) rfl ?_
        exact RX.out
    · have R1 := Lib.hid (show r = (false, 0) by rw [HRR.out]; exact anyE_none (fun i q => HF.out i q (by have := HM.out; simp at q; omega)))
      go_wp2_with fail
      refine bodyPost_ret (v := .tuple #[.bool true, .int .i64 0]) (by simp [results, Tryz.results22, go_sem]) rfl ?_
      exact ⟨by rw [R1.out]; rfl, HB.out⟩
end Go.Proofs.YtbhaoaobhgilkaaGreat

namespace Go.Proofs.YtbhaoaobhgilkaaGreat
open Go.RowKit Go.Sort Go.Shelf

set_option maxRecDepth 100000 in
set_option maxHeartbeats 4000000 in
theorem inc11_any (n : Nat) (l : List Ln) (x : Ln) (pn pl b c : Nat) (w : World) (hn : n ≤ 6) (hl : l.length ≤ 1900) (hw : Rw w b l) (hlt : b < w.heap.size) (hg : ∀ y ∈ l, Rg 2147483647 y) (hx : Rg 2147483647 x) (c0 : w.cell? ⟨pn, 0, none⟩ = some (.int .i64 n)) (c1 : w.cell? ⟨pl, 0, none⟩ = some (.slice (some ⟨b, 0, none⟩) l.length c)) :
    Calls Tryz.prog 63 #[.agg x.cs, .pointer (some ⟨pn, 0, none⟩), .pointer (some ⟨pl, 0, none⟩)] w (fun e W' => Below w.heap.size w W' ∧ ((shE (l ++ [x.opp]) n n = 0 ∧ e = .returned (.bool (!empB (l ++ [x.opp]) n))) ∨ (shE (l ++ [x.opp]) n n ≠ 0 ∧ e = .panicked (pan (shE (l ++ [x.opp]) n n))))) := by
  obtain ⟨w0, hw0⟩ : ∃ w0, w0 = w.alloc (.cells x.cs 82) := ⟨_, rfl⟩
  have K0 := Lib.hid (show Bk w0 w.heap.size x by rw [hw0]; exact Bk.made w x hx.len)
  have E0 := Lib.hid (show Below w.heap.size w w0 by rw [hw0]; exact one_more _)
  have C0 := Lib.hid (kept E0.out c0)
  have C1 := Lib.hid (kept E0.out c1)
  have IM := Lib.hid (implies_any n l x b c w0 hn hl (hw.on E0.out hlt) (Nat.lt_of_lt_of_le hlt E0.out.size) hg hx)
  generalize shE (l ++ [x.opp]) n n = E at *
  generalize empB (l ++ [x.opp]) n = eb at *
  generalize l.length = m at *
  clear hn hl hw hlt hg hx c0 c1
  go_enter Tryz.func63, Tryz.ntmps63
  go_upto_region 1 with (fail)
  rw [← hw0]
  clear hw0
  have c0 := C0.out
  have c1 := C1.out
  go_wp2_with (refine wpl_load rfl _ rfl _ rfl x K0.out ?_)
  refine IM.out.mono ?_
  rintro e w1 (⟨he, rfl, hb⟩ | ⟨he, rfl, hb⟩)
  · have B1 := Lib.hid (below_on E0.out hb)
    have HE := Lib.hid he
    clear he hb IM c0 c1
    go_wp2_with fail
    go_ret
    exact ⟨B1.out, Or.inl ⟨HE.out, rfl⟩⟩
  · have B1 := Lib.hid (below_on E0.out hb)
    have HE := Lib.hid he
    clear he hb IM c0 c1
    go_wp2_with fail
    exact And.intro rfl ⟨B1.out, Or.inr ⟨HE.out, rfl⟩⟩

theorem inc11_enters : ∀ args w, (callFunc 63 args).run Tryz.prog w = .ok (.enter 63 args) w := enters_of Tryz.func63 (by kernel_rfl) rfl

set_option maxRecDepth 100000 in
set_option maxHeartbeats 4000000 in
theorem inc1_any (n : Nat) (A B : List AV) (ao bo : Option Addr) (ac bc pn pa pb : Nat) (w : World) (hcA : chkP n A = 0) (hcB : chkP n B = 0) (hA : RdV w ao A) (hB : RdV w bo B) (c0 : w.cell? ⟨pn, 0, none⟩ = some (.int .i64 n)) (c1 : w.cell? ⟨pa, 0, none⟩ = some (.slice ao A.length ac)) (c2 : w.cell? ⟨pb, 0, none⟩ = some (.slice bo B.length bc)) :
    Calls Tryz.prog 61 #[.pointer (some ⟨pb, 0, none⟩), .pointer (some ⟨pa, 0, none⟩), .pointer (some ⟨pn, 0, none⟩)] w fun e W' =>
      ((incS n A B).2 = 0 ∧ ∃ v, e = .returned v ∧ v = .bool (!(incS n A B).1) ∧ Below w.heap.size w W') ∨ ((incS n A B).2 ≠ 0 ∧ e = .panicked (pan (incS n A B).2) ∧ Below w.heap.size w W') := by
  have hmf : ∀ (fn : Fn) (first cap : Array Value) (w : World), (Instr.makeFunc fn first cap).run Tryz.prog w = .ok (.func fn first cap) w := fun _ _ _ _ => rfl
  obtain ⟨⟨_, hn⟩, hlA, hvA⟩ := chk_valid hcA
  obtain ⟨_, hlB, hvB⟩ := chk_valid hcB
  have LB := Lib.hid (fun W (h : Below w.heap.size w W) => lines_row B bo bc W (by omega) (hB.on h) (fun y hy => by have := valid_len (hvB y hy); omega))
  have LA := Lib.hid (fun W (h : Below w.heap.size w W) => lines_any A ao ac W (by omega) (hA.on h) (fun y hy => by have := valid_len (hvA y hy); omega))
  have gA' : ∀ x ∈ A.map ofV, Rg 2147483647 x := fun x hx => by
    obtain ⟨y, hy, rfl⟩ := List.mem_map.1 hx
    exact ofV_rg (by omega) (hvA y hy)
  have gB' : ∀ x ∈ B.map ofV, Rg 2147483647 x := fun x hx => by
    obtain ⟨y, hy, rfl⟩ := List.mem_map.1 hx
    exact ofV_rg (by omega) (hvB y hy)
  have e1 : (A.map ofV).length = A.length := by simp
  have e2 : (B.map ofV).length = B.length := by simp
  have IN := Lib.hid (fun W b pl c x (h1 : Rw W b (B.map ofV)) (h2 : b < W.heap.size) hx h3 h4 => inc11_any n (B.map ofV) x pn pl b c W (by omega) (by omega) h1 h2 gB' hx h3 h4)
  have CN := Lib.hid (fun W ao cap fv (h : RdL W ao (A.map ofV)) => conE_any (A.map ofV) ao cap fv (fun x => !empB (B.map ofV ++ [x.opp]) n) (fun x => shE (B.map ofV ++ [x.opp]) n n) W (by omega) h)
  have GA := Lib.hid gA'
  obtain ⟨r, hr⟩ : ∃ r, r = incS n A B := ⟨_, rfl⟩
  have hr2 : anyE (fun x => !empB (B.map ofV ++ [x.opp]) n) (fun x => shE (B.map ofV ++ [x.opp]) n n) (A.map ofV) = r := hr.symm
  rw [hr2] at CN
  rw [← hr]
  obtain ⟨k1, hk1⟩ : ∃ k, k = A.length := ⟨_, rfl⟩
  obtain ⟨k2, hk2⟩ : ∃ k, k = B.length := ⟨_, rfl⟩
  have K1 := Lib.hid (show k1 = (A.map ofV).length by rw [e1, hk1])
  have K2 := Lib.hid (show k2 = (B.map ofV).length by rw [e2, hk2])
  rw [← hk1] at LA c1
  rw [← hk2] at LB c2
  have C0 := Lib.hid c0
  have C1 := Lib.hid c1
  have C2 := Lib.hid c2
  clear hcA hcB hA hB hlA hvA hlB hvB hr hr2 gA' gB' hk1 hk2 e1 e2 c0 c1
  go_enter Tryz.func61, Tryz.ntmps61
  go_wp2_with fail
  refine (LB.out w (Below.refl _ _)).mono ?_
  rintro e w1 ⟨b, rfl, hrw, hz, hb⟩
  have R1 := Lib.hid hrw
  have Z1 := Lib.hid hz.2
  have B1 := Lib.hid hb
  obtain ⟨w2, hw2⟩ : ∃ w2, w2 = w1.alloc (.cells #[.slice (some ⟨b, 0, none⟩) k2 k2] 66) := ⟨_, rfl⟩
  obtain ⟨b4, hb4⟩ : ∃ b4, b4 = w1.heap.size := ⟨_, rfl⟩
  have X4 := Lib.hid (show Bx1 w2 b4 (.slice (some ⟨b, 0, none⟩) k2 k2) 66 by rw [hw2, hb4]; exact Bx1.made _ _ _)
  have B12 := Lib.hid (show Below w1.heap.size w1 w2 by rw [hw2]; exact one_more _)
  have B2 := Lib.hid (below_on B1.out B12.out)
  have R2 := Lib.hid (R1.out.on B12.out Z1.out)
  have Z2 := Lib.hid (Nat.lt_of_lt_of_le Z1.out B12.out.size)
  rw [← K2.out]
  clear hrw hz hb LB c2
  go_upto_region 2 with (fail)
  rw [← hw2, ← hb4]
  clear hw2 hb4
  have c1 := kept B2.out C1.out
  go_wp2_with fail
  refine (LA.out w2 B2.out).mono ?_
  rintro e w3 ⟨a3, cap3, rfl, hrd, hb⟩
  have B23 := Lib.hid hb
  have B3 := Lib.hid (below_on B2.out hb)
  have TE := Lib.hid (show TellsE (.func (.func 63) #[] #[.pointer (some ⟨pn, 0, none⟩), .pointer (some ⟨b4, 0, none⟩)]) w3 (fun x => !empB (B.map ofV ++ [x.opp]) n) (fun x => shE (B.map ofV ++ [x.opp]) n n) (A.map ofV) from
    ⟨_, _, rfl, inc11_enters, fun W hW x hx => IN.out W b b4 k2 x ((R2.out.on hb Z2.out).on hW (Nat.lt_of_lt_of_le Z2.out hb.size)) (Nat.lt_of_lt_of_le (Nat.lt_of_lt_of_le Z2.out hb.size) hW.size) (GA.out x hx) (kept (below_on B3.out hW) C0.out) (by rw [← K2.out]; exact kept (below_on hb hW) X4.out.cell)⟩)
  have C3 := Lib.hid (CN.out w3 a3 cap3 _ hrd TE.out)
  rw [← K1.out] at C3 ⊢
  clear hrd hb LA CN c1 TE
  go_wp2_with fail
  refine C3.out.mono ?_
  rintro e w4 ⟨hb, (⟨he, rfl⟩ | ⟨he, rfl⟩)⟩
  · have B4 := Lib.hid (below_on B3.out hb)
    have HE := Lib.hid he
    clear he hb C3
    go_wp2_with fail
    go_ret
    exact Or.inl ⟨HE.out, _, rfl, rfl, B4.out⟩
  · have B4 := Lib.hid (below_on B3.out hb)
    have HE := Lib.hid he
    clear he hb C3
    go_wp2_with fail
    exact And.intro rfl (Or.inr ⟨HE.out, rfl, B4.out⟩)

theorem inc1_enters : ∀ args w, (callFunc 61 args).run Tryz.prog w = .ok (.enter 61 args) w := enters_of Tryz.func61 (by kernel_rfl) rfl

set_option maxRecDepth 100000 in
set_option maxHeartbeats 4000000 in
theorem includesP_any (n : Int) (A B : List AV) (ao bo : Option Addr) (ac bc : Nat) (w : World) (hA : RdV w ao A) (hB : RdV w bo B) :
    Calls Tryz.prog 21 #[.int .i64 n, .slice ao A.length ac, .slice bo B.length bc] w (EmRes w (incE n A B) (incB n A B)) := by
  have hmf : ∀ (fn : Fn) (first cap : Array Value) (w : World), (Instr.makeFunc fn first cap).run Tryz.prog w = .ok (.func fn first cap) w := fun _ _ _ _ => rfl
  obtain ⟨k1, hk1⟩ : ∃ m, m = A.length := ⟨_, rfl⟩
  obtain ⟨k2, hk2⟩ : ∃ m, m = B.length := ⟨_, rfl⟩
  obtain ⟨w0, hw0⟩ : ∃ w0, w0 = ((w.alloc (.cells #[.int .i64 n] 3)).alloc (.cells #[.slice ao k1 ac] 22)).alloc (.cells #[.slice bo k2 bc] 22) := ⟨_, rfl⟩
  have E0 := Lib.hid (show Below w.heap.size w w0 by rw [hw0]; exact past_three (Below.refl _ _))
  have X0 := Lib.hid (show Bx1 w0 w.heap.size (.int .i64 n) 3 by rw [hw0]; exact ((Bx1.made w _ _).kept (one_more _)).kept (one_more _))
  have X1 := Lib.hid (show Bx1 w0 (w.heap.size + 1) (.slice ao k1 ac) 22 by rw [hw0]; have := Bx1.made (w.alloc (.cells #[.int .i64 n] 3)) (.slice ao k1 ac) 22; exact Bx1.kept (by simpa using this) (one_more _))
  have X2 := Lib.hid (show Bx1 w0 (w.heap.size + 2) (.slice bo k2 bc) 22 by rw [hw0]; have := Bx1.made ((w.alloc (.cells #[.int .i64 n] 3)).alloc (.cells #[.slice ao k1 ac] 22)) (.slice bo k2 bc) 22; simpa using this)
  have B1 := Lib.hid (one_more (w1 := w0) (.cells #[.slice ao k1 ac, .slice bo k2 bc] 22))
  have hG : RdG (w0.alloc (.cells #[.slice ao k1 ac, .slice bo k2 bc] 22)) (some ⟨w0.heap.size, 0, none⟩) [A, B] := by
    intro t ht
    have : t = 0 ∨ t = 1 := by simp at ht; omega
    rcases this with rfl | rfl
    · refine ⟨_, ao, ac, rfl, ?_, (hA.on E0.out).on B1.out⟩
      rw [addr_add, cell_of_row _ _ 0 _ _ _ (heap_alloc_last w0 _), hk1]; rfl
    · refine ⟨_, bo, bc, rfl, ?_, (hB.on E0.out).on B1.out⟩
      rw [addr_add, cell_of_row _ _ (0 + 1) _ _ _ (heap_alloc_last w0 _), hk2]; rfl
  have AN := Lib.hid (answerB_any 61 #[.pointer (some ⟨w.heap.size + 2, 0, none⟩), .pointer (some ⟨w.heap.size + 1, 0, none⟩), .pointer (some ⟨w.heap.size, 0, none⟩)] n (some ⟨w0.heap.size, 0, none⟩) 2 [A, B] (incS n.toNat A B).2 _ (by simp) hG inc1_enters
    (fun _ v _ => v = .bool (!(incS n.toNat A B).1)) (fun _ _ _ _ _ h _ => h) (fun hc W hW => by
      have hc0 := hc A (by simp)
      have hc1 := hc B (by simp)
      have hn := (chk_valid hc0).1
      have e : ((n.toNat : Nat) : Int) = n := by omega
      refine inc1_any n.toNat A B ao bo ac bc w.heap.size (w.heap.size + 1) (w.heap.size + 2) W (by rw [e]; exact hc0) (by rw [e]; exact hc1) (((hA.on E0.out).on B1.out).on hW) (((hB.on E0.out).on B1.out).on hW) ?_ ?_ ?_
      · rw [e]; exact kept hW (kept B1.out X0.out.cell)
      · rw [← hk1]; exact kept hW (kept B1.out X1.out.cell)
      · rw [← hk2]; exact kept hW (kept B1.out X2.out.cell)))
  have HE := Lib.hid (show ansE n [A, B] (incS n.toNat A B).2 = incE n A B from rfl)
  have HB0 := Lib.hid (show incB n A B = (decide (incE n A B = 0) && !(incS n.toNat A B).1) from rfl)
  have c0 := X0.out.cell
  have c1 := X1.out.cell
  have c2 := X2.out.cell
  simp only [List.length_cons, List.length_nil, Nat.zero_add, Nat.reduceAdd] at AN
  rw [← hk1, ← hk2]
  clear hA hB hG hk1 hk2
  go_enter Tryz.func21, Tryz.ntmps21
  go_upto_region 1 with (fail)
  rw [← hw0]
  clear hw0
  go_wp2_with fail
  refine AN.out.mono ?_
  rintro e w2 ⟨hb, ⟨he, W, v, hW, rfl, rfl⟩ | ⟨he, rfl⟩⟩
  · have B2 := Lib.hid (below_on E0.out (past_one hb))
    rw [HE.out] at he
    have RB := Lib.hid (show EmRes w (incE n A B) (incB n A B) (.returned (.tuple #[.bool (!(incS n.toNat A B).1), .int .i64 0])) w2 from ⟨by rw [HB0.out, he]; rfl, B2.out⟩)
    clear hb he hW
    generalize (incS n.toNat A B).1 = ib at *
    go_wp2_with fail
    refine bodyPost_ret (v := .tuple #[.bool (!ib), .int .i64 0]) (by simp [results, Tryz.results21, go_sem]) rfl ?_
    exact RB.out
  · have B2 := Lib.hid (below_on E0.out (past_one hb))
    rw [HE.out] at he ⊢
    have RB := Lib.hid (show EmRes w (incE n A B) (incB n A B) (.returned (.tuple #[.bool false, .int .i64 (incE n A B)])) w2 from ⟨by rw [HB0.out, decide_eq_false he]; rfl, B2.out⟩)
    clear hb he
    go_wp2_with fail
    refine bodyPost_ret (v := .tuple #[.bool false, .int .i64 (incE n A B)]) (by simp [results, Tryz.results21, go_sem]) rfl ?_
    exact RB.out
end Go.Proofs.YtbhaoaobhgilkaaGreat
