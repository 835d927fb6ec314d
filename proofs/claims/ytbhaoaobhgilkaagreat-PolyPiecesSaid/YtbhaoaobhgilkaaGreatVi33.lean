/- The contract of package poly's point. -/
import Derived.Test.YtbhaoaobhgilkaaGreatVi29
import Derived.Test.YtbhaoaobhgilkaaGreatVi30
import Derived.Test.YtbhaoaobhgilkaaGreatVi32

namespace Go.Proofs.YtbhaoaobhgilkaaGreat
open Go.RowKit Go.Sort Go.Shelf

/-- The cells of ratios, and a row of ratios of the call's own. -/
def qV (ps : List Pq) : List Value := ps.flatMap fun p => [.int .i64 p.1, .int .i64 p.2]

theorem qV_app (ps qs : List Pq) : qV (ps ++ qs) = qV ps ++ qV qs := by unfold qV; rw [List.flatMap_append]

theorem qV_at (ps : List Pq) (k : Nat) (hk : k < ps.length) : (qV ps)[k * 2]? = some (.int .i64 (gp ps k).1) ∧ (qV ps)[k * 2 + 1]? = some (.int .i64 (gp ps k).2) := by
  induction ps generalizing k with
  | nil => simp at hk
  | cons c cs ih =>
    cases k with
    | zero => exact ⟨rfl, rfl⟩
    | succ k =>
      have := ih k (by simp at hk; omega)
      have e : qV (c :: cs) = [.int .i64 c.1, .int .i64 c.2] ++ qV cs := rfl
      have g : gp (c :: cs) (k + 1) = gp cs k := by simp [gp]
      rw [e, g, show (k + 1) * 2 = k * 2 + 2 by omega]
      refine ⟨?_, ?_⟩
      · rw [List.getElem?_append_right (by simp)]; exact this.1
      · rw [List.getElem?_append_right (by simp)]; simpa using this.2

def OwnQ (w : World) (B : Nat) (v : Value) (ps : List Pq) : Prop := w.ownsRow B 50 2 v ps.length (qV ps)

theorem OwnQ.nil (w : World) (B : Nat) : OwnQ w B (.slice none 0 0) [] := World.ownsRow_nil w B _ _

theorem OwnQ.on {w w' : World} {B : Nat} {v : Value} {cs : List Pq} (h : OwnQ w B v cs) (hb : Below w.heap.size w w') : OwnQ w' B v cs := by
  have hg : w.grownBy w' none := ⟨hb.os, hb.tape, hb.output, hb.size, fun k hk _ => hb.block k hk⟩
  exact World.ownsRow.kept h hg (by cases v.ownBlock <;> simp)

theorem OwnQ.read {w : World} {B : Nat} {v : Value} {ps : List Pq} (h : OwnQ w B v ps) : ∃ ao cap, v = .slice ao ps.length cap ∧ Rd2 w ao ps ∧ (∀ a, ao = some a → B ≤ a.block ∧ a.off = 0 ∧ a.spot = none) := by
  rcases h.2 with ⟨rfl, hn⟩ | ⟨g, cap, cur, rfl, hb, hg, hc, hm, hsz, htake⟩
  · refine ⟨none, 0, by rw [hn], fun t ht => by omega, fun a h => by cases h⟩
  · refine ⟨_, cap, rfl, fun t ht => ⟨_, rfl, ?_⟩, fun a h => by cases h; exact ⟨hb, rfl, rfl⟩⟩
    have hc := World.ownsRow.cellAt (g := g) (cap := cap) h
    obtain ⟨c0, c1⟩ := qV_at ps t ht
    refine ⟨?_, ?_⟩
    · rw [addr_add, addr_add, Nat.zero_add]; exact (hc (t * 2 + 0) (by omega)).trans c0
    · rw [addr_add, addr_add, Nat.zero_add]; exact (hc (t * 2 + 1) (by omega)).trans c1

theorem appendQ_run {w : World} {B : Nat} {v : Value} {l : List Pq} (hown : OwnQ w B v l) {b c : Nat} {y : Pq} (hy : QAt w ⟨b, 0, none⟩ y) (hle : l.length + 1 ≤ 2000000) (hB : B ≤ w.heap.size) (ty : TypeId) :
    ∃ v' w', (Builtin.append_ #[26, 26] ty #[v, .slice (some ⟨b, 0, none⟩) 1 c]).run Tryz.prog w = .ok v' w' ∧ OwnQ w' B v' (l ++ [y]) ∧ w.grownBy w' v.ownBlock ∧ (v'.ownBlock = v.ownBlock ∨ v'.ownBlock = some w.heap.size) := by
  obtain ⟨i0, hi, hz0, hz1, hz2⟩ := info_parts rat_info
  obtain ⟨v', w', hr, h2, h3, _, h5⟩ := run_append_own_at (P := Tryz.prog) w B 26 ty 50 i0 (.agg #[.int .i64 0, .int .i64 0]) 2 16 Tryz.underlying26 hi hz0 hz1 hz2 (by rfl) (by decide) v l.length _ hown ⟨b, 0, none⟩ 1 c [.int .i64 y.1, .int .i64 y.2]
    (by simp) (fun j u hu => hy.cs j u hu) (by simp [Value.oneCell']) (by unfold maxLen; omega) (by omega) hB
  refine ⟨v', w', hr, ?_, h3, h5⟩
  unfold OwnQ
  rw [qV_app, List.length_append]; simpa [qV] using h2

theorem wpl_appQ {ops : Array Oper} {rest : List Oper} {o : Oper} {a : Act} {w : World} {Q : Exit → Act → World → Prop} (hgd : o.guard = none) (s x : Operand) (ho : o.op = .call { callee := .builtin .append, args := #[s, x], argTypes := #[26, 26] }) (B : Nat) (v : Value) (l : List Pq) (y : Pq) (hs : a.eval s = v) (hown : OwnQ w B v l) (b c : Nat) (hx : a.eval x = .slice (some ⟨b, 0, none⟩) 1 c) (hy : QAt w ⟨b, 0, none⟩ y)
    (hle : l.length + 1 ≤ 2000000) (hB : B ≤ w.heap.size) (h : ∀ v' w', OwnQ w' B v' (l ++ [y]) → w.grownBy w' v.ownBlock → (v'.ownBlock = v.ownBlock ∨ v'.ownBlock = some w.heap.size) → wpList Tryz.prog ops Q rest (a.put o.dst v') w') : wpList Tryz.prog ops Q (o :: rest) a w := by
  obtain ⟨v', w', hr, h1, h2, h3⟩ := appendQ_run hown hy hle hB (c := c) o.type
  have hk := h v' w' h1 h2 h3
  refine wpList_plain hgd fun K hK => ?_
  unfold Oper.wp
  simp [execOp, ho, resolve, invoke, builtin, hs, hx, hr, Result.andThen]
  exact hK _ _ hk

/-- The first t coordinates that point chooses, and the error. -/
def ptN (l : List Ln) (n : Nat) : Nat → List Pq × Int
  | 0 => ([], 0)
  | t + 1 => if (ptN l n t).2 ≠ 0 then ptN l n t else
    if (enN (shL l n (n - (t + 1))) t (ptN l n t).1 (shL l n (n - (t + 1))).length).2 ≠ 0 then ([], (enN (shL l n (n - (t + 1))) t (ptN l n t).1 (shL l n (n - (t + 1))).length).2) else
    if btE (enN (shL l n (n - (t + 1))) t (ptN l n t).1 (shL l n (n - (t + 1))).length).1.1 (enN (shL l n (n - (t + 1))) t (ptN l n t).1 (shL l n (n - (t + 1))).length).1.2 ≠ 0 then
      ([], btE (enN (shL l n (n - (t + 1))) t (ptN l n t).1 (shL l n (n - (t + 1))).length).1.1 (enN (shL l n (n - (t + 1))) t (ptN l n t).1 (shL l n (n - (t + 1))).length).1.2) else
    ((ptN l n t).1 ++ [btV (enN (shL l n (n - (t + 1))) t (ptN l n t).1 (shL l n (n - (t + 1))).length).1.1 (enN (shL l n (n - (t + 1))) t (ptN l n t).1 (shL l n (n - (t + 1))).length).1.2], 0)

theorem ptN_step {l : List Ln} {n t : Nat} (h : (ptN l n t).2 = 0) {s : List Ln} (hs : s = shL l n (n - (t + 1))) {p : List Pq} (hp : p = (ptN l n t).1) :
    ptN l n (t + 1) = if (enN s t p s.length).2 ≠ 0 then ([], (enN s t p s.length).2) else if btE (enN s t p s.length).1.1 (enN s t p s.length).1.2 ≠ 0 then ([], btE (enN s t p s.length).1.1 (enN s t p s.length).1.2) else (p ++ [btV (enN s t p s.length).1.1 (enN s t p s.length).1.2], 0) := by
  subst hs hp
  conv => lhs; unfold ptN
  rw [if_neg (fun q => q h)]

theorem ptN_stop {l : List Ln} {n t : Nat} (h : (ptN l n t).2 ≠ 0) : ∀ j, ptN l n (t + j) = ptN l n t
  | 0 => rfl
  | j + 1 => by
    have e : ∀ k, (ptN l n k).2 ≠ 0 → ptN l n (k + 1) = ptN l n k := fun k hk => by
      conv => lhs; unfold ptN
      rw [if_pos hk]
    have ih := ptN_stop h j
    exact (e (t + j) (by rw [ih]; exact h)).trans ih

theorem ptN_end {l : List Ln} {n t m : Nat} (ht : t ≤ m) (h : (ptN l n t).2 ≠ 0) : ptN l n m = ptN l n t := by
  have := ptN_stop h (m - t)
  rwa [show t + (m - t) = m by omega] at this

theorem btV_64 {lo up : En} (h : I2 lo.v) (h' : I2 up.v) : I2 (btV lo up) := by
  unfold btV
  (repeat' split) <;> first | assumption | exact mdR_64 _ _ | exact adR_64 _ _ | exact sbR_64 _ _ | (unfold I2 I64; simp)

theorem ptN_len {l : List Ln} {n : Nat} : ∀ t, (ptN l n t).2 = 0 → (ptN l n t).1.length = t ∧ ∀ k, k < t → I2 (gp (ptN l n t).1 k)
  | 0, _ => ⟨rfl, fun k h => by omega⟩
  | t + 1, h => by
    by_cases h0 : (ptN l n t).2 = 0
    · obtain ⟨i1, i2⟩ := ptN_len t h0
      have e := ptN_step h0 rfl rfl
      rw [e] at h ⊢
      generalize shL l n (n - (t + 1)) = s at *
      have N := enN_64 s t (ptN l n t).1 s.length
      generalize enN s t (ptN l n t).1 s.length = E at *
      split at h
      · rename_i q; exact absurd h q
      · rename_i q
        rw [if_neg q]
        split at h
        · rename_i q'; exact absurd h q'
        · rename_i q'
          rw [if_neg q']
          refine ⟨by simp [i1], fun k hk => ?_⟩
          by_cases hkt : k < t
          · have : gp ((ptN l n t).1 ++ [btV E.1.1 E.1.2]) k = gp (ptN l n t).1 k := by
              unfold gp; rw [List.getD_eq_getElem?_getD, List.getD_eq_getElem?_getD, List.getElem?_append_left (by omega)]
            rw [this]; exact i2 k hkt
          · have : gp ((ptN l n t).1 ++ [btV E.1.1 E.1.2]) k = btV E.1.1 E.1.2 := by
              unfold gp
              rw [List.getD_eq_getElem?_getD, List.getElem?_append_right (by omega), show k - (ptN l n t).1.length = 0 by omega]; rfl
            rw [this]; exact btV_64 N.1 N.2
    · have := ptN_end (l := l) (n := n) (Nat.le_succ t) h0
      exact absurd (this ▸ h) h0

/-- What point leaves. -/
def PtR (w : World) (ps : List Pq) (v : Value) (A : World) : Prop := ∃ ao cap, v = .slice ao ps.length cap ∧ Rd2 A ao ps ∧ ∀ a, ao = some a → w.heap.size ≤ a.block

theorem PtR.aside {w A : World} {ps : List Pq} {v : Value} (h : PtR w ps v A) {b : Nat} (hb : b < w.heap.size) (y : Value) : PtR w ps v (A.setCell ⟨b, 0, none⟩ y) := by
  obtain ⟨ao, cap, e, r, f⟩ := h
  refine ⟨ao, cap, e, fun t ht => ?_, f⟩
  obtain ⟨a, ea, c0, c1⟩ := r t ht
  have hf := f a ea
  refine ⟨a, ea, ?_, ?_⟩
  · rw [World.cell?_setCell_other A ⟨b, 0, none⟩ _ y (fun e => by have := congrArg Addr.block e; rw [add_block, add_block] at this; simp only at this; omega)]; exact c0
  · rw [World.cell?_setCell_other A ⟨b, 0, none⟩ _ y (fun e => by have := congrArg Addr.block e; rw [add_block, add_block] at this; simp only at this; omega)]; exact c1

def ptE (l : List Ln) (n : Nat) : Int := if empB l n then 4 else (ptN l n n).2

def PtRes (w : World) (ps : List Pq) (er : Int) (e : Ending) (w' : World) : Prop := Below w.heap.size w w' ∧ ((er = 0 ∧ ∃ v, e = .returned v ∧ PtR w ps v w') ∨ (er ≠ 0 ∧ e = .panicked (pan er)))

set_option maxRecDepth 100000 in
set_option maxHeartbeats 4000000 in
theorem point_any (l : List Ln) (n b : Nat) (cs : Array Value) (w w00 : World) (hn : n ≤ 5) (hl : l.length ≤ 2000) (hg : ∀ x ∈ l, Rg 2147483647 x) (he : shE l n n = 0) (hS : ShR w00 w b l n (n + 1) cs) :
    Calls Tryz.prog 71 #[.slice (some ⟨b, 0, none⟩) (n + 1) (n + 1)] w (PtRes w (ptN l n n).1 (ptE l n)) := by
  have OK : ∀ j, j ≤ n → (shL l n j).length ≤ 2000 ∧ ∀ x ∈ shL l n j, Rg 2147483647 x := fun j hj => shL_ok hl hg j (by
    by_cases q : shE l n j = 0
    · exact q
    · have := shE_stop q (n - j)
      rw [show j + (n - j) = n by omega] at this
      exact absurd (this ▸ he) q)
  obtain ⟨a0, d0, e0, r0⟩ := hS.hi 0 (by omega) (by omega)
  have g0 := (hS.cell 0).trans e0
  have RW := Lib.hid (show ∀ W, Below w.heap.size w W → ∀ j, j < n → ∃ ao c, W.cell? ⟨b, 1 + j, none⟩ = some (.slice ao (shL l n (n - (j + 1))).length c) ∧ RdL W ao (shL l n (n - (j + 1))) from fun W hb j hj => by
    obtain ⟨ao, c, e, r⟩ := hS.hi (j + 1) (by omega) (by omega)
    refine ⟨ao, c, ?_, r.on hb⟩
    have := kept hb ((hS.cell (j + 1)).trans e)
    rw [show 1 + j = j + 1 by omega]; exact this)
  have EM := Lib.hid (show (if 0 < (shL l n n).length then true else false) = empB l n by unfold empB; by_cases q : 0 < (shL l n n).length <;> simp [q])
  have EN := Lib.hid (fun t s (hs : s = shL l n (n - (t + 1))) (ht : t < n) p bo ao bc cap W (hL : RdL W bo s) (hp : p.length = t) (hI : ∀ k, k < t → I2 (gp p k)) (hR : Rd2 W ao p) =>
    ends_any s t p bo ao bc cap W (by rw [hs]; have := (OK (n - (t + 1)) (by omega)).1; omega) hL (by rw [hs]; exact (OK (n - (t + 1)) (by omega)).2) (by omega) (by omega) hR (by rw [hp]; exact hI))
  have hn5 := hn
  have PE := Lib.hid (show ptE l n = if empB l n then 4 else (ptN l n n).2 from rfl)
  have IE := Lib.hid (isEmpty_any b (n + 1) (n + 1) (shL l n (n - 0)).length d0 a0 w (by omega) g0)
  have IB := Lib.hid (show decide (0 < (shL l n (n - 0)).length) = empB l n by rw [Nat.sub_zero]; rfl)
  rw [IB.out] at IE
  clear OK hS hl hg he e0 r0 g0 hn EM IB
  go_enter Tryz.func71, Tryz.ntmps71
  go_wp2_with fail
  refine IE.out.mono ?_
  rintro e w1 ⟨rfl, hb⟩
  have B1 := Lib.hid hb
  clear hb
  cases hem : empB l n
  rotate_left
  · have PF := Lib.hid (show ptE l n = 4 by rw [PE.out, hem, if_pos rfl])
    go_wp2_with fail
    exact And.intro rfl ⟨B1.out, Or.inr ⟨by rw [PF.out]; decide, by rw [PF.out]; rfl⟩⟩
  have PF := Lib.hid (show ptE l n = (ptN l n n).2 by rw [PE.out, hem, if_neg (by simp)])
  clear hem PE IE
  rcases Nat.eq_zero_or_pos n with hz | hz
  · subst hz
    have PR := Lib.hid (show ∀ W, PtR w (ptN l 0 0).1 (.slice none 0 0) W from fun W => ⟨none, 0, rfl, fun t ht => by simp [ptN] at ht, fun a e => by cases e⟩)
    go_wp2_with fail
    go_loopw [3, 12] (fun v s wr => v = .slice none 0 0 ∧ s = .int .i64 0 ∧ Hid (Below w.heap.size w wr)) (fun _ s _ => 0)
    case atStart => exact ⟨rfl, rfl, B1⟩
    case round =>
      obtain ⟨rfl, rfl, HB⟩ := hrel
      go_wp2_with fail
      go_ret
      exact ⟨HB.out, Or.inl ⟨by rw [PF.out]; rfl, _, rfl, PR.out _⟩⟩
  go_wp2_with fail
  go_loopw [3, 12] (fun v s wr => ∃ t : Nat, s = .int .i64 t ∧ t ≤ n ∧ Hid ((ptN l n t).2 = 0) ∧ Hid (Below w.heap.size w wr) ∧ Hid (OwnQ wr w.heap.size v (ptN l n t).1)) (fun _ s _ => n - (intOf s).toNat)
  case atStart => exact ⟨0, rfl, by omega, Lib.hid rfl, B1, Lib.hid (OwnQ.nil _ _)⟩
  case round =>
    obtain ⟨t, rfl, ht, HE, HB, HO⟩ := hrel
    obtain ⟨ap, cp, rfl, rp, rb⟩ := HO.out.read
    obtain ⟨lp, ip⟩ := ptN_len t HE.out
    by_cases htn : t < n
    · obtain ⟨bo, bc, c0, r0⟩ := RW.out wr HB.out t htn
      obtain ⟨s, hs⟩ : ∃ s, s = shL l n (n - (t + 1)) := ⟨_, rfl⟩
      obtain ⟨p, hp⟩ : ∃ p, p = (ptN l n t).1 := ⟨_, rfl⟩
      rw [← hs] at c0 r0
      rw [← hp] at rp lp ip HO
      have CT := Lib.hid (EN.out t s hs htn p bo ap bc cp wr r0 lp ip rp)
      have ST := Lib.hid (ptN_step HE.out hs hp)
      obtain ⟨m, hm⟩ : ∃ m, m = s.length := ⟨_, rfl⟩
      rw [← hm] at c0 CT ST
      obtain ⟨E, hE⟩ : ∃ E, E = enN s t p m := ⟨_, rfl⟩
      have N := enN_64 s t p m
      rw [← hE] at CT ST N
      have NN := Lib.hid N
      have LP := Lib.hid lp
      rw [← hp]
      rw [lp] at CT HO ⊢
      have TN := Lib.hid htn
      clear r0 rp rb ip hs hp hm hE N lp
      go_wp2_with fail
      refine CT.out.mono ?_
      rintro e w2 ⟨hb, (⟨he, rfl⟩ | ⟨he, rfl⟩)⟩
      rotate_left
      · have e1 : ptN l n (t + 1) = ([], E.2) := by rw [ST.out, if_pos he]
        have e2 : (ptN l n n).2 = E.2 := by rw [ptN_end (t := t + 1) (by omega) (by rw [e1]; exact he), e1]
        go_wp2_with fail
        exact And.intro rfl ⟨below_on HB.out hb, Or.inr ⟨by rw [PF.out, e2]; exact he, by rw [PF.out, e2]⟩⟩
      have HB2 := Lib.hid (below_on HB.out hb)
      have HO2 := Lib.hid (HO.out.on hb)
      have Z1 := Lib.hid he
      clear hb he c0
      go_wp2_with fail
      refine (between_any E.1.1 E.1.2 w2 NN.out.1 NN.out.2).mono ?_
      rintro e w3 ⟨hb, (⟨he, rfl⟩ | ⟨he, rfl⟩)⟩
      rotate_left
      · have e1 : ptN l n (t + 1) = ([], btE E.1.1 E.1.2) := by rw [ST.out, if_neg (fun q => q Z1.out), if_pos he]
        have e2 : (ptN l n n).2 = btE E.1.1 E.1.2 := by rw [ptN_end (t := t + 1) (by omega) (by rw [e1]; exact he), e1]
        go_wp2_with fail
        exact And.intro rfl ⟨below_on HB2.out hb, Or.inr ⟨by rw [PF.out, e2]; exact he, by rw [PF.out, e2]⟩⟩
      have e1 := Lib.hid (show ptN l n (t + 1) = (p ++ [btV E.1.1 E.1.2], 0) by rw [ST.out, if_neg (fun q => q Z1.out), if_neg (fun q => q he)])
      obtain ⟨x, hx⟩ : ∃ x, x = btV E.1.1 E.1.2 := ⟨_, rfl⟩
      rw [← hx] at e1 ⊢
      have B4 := Lib.hid (one_more (w1 := w3) (.cells #[.int .i64 x.1, .int .i64 x.2] 50))
      have Q4 := Lib.hid (show QAt (w3.alloc (.cells #[.int .i64 x.1, .int .i64 x.2] 50)) ⟨w3.heap.size, 0, none⟩ x from (Pair.made w3 x.1 x.2 _).qAt)
      have HB4 := Lib.hid (below_on (below_on HB2.out hb) B4.out)
      have HO4 := Lib.hid ((HO2.out.on hb).on B4.out)
      have z4 := HB4.out.size
      clear hx hb he HO HO2 HB HB2
      go_wp2_with (at_builtin; refine wpl_appQ rfl _ _ rfl w.heap.size _ p x rfl HO4.out _ _ rfl Q4.out (by have := LP.out; have := TN.out; omega) z4 ?_)
      intro v' w5 o5 g5 f5
      have BG := Lib.hid (Below.grown HB4.out g5 HB4.out.size (fun k hk => (World.ownsRow.lt HO4.out k hk).1))
      have OG := Lib.hid o5
      clear o5 g5 f5 z4
      go_wp2_with fail
      go_roundw
      case rel => exact ⟨t + 1, by go_num, by omega, Lib.hid (by rw [e1.out]), BG, Lib.hid (by rw [e1.out]; exact OG.out)⟩
      case measure => simp [intOf]; omega
    · obtain rfl : t = n := by omega
      have PR := Lib.hid (show PtR w (ptN l t t).1 (.slice ap (ptN l t t).1.length cp) wr from ⟨ap, cp, rfl, rp, fun a e => (rb a e).1⟩)
      rw [lp] at PR ⊢
      clear rp rb lp ip
      go_wp2_with fail
      go_ret
      exact ⟨HB.out, Or.inl ⟨by rw [PF.out]; exact HE.out, _, rfl, PR.out⟩⟩
end Go.Proofs.YtbhaoaobhgilkaaGreat
