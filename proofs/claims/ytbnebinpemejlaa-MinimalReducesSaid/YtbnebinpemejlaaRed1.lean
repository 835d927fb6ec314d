/- MinimalReduces, for whatever zone.; MinimalReduces, for whatever zone: the walk.; MinimalReduces, for whatever zone: the walk, of no elements.; MinimalReduces, for whatever zone: the walk, of nil. -/
import Derived.Test.YtbnebinpemejlaaG14

namespace Go.Proofs.Ytbnebinpemejlaa
open Go.RowKit

/-- What Reduce leaves, as a slice. -/
def CVal (w : World) (cs : List Con) (er : Int) (e : Ending) (w' : World) : Prop :=
  ∃ ao cap, e = .returned (.tuple #[.slice ao cs.length cap, .int .i64 er]) ∧ Arg3 w' ao cs ∧ Below w.heap.size w w'

theorem CRes.cval {w : World} {cs : List Con} {er : Int} {e : Ending} {w' : World} (h : CRes w cs er e w') : CVal w cs er e w' := by
  obtain ⟨hb, v, rfl, hv⟩ := h
  obtain ⟨ao, cap, rfl, hA⟩ := hv.arg
  exact ⟨ao, cap, rfl, hA, hb⟩

theorem rdcL_le (N : Int) (l : List Int) : (rdcL N l).length ≤ 1000 := by
  unfold rdcL
  split
  · rename_i h
    obtain ⟨n, rfl, hn, _⟩ := chk_ok h
    have := redL_le (l := l) hn
    simp only [Int.toNat_natCast]; omega
  · simp

set_option maxRecDepth 100000 in
set_option maxHeartbeats 4000000 in
theorem reduces_long (N : Int) (ao : Option Addr) (len cap : Nat) (w : World) (h : 200 < len) :
    Calls Try.prog 9 #[.agg #[.int .i64 N, .slice ao len cap]] w (Made (.bool true) w) := by
  have SH := Lib.hid (fun W => shown4_any W)
  have D : decide ((200 : Int) < (len : Int)) = true := by simp; omega
  go_enter Try.func9, Try.ntmps9
  go_wp2_with fail
  refine (SH.out _).mono ?_
  rintro e w8 ⟨rfl, hb8⟩
  have B8 := Lib.hid (past_one hb8)
  clear hb8
  go_wp2_with fail
  go_ret
  exact ⟨rfl, B8.out⟩

/-- The frame: a zone that is a parameter, boxed: whatever it is. -/
theorem zboxN (N : Int) (ao : Option Addr) (len cap : Nat) (w : World) : ∃ w0, w0 = w.alloc (.cells #[.int .i64 N, .slice ao len cap] 25) ∧ Below w.heap.size w w0 ∧
    (∀ W : World, Below w0.heap.size w0 W → (W.cell? ⟨w.heap.size, 0, none⟩ = some (.int .i64 N) ∧ W.cell? ⟨w.heap.size, 1, none⟩ = some (.slice ao len cap))) := by
  refine ⟨_, rfl, one_more _, fun W h => ?_⟩
  have bx := (Two.made w (.int .i64 N) (.slice ao len cap) 25).kept h
  exact ⟨bx.facts.1, bx.facts.2.1⟩

/-- 'append' of nothing that is nil, as one step of a region that draws its order. -/
theorem step_append_nil {P : Program} {ops : Array Oper} {o : Oper} {a : Act} {w : World} {K : Act → World → Prop} {Q : Exit → Act → World → Prop} {E : Prop}
    (hg : o.guard = none) (s x : Operand) (t : TypeId) (hop : o.op = Op.call { callee := Callee.builtin Builtin.append, args := #[s, x], argTypes := #[t, t] })
    (e : TypeId) (i : TypeInfo) (size : Nat) (h1 : P.underlying t = some (.slice e)) (h2 : P.info? e = some i)
    (base n : Nat) (v : Value) (xs : List Value) (hown : w.ownsRow base e size v n xs) (hs : a.eval s = v) (hx : a.eval x = .slice none 0 0)
    (hK : K (a.put o.dst v) w) :
    if Region.wanted o (yielded ops a.tmps) = true then Oper.wp P o a w K Q else E := by
  have hw : Region.wanted o (yielded ops a.tmps) = true := by simp [Region.wanted, hg]
  rw [if_pos hw]
  have hrun := run_append_owned_none (P := P) (w := w) base t o.type e i size h1 h2 v n xs hown
  unfold Oper.wp
  simp [execOp, hop, resolve, invoke, builtin, hs, hx, hrun, Result.andThen]
  exact hK

theorem ownL_arg {w : World} {B : Nat} {v : Value} {l : List Int} (h : w.ownsRow B 43 1 v l.length (l.map (Value.int .i64))) : ∃ ao cap, v = .slice ao l.length cap ∧ Arg w ao l := by
  rcases h.2 with ⟨rfl, hn⟩ | ⟨g, cap, cur, rfl, hb, hg, hc, hm, hsz, htake⟩
  · exact ⟨none, 0, by rw [hn], fun hne => absurd (List.eq_nil_of_length_eq_zero hn) hne⟩
  · exact ⟨_, cap, rfl, fun _ => ⟨_, rfl, (own_of h rfl rfl).1.rd⟩⟩

theorem ownL_low {w : World} {B : Nat} {v : Value} {l : List Int} (h : w.ownsRow B 43 1 v l.length (l.map (Value.int .i64))) : ∃ ao cap, v = .slice ao l.length cap ∧ Arg w ao l ∧ ∀ b, ao = some b → B ≤ b.block := by
  rcases h.2 with ⟨rfl, hn⟩ | ⟨g, cap, cur, rfl, hb, hg, hc, hm, hsz, htake⟩
  · exact ⟨none, 0, by rw [hn], fun hne => absurd (List.eq_nil_of_length_eq_zero hn) hne, fun b hb => by cases hb⟩
  · exact ⟨_, cap, rfl, fun _ => ⟨_, rfl, (own_of h rfl rfl).1.rd⟩, fun b hb' => by obtain rfl := Option.some.inj hb'; exact hb⟩

theorem grown_self {w w' : World} (hg : w.grownBy w' none) : Below w.heap.size w w' := ⟨hg.os, hg.tape, hg.output, hg.size, fun k hk => hg.block k hk (by simp)⟩

theorem store_far {w0 w : World} (h : Below w0.heap.size w0 w) {x : Nat} (hx : w0.heap.size ≤ x) (u v : Value) : Below w0.heap.size w0 ((w.setCell ⟨x, 0, none⟩ u).setCell ⟨x, 1, none⟩ v) := (h.setCell hx u).setCell hx v

theorem arg_far {w : World} {ao : Option Addr} {l : List Int} (h : Arg w ao l) {x : Nat} (hx : ∀ a, ao = some a → a.block ≠ x) (u v : Value) : Arg ((w.setCell ⟨x, 0, none⟩ u).setCell ⟨x, 1, none⟩ v) ao l := fun hl => by
  obtain ⟨a, h1, h2⟩ := h hl
  refine ⟨a, h1, fun j hj => ?_⟩
  have hb : (a.add j).block ≠ x := by
    have := hx a h1
    unfold Addr.add; split
    · exact this
    · exact this
  rw [World.cell?_setCell_other _ _ _ _ (fun e => hb (by rw [← e])), World.cell?_setCell_other _ _ _ _ (fun e => hb (by rw [← e]))]
  exact h2 j hj
end Go.Proofs.Ytbnebinpemejlaa

namespace Go.Proofs.Ytbnebinpemejlaa
open Go.RowKit

set_option maxRecDepth 100000 in
set_option maxHeartbeats 8000000 in
theorem reduces_grow (N : Int) (l : List Int) (a : Addr) (cap : Nat) (w : World) (hA : Arg w (some a) l) (hR : Rd w a l) (hdl : l.length ≤ 200) (hpos : 0 < l.length) :
    Calls Try.prog 9 #[.agg #[.int .i64 N, .slice (some a) l.length cap]] w (Made (.bool true) w) := by
  obtain ⟨i0, hi, hz0, hz1, hz2⟩ := info_parts Try.info43
  have RD := Lib.hid (show ∀ W ao c, Arg W ao l → Calls Try.prog 54 #[.agg #[.int .i64 N, .slice ao l.length c]] W (CVal W (rdcL N l) (rdcE N l)) from fun W ao c h => (zreduce_gen N l ao c W h).mono fun e w' h => h.cval)
  have RR := Lib.hid (show ∀ W, Below w.heap.size w W → Calls Try.prog 55 #[.agg #[.int .i64 N, .slice (some a) l.length cap]] W (CVal W (rdcL N l) (rdcE N l)) from fun W h => (rreduce_gen N l (some a) cap W (hA.on h)).mono fun e w' h => h.cval)
  have SC := Lib.hid (show ∀ W ao ca bo cb, Arg3 W ao (rdcL N l) → Arg3 W bo (rdcL N l) → Calls Try.prog 56 #[.slice ao (rdcL N l).length ca, .slice bo (rdcL N l).length cb] W (Made (.bool true) W) from fun W ao ca bo cb h1 h2 => by
    have := lcs_any (rdcL N l) (rdcL N l) ao bo ca cb W h1 h2 (rdcL_le N l)
    rw [decide_eq_true rfl] at this
    exact this)
  have SM := Lib.hid (show ∀ W bo cb, Arg W bo l → Below w.heap.size w W → Calls Try.prog 41 #[.agg #[.int .i64 N, .slice bo l.length cb], .agg #[.int .i64 N, .slice (some a) l.length cap]] W (Made (.bool true) W) from fun W bo cb h1 h => by
    have := same_any N N l l bo (some a) cb cap W h1 (hA.on h) (by omega)
    rw [same_refl rfl rfl] at this
    exact this)
  have SH := Lib.hid (fun W => shown4_any W)
  have l1 : (l.map (Value.int .i64)).length = l.length * 1 := by simp
  have HO1 := Lib.hid (show ∀ u ∈ l.map (Value.int .i64), u.oneCell' = true by simp [Value.oneCell'])
  have RN := Lib.hid (show ∀ (w' : World), Below w.heap.size w w' → ∀ j u, (l.map (Value.int .i64))[j]? = some u → w'.cell? (a.add j) = some u from fun w' h => (hR.on h).map)
  have HOW := Lib.hid (show ∀ w' B v, w'.ownsRow B 43 1 v l.length (l.map (Value.int .i64)) → ∃ ao cap, v = .slice ao l.length cap ∧ Arg w' ao l ∧ ∀ b, ao = some b → B ≤ b.block from fun w' B v h => ownL_low h)
  generalize l.map (Value.int .i64) = xs at *
  generalize rdcL N l = cs at *
  generalize rdcE N l = er at *
  generalize hlen : l.length = len at *
  unfold CVal at RD RR
  generalize cs.length = clen at *
  obtain ⟨w0, hw0, e0, ks⟩ := zboxN N (some a) len cap w
  have KS := Lib.hid ks
  have E0 := Lib.hid e0
  have D2 : decide ((200 : Int) < ((len : Nat) : Int)) = false := by simp; omega
  have z0 : w0.heap.size = w.heap.size + 1 := by rw [hw0]; simp
  have HW0 := Lib.hid hw0
  obtain ⟨b0, b1⟩ := ks w0 (Below.refl _ _)
  have B1 : Below w0.heap.size w0 w0.drew := (Below.refl _ _).drew
  have HB2 := Lib.hid (fun o : Obj => show Below w0.heap.size w0 (w0.drew.alloc o) from B1.alloc (Nat.le_refl _) o)
  have HB3 := Lib.hid (fun o p : Obj => show Below w0.heap.size w0 ((w0.drew.alloc o).alloc p) from (HB2.out o).alloc (HB2.out o).size p)
  have HB1 := Lib.hid B1
  have T3 := Lib.hid (fun o : Obj => show Two ((w0.drew.alloc o).alloc (.cells #[.int .i64 0, .slice none 0 0] 25)) (w.heap.size + 1 + 1) (.int .i64 0) (.slice none 0 0) from by
    have := Two.made (w0.drew.alloc o) (.int .i64 0) (.slice none 0 0) 25
    rw [show (w0.drew.alloc o).heap.size = w.heap.size + 1 + 1 by simp [z0]] at this
    exact this)
  have T2 := Lib.hid (fun o : Obj => show Two ((w0.drew.alloc (.cells #[.int .i64 0, .slice none 0 0] 25)).alloc o) (w.heap.size + 1) (.int .i64 0) (.slice none 0 0) from by
    have := (Two.made w0.drew (.int .i64 0) (.slice none 0 0) 25).alloc o
    rw [show w0.drew.heap.size = w.heap.size + 1 from z0] at this
    exact this)
  have OWA := Lib.hid (show (w0.drew.alloc (.cells #[] 43)).ownsRow 0 43 1 (.slice (some ⟨w.heap.size + 1, 0, none⟩) 0 0) 0 [] by
    have := World.ownsRow_made (base := 0) (e := 43) (size := 1) w0.drew #[] 0 (Nat.zero_le _) (Nat.zero_le _) (by simp)
    rw [show w0.drew.heap.size = w.heap.size + 1 from z0] at this
    exact this)
  have OWC := Lib.hid (fun o : Obj => show ((w0.drew.alloc o).alloc (.cells #[] 43)).ownsRow 0 43 1 (.slice (some ⟨w.heap.size + 1 + 1, 0, none⟩) 0 0) 0 [] from by
    have := World.ownsRow_made (base := 0) (e := 43) (size := 1) (w0.drew.alloc o) #[] 0 (Nat.zero_le _) (Nat.zero_le _) (by simp)
    rw [show (w0.drew.alloc o).heap.size = w.heap.size + 1 + 1 by simp [z0]] at this
    exact this)
  have A0 := Lib.hid (show ∀ W, Below w0.heap.size w0 W → Arg W (some a) l from fun W h => hA.on (below_on E0.out h))
  clear e0 hw0 B1 hA
  go_enter Try.func9, Try.ntmps9
  go_upto_region 1 with (fail)
  rw [← HW0.out]
  go_wp2_with fail
  clear b0 b1
  go_cut [3] (fun s3 wx => ∃ (p : Nat) (mo : Option Addr) (mc : Nat), s3 = .pointer (some ⟨p, 0, none⟩) ∧ Hid (Two wx p (.int .i64 N) (.slice mo len mc) ∧ Arg wx mo l ∧ Below w0.heap.size w0 wx))
  case first =>
    go_region_held3 (fun w' => w'.cell? ⟨w.heap.size, 0, none⟩ = some (.int .i64 N) ∧ w'.cell? ⟨w.heap.size, 1, none⟩ = some (.slice (some a) len cap)) (first | exact KS.out _ HB1.out | exact KS.out _ (HB2.out _) | exact KS.out _ (HB3.out _ _) | exact KS.out _ (by assumption) | exact KS.out _ (Below.alloc (by assumption) (Below.size (by assumption)) _) | exact KS.out _ (store_far (by assumption) (by omega) _ _) | exact KS.out _ (store_far (Below.alloc (by assumption) (Below.size (by assumption)) _) (by omega) _ _))
      (first | (refine step_append_grows rfl (.tmp 15) (.tmp 17) 22 rfl 43 i0 (.int .i64 0) 1 8 Try.underlying22 hi hz0 hz1 hz2 rfl (by decide) (some ⟨w.heap.size + 1, 0, none⟩) 0 0 [] (by simp [Act.eval]) (by simp) rfl (by simp) a len cap xs (by simp [Act.eval]) l1 (RN.out _ (below_on E0.out (HB2.out _))) HO1.out (by omega) (by unfold maxLen; omega) (by omega) ?_; intro v' w5 hown hgrow; have B5 : Below w0.heap.size w0 w5 := grown_below (HB2.out _) hgrow; obtain ⟨mo, mc, rfl, hA5, hL5⟩ := HOW.out _ _ _ (by simpa using hown); clear hown hgrow) | (refine step_append_grows rfl (.tmp 15) (.tmp 17) 22 rfl 43 i0 (.int .i64 0) 1 8 Try.underlying22 hi hz0 hz1 hz2 rfl (by decide) (some ⟨w.heap.size + 1, 0, none⟩) 0 0 [] (by simp [Act.eval]) (by simp) rfl (by simp) a len cap xs (by simp [Act.eval]) l1 (RN.out _ (below_on E0.out (HB3.out _ _))) HO1.out (by omega) (by unfold maxLen; omega) (by omega) ?_; intro v' w5 hown hgrow; have B5 : Below w0.heap.size w0 w5 := grown_below (HB3.out _ _) hgrow; obtain ⟨mo, mc, rfl, hA5, hL5⟩ := HOW.out _ _ _ (by simpa using hown); obtain ⟨q0, q1, q2, q3⟩ := ((T3.out _).kept (grown_self hgrow)).facts; clear hown hgrow) | (refine step_append_grows rfl (.tmp 15) (.tmp 17) 22 rfl 43 i0 (.int .i64 0) 1 8 Try.underlying22 hi hz0 hz1 hz2 rfl (by decide) (some ⟨w.heap.size + 1 + 1, 0, none⟩) 0 0 [] (by simp [Act.eval]) (by simp) rfl (by simp) a len cap xs (by simp [Act.eval]) l1 (RN.out _ (below_on E0.out (HB3.out _ _))) HO1.out (by omega) (by unfold maxLen; omega) (by omega) ?_; intro v' w5 hown hgrow; have B5 : Below w0.heap.size w0 w5 := grown_below (HB3.out _ _) hgrow; obtain ⟨mo, mc, rfl, hA5, hL5⟩ := HOW.out _ _ _ (by simpa using hown); obtain ⟨q0, q1, q2, q3⟩ := ((T2.out _).kept (grown_self hgrow)).facts; clear hown hgrow))
    · go_wp2_with fail
      go_meet
      case rel => exact ⟨_, mo, mc, rfl, Lib.hid ⟨Two.made _ _ _ _, hA5.on (one_more _), B5.alloc B5.size _⟩⟩
    · go_wp2_with fail
      go_meet
      case rel => exact ⟨_, mo, mc, rfl, Lib.hid ⟨Two.put ⟨⟨q0, q2⟩, ⟨q1, q3⟩⟩ _ _, arg_far hA5 (fun b hb => by have := hL5 b hb; omega) _ _, store_far B5 (by omega) _ _⟩⟩
    · go_wp2_with fail
      go_meet
      case rel => exact ⟨_, mo, mc, rfl, Lib.hid ⟨Two.put ⟨⟨q0, q2⟩, ⟨q1, q3⟩⟩ _ _, arg_far hA5 (fun b hb => by have := hL5 b hb; omega) _ _, store_far B5 (by omega) _ _⟩⟩
  case rest =>
    obtain ⟨p, mo, mc, rfl, HX⟩ := hcut
    have XB := Lib.hid HX.out.1
    have XA := Lib.hid HX.out.2.1
    have B1 := Lib.hid HX.out.2.2
    obtain ⟨d0, d1, d2, d3⟩ := XB.out.facts
    go_wp2_with fail
    refine (RD.out _ _ _ XA.out).mono ?_
    rintro e w2 ⟨co, cc, rfl, hC2, hb2⟩
    have C2 := Lib.hid hC2
    have B2 := Lib.hid (below_on B1.out hb2)
    have H2 := Lib.hid hb2
    clear hC2 hb2 d0 d1 d2 d3
    obtain ⟨b0, b1⟩ := KS.out _ B2.out
    go_wp2_with fail
    refine (RR.out _ (below_on E0.out B2.out)).mono ?_
    rintro e w3 ⟨eo, ec, rfl, hC3, hb3⟩
    have C3 := Lib.hid hC3
    have B3 := Lib.hid (below_on B2.out hb3)
    have H3 := Lib.hid hb3
    clear hC3 hb3 b0 b1
    go_wp2_with fail
    refine (SC.out _ _ _ _ _ (C2.out.on H3.out) C3.out).mono ?_
    rintro e w4 ⟨rfl, hb4⟩
    have B4 := Lib.hid (below_on B3.out hb4)
    have H4 := Lib.hid (below_on (below_on H2.out H3.out) hb4)
    clear hb4
    obtain ⟨b0, b1⟩ := KS.out _ B4.out
    obtain ⟨d0, d1, d2, d3⟩ := (XB.out.kept H4.out).facts
    have DE : (er == er) = true := by simp
    go_wp2_with fail
    refine (SM.out _ _ _ (XA.out.on H4.out) (below_on E0.out B4.out)).mono ?_
    rintro e w5 ⟨rfl, hb5⟩
    have B5 := Lib.hid (below_on B4.out hb5)
    clear hb5 b0 b1 d0 d1 d2 d3
    go_wp2_with fail
    refine (SH.out _).mono ?_
    rintro e w6 ⟨rfl, hb6⟩
    have B6 := Lib.hid (below_on B5.out hb6)
    clear hb6
    go_wp2_with fail
    go_ret
    exact ⟨rfl, below_on E0.out B6.out⟩
end Go.Proofs.Ytbnebinpemejlaa

namespace Go.Proofs.Ytbnebinpemejlaa
open Go.RowKit

set_option maxRecDepth 100000 in
set_option maxHeartbeats 8000000 in
theorem reduces_fit (N : Int) (l : List Int) (hl : l = []) (a : Addr) (cap : Nat) (w : World) :
    Calls Try.prog 9 #[.agg #[.int .i64 N, .slice (some a) l.length cap]] w (Made (.bool true) w) := by
  obtain ⟨i0, hi, hz0, hz1, hz2⟩ := info_parts Try.info43
  have hA : ∀ (W : World) (ao : Option Addr), Arg W ao l := fun W ao q => absurd hl q
  have RD := Lib.hid (show ∀ W ao c, Arg W ao l → Calls Try.prog 54 #[.agg #[.int .i64 N, .slice ao l.length c]] W (CVal W (rdcL N l) (rdcE N l)) from fun W ao c h => (zreduce_gen N l ao c W h).mono fun e w' h => h.cval)
  have RR := Lib.hid (show ∀ W, Below w.heap.size w W → Calls Try.prog 55 #[.agg #[.int .i64 N, .slice (some a) l.length cap]] W (CVal W (rdcL N l) (rdcE N l)) from fun W h => (rreduce_gen N l (some a) cap W (hA _ _)).mono fun e w' h => h.cval)
  have SC := Lib.hid (show ∀ W ao ca bo cb, Arg3 W ao (rdcL N l) → Arg3 W bo (rdcL N l) → Calls Try.prog 56 #[.slice ao (rdcL N l).length ca, .slice bo (rdcL N l).length cb] W (Made (.bool true) W) from fun W ao ca bo cb h1 h2 => by
    have := lcs_any (rdcL N l) (rdcL N l) ao bo ca cb W h1 h2 (rdcL_le N l)
    rw [decide_eq_true rfl] at this
    exact this)
  have SM := Lib.hid (show ∀ W bo cb, Arg W bo l → Below w.heap.size w W → Calls Try.prog 41 #[.agg #[.int .i64 N, .slice bo l.length cb], .agg #[.int .i64 N, .slice (some a) l.length cap]] W (Made (.bool true) W) from fun W bo cb h1 h => by
    have := same_any N N l l bo (some a) cb cap W h1 (hA _ _) (by rw [hl]; simp)
    rw [same_refl rfl rfl] at this
    exact this)
  have SH := Lib.hid (fun W => shown4_any W)
  have HNIL := Lib.hid (show ∀ (W : World) (mo : Option Addr), Arg W mo l from fun W mo q => absurd hl q)

  generalize rdcL N l = cs at *
  generalize rdcE N l = er at *
  generalize hlen : l.length = len at *
  obtain rfl : len = 0 := by rw [← hlen, hl]; rfl
  clear hlen hl
  unfold CVal at RD RR
  generalize cs.length = clen at *
  obtain ⟨w0, hw0, e0, ks⟩ := zboxN N (some a) 0 cap w
  have KS := Lib.hid ks
  have E0 := Lib.hid e0
  have D2 : decide ((200 : Int) < ((0 : Nat) : Int)) = false := by simp
  have z0 : w0.heap.size = w.heap.size + 1 := by rw [hw0]; simp
  have HW0 := Lib.hid hw0
  obtain ⟨b0, b1⟩ := ks w0 (Below.refl _ _)
  have B1 : Below w0.heap.size w0 w0.drew := (Below.refl _ _).drew
  have HB2 := Lib.hid (fun o : Obj => show Below w0.heap.size w0 (w0.drew.alloc o) from B1.alloc (Nat.le_refl _) o)
  have HB3 := Lib.hid (fun o p : Obj => show Below w0.heap.size w0 ((w0.drew.alloc o).alloc p) from (HB2.out o).alloc (HB2.out o).size p)
  have HB1 := Lib.hid B1
  have F1 := Lib.hid (fun u v : Value => show Two ((w0.alloc (.cells #[] 43)).alloc (.cells #[u, v] 25)).drew (w.heap.size + 1 + 1) u v from by
    have := (Two.made (w0.alloc (.cells #[] 43)) u v 25).kept ((Below.refl _ _).drew)
    rw [show (w0.alloc (.cells #[] 43)).heap.size = w.heap.size + 1 + 1 by simp [z0]] at this
    exact this)
  have F2 := Lib.hid (fun u v : Value => show Two ((w0.alloc (.cells #[u, v] 25)).alloc (.cells #[] 43)).drew (w.heap.size + 1) u v from by
    have := ((Two.made w0 u v 25).alloc (.cells #[] 43)).kept ((Below.refl _ _).drew)
    rw [z0] at this
    exact this)
  have F3 := Lib.hid (fun o p : Obj => show Below w0.heap.size w0 ((w0.alloc o).alloc p).drew from (past_two (Below.refl _ _)).drew)
  have T3 := Lib.hid (fun o : Obj => show Two ((w0.drew.alloc o).alloc (.cells #[.int .i64 0, .slice none 0 0] 25)) (w.heap.size + 1 + 1) (.int .i64 0) (.slice none 0 0) from by
    have := Two.made (w0.drew.alloc o) (.int .i64 0) (.slice none 0 0) 25
    rw [show (w0.drew.alloc o).heap.size = w.heap.size + 1 + 1 by simp [z0]] at this
    exact this)
  have T2 := Lib.hid (fun o : Obj => show Two ((w0.drew.alloc (.cells #[.int .i64 0, .slice none 0 0] 25)).alloc o) (w.heap.size + 1) (.int .i64 0) (.slice none 0 0) from by
    have := (Two.made w0.drew (.int .i64 0) (.slice none 0 0) 25).alloc o
    rw [show w0.drew.heap.size = w.heap.size + 1 from z0] at this
    exact this)
  have OWA := Lib.hid (show (w0.drew.alloc (.cells #[] 43)).ownsRow 0 43 1 (.slice (some ⟨w.heap.size + 1, 0, none⟩) 0 0) 0 [] by
    have := World.ownsRow_made (base := 0) (e := 43) (size := 1) w0.drew #[] 0 (Nat.zero_le _) (Nat.zero_le _) (by simp)
    rw [show w0.drew.heap.size = w.heap.size + 1 from z0] at this
    exact this)
  have OWC := Lib.hid (fun o : Obj => show ((w0.drew.alloc o).alloc (.cells #[] 43)).ownsRow 0 43 1 (.slice (some ⟨w.heap.size + 1 + 1, 0, none⟩) 0 0) 0 [] from by
    have := World.ownsRow_made (base := 0) (e := 43) (size := 1) (w0.drew.alloc o) #[] 0 (Nat.zero_le _) (Nat.zero_le _) (by simp)
    rw [show (w0.drew.alloc o).heap.size = w.heap.size + 1 + 1 by simp [z0]] at this
    exact this)
  have A0 := Lib.hid (show ∀ W, Below w0.heap.size w0 W → Arg W (some a) l from fun W _ => hA _ _)
  clear e0 hw0 B1 hA
  go_enter Try.func9, Try.ntmps9
  go_upto_region 1 with (fail)
  rw [← HW0.out]
  go_wp2_with fail
  clear b0 b1
  go_cut [3] (fun s3 wx => ∃ (p : Nat) (mo : Option Addr) (mc : Nat), s3 = .pointer (some ⟨p, 0, none⟩) ∧ Hid (Two wx p (.int .i64 N) (.slice mo 0 mc) ∧ Arg wx mo l ∧ Below w0.heap.size w0 wx))
  case first =>
    go_region_held3 (fun w' => w'.cell? ⟨w.heap.size, 0, none⟩ = some (.int .i64 N) ∧ w'.cell? ⟨w.heap.size, 1, none⟩ = some (.slice (some a) 0 cap)) (first | exact KS.out _ HB1.out | exact KS.out _ (HB2.out _) | exact KS.out _ (HB3.out _ _) | exact KS.out _ (by assumption) | exact KS.out _ (Below.alloc (by assumption) (Below.size (by assumption)) _) | exact KS.out _ (store_far (by assumption) (by omega) _ _) | exact KS.out _ (store_far (Below.alloc (by assumption) (Below.size (by assumption)) _) (by omega) _ _))
      (first | (fail))
    · go_wp2_with fail
      go_meet
      case rel => exact ⟨_, _, _, rfl, Lib.hid ⟨F1.out _ _, HNIL.out _ _, F3.out _ _⟩⟩
    · go_wp2_with fail
      go_meet
      case rel => exact ⟨_, _, _, rfl, Lib.hid ⟨F1.out _ _, HNIL.out _ _, F3.out _ _⟩⟩
    · go_wp2_with fail
      go_meet
      case rel => exact ⟨_, _, _, rfl, Lib.hid ⟨F2.out _ _, HNIL.out _ _, F3.out _ _⟩⟩
  case rest =>
    obtain ⟨p, mo, mc, rfl, HX⟩ := hcut
    have XB := Lib.hid HX.out.1
    have XA := Lib.hid HX.out.2.1
    have B1 := Lib.hid HX.out.2.2
    obtain ⟨d0, d1, d2, d3⟩ := XB.out.facts
    go_wp2_with fail
    refine (RD.out _ _ _ XA.out).mono ?_
    rintro e w2 ⟨co, cc, rfl, hC2, hb2⟩
    have C2 := Lib.hid hC2
    have B2 := Lib.hid (below_on B1.out hb2)
    have H2 := Lib.hid hb2
    clear hC2 hb2 d0 d1 d2 d3
    obtain ⟨b0, b1⟩ := KS.out _ B2.out
    go_wp2_with fail
    refine (RR.out _ (below_on E0.out B2.out)).mono ?_
    rintro e w3 ⟨eo, ec, rfl, hC3, hb3⟩
    have C3 := Lib.hid hC3
    have B3 := Lib.hid (below_on B2.out hb3)
    have H3 := Lib.hid hb3
    clear hC3 hb3 b0 b1
    go_wp2_with fail
    refine (SC.out _ _ _ _ _ (C2.out.on H3.out) C3.out).mono ?_
    rintro e w4 ⟨rfl, hb4⟩
    have B4 := Lib.hid (below_on B3.out hb4)
    have H4 := Lib.hid (below_on (below_on H2.out H3.out) hb4)
    clear hb4
    obtain ⟨b0, b1⟩ := KS.out _ B4.out
    obtain ⟨d0, d1, d2, d3⟩ := (XB.out.kept H4.out).facts
    have DE : (er == er) = true := by simp
    go_wp2_with fail
    refine (SM.out _ _ _ (XA.out.on H4.out) (below_on E0.out B4.out)).mono ?_
    rintro e w5 ⟨rfl, hb5⟩
    have B5 := Lib.hid (below_on B4.out hb5)
    clear hb5 b0 b1 d0 d1 d2 d3
    go_wp2_with fail
    refine (SH.out _).mono ?_
    rintro e w6 ⟨rfl, hb6⟩
    have B6 := Lib.hid (below_on B5.out hb6)
    clear hb6
    go_wp2_with fail
    go_ret
    exact ⟨rfl, below_on E0.out B6.out⟩
end Go.Proofs.Ytbnebinpemejlaa

namespace Go.Proofs.Ytbnebinpemejlaa
open Go.RowKit

set_option maxRecDepth 100000 in
set_option maxHeartbeats 8000000 in
theorem reduces_nil (N : Int) (l : List Int) (hl : l = []) (w : World) :
    Calls Try.prog 9 #[.agg #[.int .i64 N, .slice none l.length 0]] w (Made (.bool true) w) := by
  obtain ⟨i0, hi, hz0, hz1, hz2⟩ := info_parts Try.info43
  have hA : ∀ (W : World) (ao : Option Addr), Arg W ao l := fun W ao q => absurd hl q
  have RD := Lib.hid (show ∀ W ao c, Arg W ao l → Calls Try.prog 54 #[.agg #[.int .i64 N, .slice ao l.length c]] W (CVal W (rdcL N l) (rdcE N l)) from fun W ao c h => (zreduce_gen N l ao c W h).mono fun e w' h => h.cval)
  have RR := Lib.hid (show ∀ W, Below w.heap.size w W → Calls Try.prog 55 #[.agg #[.int .i64 N, .slice none l.length 0]] W (CVal W (rdcL N l) (rdcE N l)) from fun W h => (rreduce_gen N l none 0 W (hA _ _)).mono fun e w' h => h.cval)
  have SC := Lib.hid (show ∀ W ao ca bo cb, Arg3 W ao (rdcL N l) → Arg3 W bo (rdcL N l) → Calls Try.prog 56 #[.slice ao (rdcL N l).length ca, .slice bo (rdcL N l).length cb] W (Made (.bool true) W) from fun W ao ca bo cb h1 h2 => by
    have := lcs_any (rdcL N l) (rdcL N l) ao bo ca cb W h1 h2 (rdcL_le N l)
    rw [decide_eq_true rfl] at this
    exact this)
  have SM := Lib.hid (show ∀ W bo cb, Arg W bo l → Below w.heap.size w W → Calls Try.prog 41 #[.agg #[.int .i64 N, .slice bo l.length cb], .agg #[.int .i64 N, .slice none l.length 0]] W (Made (.bool true) W) from fun W bo cb h1 h => by
    have := same_any N N l l bo none cb 0 W h1 (hA _ _) (by rw [hl]; simp)
    rw [same_refl rfl rfl] at this
    exact this)
  have SH := Lib.hid (fun W => shown4_any W)
  have HNIL := Lib.hid (show ∀ (W : World) (mo : Option Addr), Arg W mo l from fun W mo q => absurd hl q)

  generalize rdcL N l = cs at *
  generalize rdcE N l = er at *
  generalize hlen : l.length = len at *
  obtain rfl : len = 0 := by rw [← hlen, hl]; rfl
  clear hlen hl
  unfold CVal at RD RR
  generalize cs.length = clen at *
  obtain ⟨w0, hw0, e0, ks⟩ := zboxN N none 0 0 w
  have KS := Lib.hid ks
  have E0 := Lib.hid e0
  have D2 : decide ((200 : Int) < ((0 : Nat) : Int)) = false := by simp
  have z0 : w0.heap.size = w.heap.size + 1 := by rw [hw0]; simp
  have HW0 := Lib.hid hw0
  obtain ⟨b0, b1⟩ := ks w0 (Below.refl _ _)
  have B1 : Below w0.heap.size w0 w0.drew := (Below.refl _ _).drew
  have HB2 := Lib.hid (fun o : Obj => show Below w0.heap.size w0 (w0.drew.alloc o) from B1.alloc (Nat.le_refl _) o)
  have HB3 := Lib.hid (fun o p : Obj => show Below w0.heap.size w0 ((w0.drew.alloc o).alloc p) from (HB2.out o).alloc (HB2.out o).size p)
  have HB1 := Lib.hid B1
  have F1 := Lib.hid (fun u v : Value => show Two ((w0.alloc (.cells #[] 43)).alloc (.cells #[u, v] 25)).drew (w.heap.size + 1 + 1) u v from by
    have := (Two.made (w0.alloc (.cells #[] 43)) u v 25).kept ((Below.refl _ _).drew)
    rw [show (w0.alloc (.cells #[] 43)).heap.size = w.heap.size + 1 + 1 by simp [z0]] at this
    exact this)
  have F2 := Lib.hid (fun u v : Value => show Two ((w0.alloc (.cells #[u, v] 25)).alloc (.cells #[] 43)).drew (w.heap.size + 1) u v from by
    have := ((Two.made w0 u v 25).alloc (.cells #[] 43)).kept ((Below.refl _ _).drew)
    rw [z0] at this
    exact this)
  have F3 := Lib.hid (fun o p : Obj => show Below w0.heap.size w0 ((w0.alloc o).alloc p).drew from (past_two (Below.refl _ _)).drew)
  have T3 := Lib.hid (fun o : Obj => show Two ((w0.drew.alloc o).alloc (.cells #[.int .i64 0, .slice none 0 0] 25)) (w.heap.size + 1 + 1) (.int .i64 0) (.slice none 0 0) from by
    have := Two.made (w0.drew.alloc o) (.int .i64 0) (.slice none 0 0) 25
    rw [show (w0.drew.alloc o).heap.size = w.heap.size + 1 + 1 by simp [z0]] at this
    exact this)
  have T2 := Lib.hid (fun o : Obj => show Two ((w0.drew.alloc (.cells #[.int .i64 0, .slice none 0 0] 25)).alloc o) (w.heap.size + 1) (.int .i64 0) (.slice none 0 0) from by
    have := (Two.made w0.drew (.int .i64 0) (.slice none 0 0) 25).alloc o
    rw [show w0.drew.heap.size = w.heap.size + 1 from z0] at this
    exact this)
  have OWA := Lib.hid (show (w0.drew.alloc (.cells #[] 43)).ownsRow 0 43 1 (.slice (some ⟨w.heap.size + 1, 0, none⟩) 0 0) 0 [] by
    have := World.ownsRow_made (base := 0) (e := 43) (size := 1) w0.drew #[] 0 (Nat.zero_le _) (Nat.zero_le _) (by simp)
    rw [show w0.drew.heap.size = w.heap.size + 1 from z0] at this
    exact this)
  have OWC := Lib.hid (fun o : Obj => show ((w0.drew.alloc o).alloc (.cells #[] 43)).ownsRow 0 43 1 (.slice (some ⟨w.heap.size + 1 + 1, 0, none⟩) 0 0) 0 [] from by
    have := World.ownsRow_made (base := 0) (e := 43) (size := 1) (w0.drew.alloc o) #[] 0 (Nat.zero_le _) (Nat.zero_le _) (by simp)
    rw [show (w0.drew.alloc o).heap.size = w.heap.size + 1 + 1 by simp [z0]] at this
    exact this)
  have A0 := Lib.hid (show ∀ W, Below w0.heap.size w0 W → Arg W none l from fun W _ => hA _ _)
  clear e0 hw0 B1 hA
  go_enter Try.func9, Try.ntmps9
  go_upto_region 1 with (fail)
  rw [← HW0.out]
  go_wp2_with fail
  clear b0 b1
  go_cut [3] (fun s3 wx => ∃ (p : Nat) (mo : Option Addr) (mc : Nat), s3 = .pointer (some ⟨p, 0, none⟩) ∧ Hid (Two wx p (.int .i64 N) (.slice mo 0 mc) ∧ Arg wx mo l ∧ Below w0.heap.size w0 wx))
  case first =>
    go_region_held3 (fun w' => w'.cell? ⟨w.heap.size, 0, none⟩ = some (.int .i64 N) ∧ w'.cell? ⟨w.heap.size, 1, none⟩ = some (.slice none 0 0)) (first | exact KS.out _ HB1.out | exact KS.out _ (HB2.out _) | exact KS.out _ (HB3.out _ _) | exact KS.out _ (by assumption) | exact KS.out _ (Below.alloc (by assumption) (Below.size (by assumption)) _) | exact KS.out _ (store_far (by assumption) (by omega) _ _) | exact KS.out _ (store_far (Below.alloc (by assumption) (Below.size (by assumption)) _) (by omega) _ _))
      (first | (fail))
    · go_wp2_with fail
      go_meet
      case rel => exact ⟨_, _, _, rfl, Lib.hid ⟨F1.out _ _, HNIL.out _ _, F3.out _ _⟩⟩
    · go_wp2_with fail
      go_meet
      case rel => exact ⟨_, _, _, rfl, Lib.hid ⟨F1.out _ _, HNIL.out _ _, F3.out _ _⟩⟩
    · go_wp2_with fail
      go_meet
      case rel => exact ⟨_, _, _, rfl, Lib.hid ⟨F2.out _ _, HNIL.out _ _, F3.out _ _⟩⟩
  case rest =>
    obtain ⟨p, mo, mc, rfl, HX⟩ := hcut
    have XB := Lib.hid HX.out.1
    have XA := Lib.hid HX.out.2.1
    have B1 := Lib.hid HX.out.2.2
    obtain ⟨d0, d1, d2, d3⟩ := XB.out.facts
    go_wp2_with fail
    refine (RD.out _ _ _ XA.out).mono ?_
    rintro e w2 ⟨co, cc, rfl, hC2, hb2⟩
    have C2 := Lib.hid hC2
    have B2 := Lib.hid (below_on B1.out hb2)
    have H2 := Lib.hid hb2
    clear hC2 hb2 d0 d1 d2 d3
    obtain ⟨b0, b1⟩ := KS.out _ B2.out
    go_wp2_with fail
    refine (RR.out _ (below_on E0.out B2.out)).mono ?_
    rintro e w3 ⟨eo, ec, rfl, hC3, hb3⟩
    have C3 := Lib.hid hC3
    have B3 := Lib.hid (below_on B2.out hb3)
    have H3 := Lib.hid hb3
    clear hC3 hb3 b0 b1
    go_wp2_with fail
    refine (SC.out _ _ _ _ _ (C2.out.on H3.out) C3.out).mono ?_
    rintro e w4 ⟨rfl, hb4⟩
    have B4 := Lib.hid (below_on B3.out hb4)
    have H4 := Lib.hid (below_on (below_on H2.out H3.out) hb4)
    clear hb4
    obtain ⟨b0, b1⟩ := KS.out _ B4.out
    obtain ⟨d0, d1, d2, d3⟩ := (XB.out.kept H4.out).facts
    have DE : (er == er) = true := by simp
    go_wp2_with fail
    refine (SM.out _ _ _ (XA.out.on H4.out) (below_on E0.out B4.out)).mono ?_
    rintro e w5 ⟨rfl, hb5⟩
    have B5 := Lib.hid (below_on B4.out hb5)
    clear hb5 b0 b1 d0 d1 d2 d3
    go_wp2_with fail
    refine (SH.out _).mono ?_
    rintro e w6 ⟨rfl, hb6⟩
    have B6 := Lib.hid (below_on B5.out hb6)
    clear hb6
    go_wp2_with fail
    go_ret
    exact ⟨rfl, below_on E0.out B6.out⟩
end Go.Proofs.Ytbnebinpemejlaa
