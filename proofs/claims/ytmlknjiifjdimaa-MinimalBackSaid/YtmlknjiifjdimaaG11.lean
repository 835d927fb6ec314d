/- The contract of layer 4's divide.; Contracts of layer 4's collect and Reduce.; The contracts of layer 4's Reduce, of the program and of the reference, for any zone.; Contracts of Close, Zero and All of layer 3's reference.; The contract of layer 3's Close.; Contracts of Zero and All of layer 3's reference. -/
import Derived.Test.YtmlknjiifjdimaaG10
import Derived.Test.YtmlknjiifjdimaaG3
import Derived.Test.YtmlknjiifjdimaaG7

namespace Go.Proofs.Ytmlknjiifjdimaa
open Go.RowKit

def arrF (f : Nat → Nat) : Array Value := ((List.range 11).map fun k => Value.int .i64 (f k)).toArray

theorem arrF_size (f : Nat → Nat) : (arrF f).size = 11 := by simp [arrF]

theorem arrF_one (f : Nat → Nat) : (arrF f).all (·.oneCell') = true := by
  rw [Array.all_eq_true_iff_forall_mem]
  intro v hv
  simp [arrF] at hv
  obtain ⟨x, _, rfl⟩ := hv
  rfl

theorem arrF_at (f : Nat → Nat) {k : Nat} (hk : k < 11) : (arrF f)[k]? = some (.int .i64 (f k)) := by
  simp [arrF, hk]

theorem arrF_set (f : Nat → Nat) (k x : Nat) : (arrF f).setIfInBounds k (.int .i64 x) = arrF (fun j => if j = k then x else f j) := by
  apply Array.ext_getElem?
  intro j
  rw [Array.getElem?_setIfInBounds]
  by_cases hj : j < 11
  · rw [arrF_at _ hj, arrF_at _ hj]
    by_cases e : k = j
    · subst e; simp [arrF_size]; omega
    · rw [if_neg e, if_neg (fun h => e h.symm)]
  · have h1 : ∀ g : Nat → Nat, (arrF g)[j]? = none := fun g => by rw [Array.getElem?_eq_none]; rw [arrF_size]; omega
    rw [h1, h1]
    split
    · rw [if_neg (by rw [arrF_size]; omega)]
    · rfl

theorem arrF_eq {f g : Nat → Nat} (h : ∀ k, k < 11 → f k = g k) : arrF f = arrF g := by
  unfold arrF
  congr 1
  apply List.map_congr_left
  intro k hk
  rw [h k (List.mem_range.1 hk)]

/-- The classes at b have become A; else nothing from before has turned. -/
def CSt (w0 : World) (b : Nat) (f : Nat → Nat) (w : World) : Prop := Crow w b (arrF f) ∧ w0.grownBy w (some b)

theorem Crow.put {w : World} {b : Nat} {f : Nat → Nat} (h : Crow w b (arrF f)) (k x : Nat) : Crow (w.setCell ⟨b, k, none⟩ (.int .i64 x)) b (arrF (fun j => if j = k then x else f j)) := by
  refine ⟨?_, arrF_size _⟩
  rw [heap_setCell_same w b _ _ _ _ h.1, ← arrF_set]

theorem CSt.put {w0 w : World} {b : Nat} {f g : Nat → Nat} (h : CSt w0 b f w) (k x : Nat) (hg : ∀ j, j < 11 → (if j = k then x else f j) = g j) : CSt w0 b g (w.setCell ⟨b, k, none⟩ (.int .i64 x)) :=
  ⟨by rw [← arrF_eq hg]; exact h.1.put k x, grown_trans h.2 (grown_put _ _ _ _)⟩

theorem CSt.on {w0 w w' : World} {b : Nat} {f : Nat → Nat} (h : CSt w0 b f w) (hb : Below w.heap.size w w') : CSt w0 b f w' :=
  ⟨h.1.kept hb, grown_trans h.2 ⟨hb.os, hb.tape, hb.output, hb.size, fun k hk _ => hb.block k hk⟩⟩

theorem CSt.cell {w0 w : World} {b : Nat} {f : Nat → Nat} (h : CSt w0 b f w) {k : Nat} (hk : k < 11) : w.cell? ⟨b, k, none⟩ = some (.int .i64 (f k)) := by
  rw [cell_of_row _ _ k _ _ _ h.1.1]; exact arrF_at f hk

theorem CSt.free {w0 w : World} {b : Nat} {f : Nat → Nat} (h : CSt w0 b f w) (k : Nat) : w.frozen? ⟨b, k, none⟩ = false := frozen_of_row w b k _ _ h.1.1

theorem CSt.like {w0 w : World} {b : Nat} {f g : Nat → Nat} (h : CSt w0 b f w) (hg : ∀ j, j < 11 → f j = g j) : CSt w0 b g w := ⟨by rw [← arrF_eq hg]; exact h.1, h.2⟩

theorem Crow.store {w : World} {b : Nat} {old : Array Value} (h : Crow w b old) (cs : Array Value) (hs : cs.size = 11) : Crow (w.setRow b cs) b cs := ⟨setRow_heap w b old _ _ _ h.1, hs⟩

theorem wplc_store {ops : Array Oper} {rest : List Oper} {o : Oper} {a : Act} {w : World} {Q : Exit → Act → World → Prop} (hgd : o.guard = none) (x y : Operand) (ho : o.op = .store 120 x y)
    (b : Nat) (cs : Array Value) (hx : a.eval x = .pointer (some ⟨b, 0, none⟩)) (hy : a.eval y = .agg cs) (old : Array Value) (hv : Crow w b old) (hs : cs.size = 11) (h1 : cs.all (·.oneCell') = true)
    (h : wpList Try.prog ops Q rest (a.put o.dst undef) (w.setRow b cs)) : wpList Try.prog ops Q (o :: rest) a w :=
  wpList_store_row hgd _ x y ho b cs hx hy _ old hv.1 (by rw [hs]; exact cls_size) (by rw [hv.2, hs]) h1 h

theorem cls_loadC {w : World} {b : Nat} {cs : Array Value} (h : Crow w b cs) : (loadVar 120 ⟨b, 0, none⟩).run Try.prog w = .ok (.agg cs) w :=
  run_loadVar_row w b _ _ cs (0, 0) _ h.1 Try.underlying120 rfl (by rw [h.2]; exact cls_size)

theorem results_cls {fn : Func} {p : Tmp} (h : fn.results = #[.cell p 120]) (tmps : Array Value) {w : World} {b : Nat} {cs : Array Value}
    (hp : tmps.getD p undef = .pointer (some ⟨b, 0, none⟩)) (hv : Crow w b cs) : (results fn tmps).run Try.prog w = .ok (.agg cs) w := by
  have hp' : tmps[p]?.getD undef = .pointer (some ⟨b, 0, none⟩) := by simpa using hp
  simp [results, h, hp', asAddr, cls_loadC hv]

theorem cls_zero (w : World) : (zeroValue 120).run Try.prog w = .ok (.agg (arrF fun _ => 0)) w := by
  have h : (Try.prog.info? 120).map (fun i => (i.zero, i.size)) = some (some (.agg (arrF fun _ => 0)), 11) := by kernel_rfl
  exact (zero_of_info h).1 w

theorem areb_len {n : Nat} {l : List Int} {a : Addr} {cap len : Nat} {w : World} (hz : Vz n l) (h : Rd w a l) (hlen : len = l.length) :
    ∀ (i j : Nat) (W : World), i ≤ n → j ≤ n → Below w.heap.size w W → Calls Try.prog 133 #[.agg #[.int .i64 n, .slice (some a) len cap], .int .i64 i, .int .i64 j] W (Made (.bool (bdB n l i j)) W) := by
  intro i j W hi hj h'
  have i64 : ∀ i j, i ≤ n → j ≤ n → I64 (Zo.At n l i j) := fun i j hi hj => by
    have := lv_two (hz.lv hi hj).1
    unfold I64; omega
  have := areb_any n i j l a cap W hz.hn hi hj hz.hl i64 (h.on h')
  rw [← hlen, su_eq (hz.lv hi hj).1 (hz.lv hj hi).1 (show lvB 1 = true by decide)] at this
  have e : decide (1 = Zo.smW (Zo.At n l i j) (Zo.At n l j i)) = bdB n l i j := by
    unfold bdB; rw [Bool.eq_iff_iff, decide_eq_true_eq, decide_eq_true_eq]; exact eq_comm
  rw [e] at this
  exact this

set_option maxHeartbeats 3200000 in
theorem divide_any (n : Nat) (l : List Int) (a : Addr) (cap : Nat) (w : World) (hz : Vz n l) (h : Rd w a l) :
    Calls Try.prog 110 #[.agg #[.int .i64 n, .slice (some a) l.length cap]] w (Made (.agg (arrF fun k => if k ≤ n then clsF n l k else 0)) w) := by
  obtain ⟨len, hlen⟩ : ∃ len, len = l.length := ⟨_, rfl⟩
  have AB := Lib.hid (areb_len (cap := cap) hz h hlen)
  have HZ := Lib.hid hz
  have hn := hz.hn
  have z0 := cls_zero
  rw [← hlen]
  obtain ⟨w0, hw0⟩ : ∃ w0, w0 = ((w.alloc (.cells #[.int .i64 n, .slice (some a) len cap] 25)).alloc (.cells (arrF fun _ => 0) 120)).alloc (.cells (arrF fun _ => 0) 120) := ⟨_, rfl⟩
  have bx : Two w0 w.heap.size (.int .i64 n) (.slice (some a) len cap) := by rw [hw0]; exact ((Two.made _ _ _ _).alloc _).alloc _
  have r1 : Crow w0 (w.heap.size + 1) (arrF fun _ => 0) := by
    rw [hw0]
    have := (Crow.made (w.alloc (.cells #[.int .i64 n, .slice (some a) len cap] 25)) (arrF_size fun _ => 0)).alloc (.cells (arrF fun _ => 0) 120)
    simpa using this
  have r2 : Crow w0 (w.heap.size + 1 + 1) (arrF fun _ => 0) := by
    rw [hw0]
    have := Crow.made ((w.alloc (.cells #[.int .i64 n, .slice (some a) len cap] 25)).alloc (.cells (arrF fun _ => 0) 120)) (arrF_size fun _ => 0)
    simpa using this
  have E0 := Lib.hid (show Below w.heap.size w w0 by rw [hw0]; exact past_three (Below.refl _ _))
  have R1 := Lib.hid r1
  have CB := Lib.hid (show CSt w0 (w.heap.size + 1 + 1) (fun k => if k < 0 then clsF n l k else 0) w0 from CSt.like ⟨r2, World.grownBy.refl _ _⟩ (fun j _ => by simp))
  have KB := Lib.hid (show ∀ f W, CSt w0 (w.heap.size + 1 + 1) f W → W.cell? ⟨w.heap.size, 0, none⟩ = some (.int .i64 n) ∧ W.cell? ⟨w.heap.size, 1, none⟩ = some (.slice (some a) len cap) from
    fun f W h => ⟨h.2.cell bx.1.1 (by simp; omega), h.2.cell bx.2.1 (by simp; omega)⟩)
  have KE := Lib.hid (show ∀ f W, CSt w0 (w.heap.size + 1 + 1) f W → Below w.heap.size w W from fun f W h => grown_over E0.out h.2 (by omega))
  have HW0 := Lib.hid hw0
  clear hlen h hz bx r1 r2 hw0
  go_enter Try.func110, Try.ntmps110
  go_wp2_with fail
  rw [← HW0.out]
  go_loopw [8] (fun s wr => ∃ t : Nat, t ≤ n + 1 ∧ s = .int .i64 t ∧ Hid (CSt w0 (w.heap.size + 1 + 1) (fun k => if k < t then clsF n l k else 0) wr)) (fun s _ => n + 1 - (intOf s).toNat)
  case atStart => exact ⟨0, by omega, rfl, CB⟩
  case round =>
    obtain ⟨t, ht, rfl, HX⟩ := hrel
    by_cases htn : t ≤ n
    case pos =>
      obtain ⟨b0, b1⟩ := KB.out _ _ HX.out
      have D9 : decide ((t : Int) < (n : Int) + 1) = true := by simp; omega
      have k1 : (0 : Int) ≤ (t : Int) := by omega
      have k2 : (t : Int) < 11 := by omega
      have k3 : (t : Int) < (11 : Nat) := by omega
      go_wp2_with fail
      clear b0 b1
      go_loopw [] (fun wx => ∃ s : Nat, s ≤ t ∧ Hid ((∀ k, k < s → bdB n l t k = false) ∧ CSt w0 (w.heap.size + 1 + 1) (fun k => if k < t then clsF n l k else if k = t then s else 0) wx)) (fun wx => t - (intOf ((wx.cell? ⟨w.heap.size + 1 + 1, t, none⟩).getD undef)).toNat)
      case atStart => exact ⟨0, by omega, Lib.hid ⟨fun k hk => by omega, HX.out.like fun j hj => by split <;> simp⟩⟩
      case round =>
        obtain ⟨s, hs, HY⟩ := hrel
        have FS := Lib.hid (show CSt w0 (w.heap.size + 1 + 1) (fun k => if k < t then clsF n l k else if k = t then s else 0) wr from HY.out.2)
        have cs : wr.cell? ⟨w.heap.size + 1 + 1, t, none⟩ = some (.int .i64 s) := by
          have := FS.out.cell (k := t) (by omega)
          simpa using this
        have fz : wr.frozen? ⟨w.heap.size + 1 + 1, t, none⟩ = false := FS.out.free t
        have KS := Lib.hid (show ∀ W, Below wr.heap.size wr W → (W.cell? ⟨w.heap.size, 0, none⟩ = some (.int .i64 n) ∧ W.cell? ⟨w.heap.size, 1, none⟩ = some (.slice (some a) len cap)) ∧ W.cell? ⟨w.heap.size + 1 + 1, t, none⟩ = some (.int .i64 s) from
          fun W h => ⟨KB.out _ _ (FS.out.on h), kept h cs⟩)
        have KF := Lib.hid (show ∀ W, Below wr.heap.size wr W → W.frozen? ⟨w.heap.size + 1 + 1, t, none⟩ = false from fun W h => (FS.out.on h).free t)
        have HMS := Lib.hid (show (intOf ((wr.cell? ⟨w.heap.size + 1 + 1, t, none⟩).getD undef)).toNat = s by rw [cs]; simp [intOf])
        clear cs fz
        have s1 : Below wr.heap.size wr wr.drew := (Below.refl _ _).drew
        cases hb : bdB n l t s
        case false =>
          have hst : s < t := by
            by_cases e : s = t
            · subst e; rw [bd_self HZ.out htn] at hb; cases hb
            · omega
          have HBF := Lib.hid hb
          clear hb
          go_wp2_with fail
          go_region_held3 (fun w' => (w'.cell? ⟨w.heap.size, 0, none⟩ = some (.int .i64 n) ∧ w'.cell? ⟨w.heap.size, 1, none⟩ = some (.slice (some a) len cap)) ∧ w'.cell? ⟨w.heap.size + 1 + 1, t, none⟩ = some (.int .i64 s)) (first | exact KS.out _ s1 | exact KS.out _ s2)
            (first | (go_at_call 133; refine (made_as (AB.out t s _ htn (by omega) (KE.out _ _ (FS.out.on s1))) HBF.out).mono ?_; rintro e wa ⟨rfl, hba⟩; have s2 := below_on s1 hba))
          have Q := Lib.hid s2
          clear s1 s2 hba
          obtain ⟨⟨b0, b1⟩, cs⟩ := KS.out _ Q.out
          have fz := KF.out _ Q.out
          have HN := Lib.hid (show (∀ k, k < s + 1 → bdB n l t k = false) ∧ CSt w0 (w.heap.size + 1 + 1) (fun k => if k < t then clsF n l k else if k = t then s + 1 else 0) (wa.setCell ⟨w.heap.size + 1 + 1, t, none⟩ (.int .i64 ((s + 1 : Nat) : Int))) from
            ⟨fun k hk => by
              by_cases e : k = s
              · rw [e]; exact HBF.out
              · exact HY.out.1 k (by omega), (FS.out.on Q.out).put t (s + 1) (fun j hj => by
                by_cases e : j = t
                · subst e; simp
                · simp [e])⟩)
          have HM2 := Lib.hid (show (((wa.setCell ⟨w.heap.size + 1 + 1, t, none⟩ (.int .i64 ((s + 1 : Nat) : Int))).cell? ⟨w.heap.size + 1 + 1, t, none⟩).getD undef) = .int .i64 ((s + 1 : Nat) : Int) by
            rw [World.cell?_setCell_same _ _ _ cs]; rfl)
          go_wp2_with fail
          go_roundw
          case rel => exact ⟨s + 1, by omega, HN⟩
          case measure =>
            rw [HMS.out]
            have := HM2.out
            push_cast at this
            rw [this]; simp [intOf]; omega
        case true =>
          have HBT := Lib.hid hb
          have HCL := Lib.hid (show clsF n l t = s from cls_of hs (fun _ => hb) HY.out.1)
          clear hb
          go_wp2_with fail
          go_region_held3 (fun w' => (w'.cell? ⟨w.heap.size, 0, none⟩ = some (.int .i64 n) ∧ w'.cell? ⟨w.heap.size, 1, none⟩ = some (.slice (some a) len cap)) ∧ w'.cell? ⟨w.heap.size + 1 + 1, t, none⟩ = some (.int .i64 s)) (first | exact KS.out _ s1 | exact KS.out _ s2)
            (first | (go_at_call 133; refine (made_as (AB.out t s _ htn (by omega) (KE.out _ _ (FS.out.on s1))) HBT.out).mono ?_; rintro e wa ⟨rfl, hba⟩; have s2 := below_on s1 hba))
          have Q := Lib.hid s2
          clear s1 s2 hba
          have HN := Lib.hid (show CSt w0 (w.heap.size + 1 + 1) (fun k => if k < t + 1 then clsF n l k else 0) wa from (FS.out.on Q.out).like fun j hj => by
            by_cases e : j < t
            · rw [if_pos e, if_pos (by omega)]
            · rw [if_neg e]
              by_cases g : j = t
              · subst g; rw [if_pos rfl, if_pos (by omega), HCL.out]
              · rw [if_neg g, if_neg (by omega)])
          go_wp2_with fail
          go_roundw
          case rel => exact ⟨t + 1, by omega, by go_num, HN⟩
          case measure => simp [intOf]; omega
    case neg =>
      have HF := Lib.hid (show CSt w0 (w.heap.size + 1 + 1) (fun k => if k ≤ n then clsF n l k else 0) wr from HX.out.like fun j hj => by
        have e : t = n + 1 := by omega
        subst e
        by_cases g : j ≤ n
        · rw [if_pos g, if_pos (by omega)]
        · rw [if_neg g, if_neg (by omega)])
      obtain ⟨b0, b1⟩ := KB.out _ _ HF.out
      have q1 : Crow wr (w.heap.size + 1) (arrF fun _ => 0) := by
        refine ⟨(HF.out.2.block _ R1.out.lt (by simp)).trans R1.out.1, R1.out.2⟩
      have HQ := Lib.hid q1
      clear q1
      go_wp2_with (first | (refine wplc_load rfl _ rfl _ rfl _ HF.out.1 ?_) | (refine wplc_store rfl _ _ rfl _ _ rfl rfl _ HQ.out (arrF_size _) (arrF_one _) ?_))
      refine bodyPost_ret (results_cls Try.results110 _ rfl (HQ.out.store _ (arrF_size _))) rfl ⟨rfl, ?_⟩
      exact Below.setRow (KE.out _ _ HF.out) (by omega) _
end Go.Proofs.Ytmlknjiifjdimaa

namespace Go.Proofs.Ytmlknjiifjdimaa
open Go.RowKit

theorem enter_keeps (args : Array Value) (W : World) : (callFunc 111 args).run Try.prog W = .ok (.enter 111 args) W := by go_simp

set_option maxRecDepth 100000 in
set_option maxHeartbeats 3200000 in
theorem collect_any (n : Nat) (l : List Int) (a : Addr) (cap : Nat) (A : Array Value) (w : World) (hn : n ≤ 10) (hl : l.length = (n + 1) * (n + 1)) (h : Rd w a l)
    (hK : ∀ (i j : Nat) (W : World), i ≤ n → j ≤ n → Below w.heap.size w W → Calls Try.prog 111 #[.agg A, .agg #[.int .i64 n, .slice (some a) l.length cap], .int .i64 i, .int .i64 j] W (Made (.bool (kpB n l i j)) W)) :
    Calls Try.prog 109 #[.agg #[.int .i64 n, .slice (some a) l.length cap], .func (.func 111) #[.agg A] #[]] w (fun e w' => Below w.heap.size w w' ∧ ∃ v, e = .returned v ∧ OwnC w' w.heap.size v (redL n l)) := by
  obtain ⟨len, hlen⟩ : ∃ len, len = l.length := ⟨_, rfl⟩
  obtain ⟨i0, hi, hz0, hz1, hz2⟩ := info_parts con_info
  have AT := Lib.hid (miat_len (cap := cap) hn hl h hlen)
  rw [← hlen] at hK
  have KP := Lib.hid hK
  rw [← hlen]
  obtain ⟨w0, hw0, e0, ks⟩ := zbox n a len cap w
  have KS := Lib.hid ks
  have E0 := Lib.hid e0
  have HW0 := Lib.hid hw0
  obtain ⟨b0, b1⟩ := ks w0 (Below.refl _ _)
  have RL := Lib.hid (show redS n l (n + 1) = redL n l from rfl)
  clear ks e0 hw0 hlen hl h hK
  go_enter Try.func109, Try.ntmps109
  go_wp2_with fail
  rw [← HW0.out]
  go_wp2_with fail
  clear b0 b1
  go_loopw [5, 11] (fun v s wr => ∃ (t : Nat) (cs : List Con), t ≤ n + 1 ∧ s = .int .i64 t ∧ Hid (cs = redS n l t ∧ OwnC wr w0.heap.size v cs ∧ Below w0.heap.size w0 wr)) (fun _ s _ => n + 1 - (intOf s).toNat)
  case atStart => exact ⟨0, [], by omega, rfl, Lib.hid ⟨rfl, OwnC.nil _ _, Below.refl _ _⟩⟩
  case round =>
    obtain ⟨t, cs, ht, rfl, HX⟩ := hrel
    by_cases htn : t ≤ n
    · obtain ⟨b0, b1⟩ := KS.out _ HX.out.2.2
      have D9 : decide ((t : Int) < (n : Int) + 1) = true := by simp; omega
      go_wp2_with fail
      clear b0 b1
      go_loopw [5, 17] (fun v s wx => ∃ (j : Nat) (ds : List Con), j ≤ n + 1 ∧ s = .int .i64 j ∧ Hid (ds = redS n l t ++ redT n l t j ∧ OwnC wx w0.heap.size v ds ∧ Below w0.heap.size w0 wx)) (fun _ s _ => n + 1 - (intOf s).toNat)
      case atStart => exact ⟨0, cs, by omega, rfl, Lib.hid ⟨by rw [HX.out.1]; simp [redT], HX.out.2.1, HX.out.2.2⟩⟩
      case round =>
        obtain ⟨j, ds, hj, rfl, HY⟩ := hrel
        obtain ⟨b0, b1⟩ := KS.out _ HY.out.2.2
        by_cases hjn : j ≤ n
        · cases hkp : kpB n l t j
          · have HK := Lib.hid hkp
            clear hkp
            go_wp2_with fail
            refine (made_as (KP.out t j _ htn hjn (below_on E0.out HY.out.2.2)) HK.out).mono ?_
            rintro e w2 ⟨rfl, hb2⟩
            have HZ := Lib.hid (show ds = redS n l t ++ redT n l t (j + 1) ∧ OwnC w2 w0.heap.size _ ds ∧ Below w0.heap.size w0 w2 from ⟨by rw [redT_no HK.out]; exact HY.out.1, HY.out.2.1.on hb2, below_on HY.out.2.2 hb2⟩)
            clear hb2 b0 b1
            go_wp2_with fail
            go_roundw
            case rel => exact ⟨j + 1, ds, by omega, by go_num, HZ⟩
            case measure => simp [intOf]; omega
          · have HK := Lib.hid hkp
            obtain ⟨x, hx⟩ : ∃ x, x = Zo.At n l t j := ⟨_, rfl⟩
            have HXX := Lib.hid hx
            have A1 := Lib.hid (show ∀ W, Below w.heap.size w W → Calls Try.prog 132 #[.agg #[.int .i64 n, .slice (some a) len cap], .int .i64 t, .int .i64 j] W (Made (.int .i64 x) W) from fun W h' => by rw [hx]; exact AT.out t j W htn hjn h')
            clear hkp hx
            go_wp2_with fail
            refine (made_as (KP.out t j _ htn hjn (below_on E0.out HY.out.2.2)) HK.out).mono ?_
            rintro e w2 ⟨rfl, hb2⟩
            have B2 := Lib.hid hb2
            clear hb2 b0 b1
            obtain ⟨b0, b1⟩ := KS.out _ (below_on HY.out.2.2 B2.out)
            go_wp2_with fail
            refine (A1.out _ (below_on E0.out (below_on HY.out.2.2 B2.out))).mono ?_
            rintro e w3 ⟨rfl, hb3⟩
            have HZ := Lib.hid (show Below w0.heap.size w0 w3 from below_on (below_on HY.out.2.2 B2.out) hb3)
            have hown := (HY.out.2.1.on B2.out).on hb3
            have hdl : ds.length ≤ 1000 := by
              rw [HY.out.1, List.length_append]
              have := redS_len n l t
              have := redT_len n l t j
              have : t * (n + 1) ≤ 10 * 11 := Nat.mul_le_mul (by omega) (by omega)
              omega
            have hsz : w0.heap.size ≤ w3.heap.size := HZ.out.size
            clear hb3 b0 b1
            go_wp2_with (at_builtin; refine wpList_append_own _ rfl _ _ 35 rfl w0.heap.size 56 i0 (.agg #[.int .i64 0, .int .i64 0, .int .i64 0]) 3 24 Try.underlying35 hi hz0 hz1 hz2 rfl (by decide) _ _ _ rfl (World.ownsRow.alloc hown _) ⟨w3.heap.size, 0, none⟩ 1 1 [.int .i64 t, .int .i64 j, .int .i64 x] rfl rfl (cells_three _ _ _ _ rfl) (by simp [Value.oneCell']) (by unfold maxLen; omega) (by omega) (by simp; omega) ?_)
            intro v' w4 hown4 hgrow _
            have HZ4 := Lib.hid (show Below w0.heap.size w0 w4 from Below.grown (HZ.out.alloc HZ.out.size _) hgrow (by simp; omega) (fun k hk => (World.ownsRow.lt hown k hk).1))
            have HW := Lib.hid (show ds ++ [((t : Int), (j : Int), x)] = redS n l t ++ redT n l t (j + 1) ∧ OwnC w4 w0.heap.size v' (ds ++ [((t : Int), (j : Int), x)]) ∧ Below w0.heap.size w0 w4 from
              ⟨by rw [redT_yes HK.out, HY.out.1, HXX.out, List.append_assoc], by unfold OwnC; rw [conV_app, List.length_append]; exact hown4, HZ4.out⟩)
            clear hown4 hgrow hown hdl hsz
            go_wp2_with fail
            go_roundw
            case rel => exact ⟨j + 1, _, by omega, by go_num, HW⟩
            case measure => simp [intOf]; omega
        · have HE := Lib.hid (show ds = redS n l (t + 1) ∧ OwnC _ w0.heap.size _ ds ∧ Below w0.heap.size w0 _ from ⟨by rw [HY.out.1, redS_succ, show j = n + 1 by omega], HY.out.2⟩)
          go_wp2_with fail
          go_roundw
          case rel => exact ⟨t + 1, ds, by omega, by go_num, HE⟩
          case measure => simp [intOf]; omega
    · have HE := Lib.hid (show cs = redL n l by rw [HX.out.1, ← RL.out, show t = n + 1 by omega])
      go_wp2_with fail
      go_ret
      exact ⟨below_on E0.out HX.out.2.2, _, rfl, by rw [← HE.out]; exact OwnC.low HX.out.2.1 E0.out.size⟩
end Go.Proofs.Ytmlknjiifjdimaa

namespace Go.Proofs.Ytmlknjiifjdimaa
open Go.RowKit

theorem CRes.made {w w' : World} {v : Value} {cs : List Con} {er : Int} (hb : Below w.heap.size w w') (hv : OwnC w' w.heap.size v cs) : CRes w cs er (.returned (.tuple #[v, .int .i64 er])) w' := ⟨hb, v, rfl, hv⟩

/-- What Reduce returns of any zone. -/
def rdcL (N : Int) (l : List Int) : List Con := if chkE N l = 0 then redL N.toNat l else []

def rdcE (N : Int) (l : List Int) : Int := if chkE N l = 0 then 0 else 2

set_option maxRecDepth 100000 in
set_option maxHeartbeats 3200000 in
theorem reduce_any (n : Nat) (l : List Int) (a : Addr) (cap : Nat) (w : World) (hz : Vz n l) (h : Rd w a l) :
    Calls Try.prog 54 #[.agg #[.int .i64 n, .slice (some a) l.length cap]] w (CRes w (redL n l) 0) := by
  obtain ⟨A, hA⟩ : ∃ A, A = arrF fun k => if k ≤ n then clsF n l k else 0 := ⟨_, rfl⟩
  have i64 : ∀ i j, i ≤ n → j ≤ n → I64 (Zo.At n l i j) := fun i j hi hj => by
    have := lv_two (hz.lv hi hj).1
    unfold I64; omega
  have hcl : Cls A n (clsF n l) := by
    rw [hA]
    refine ⟨arrF_size _, arrF_one _, fun k hk => ?_⟩
    have hn := hz.hn
    rw [arrF_at _ (by omega), if_pos hk]
    exact ⟨rfl, by have := (cls_is hz hk).1; omega⟩
  have CK := Lib.hid (show ∀ W, Below w.heap.size w W → Calls Try.prog 17 #[.agg #[.int .i64 n, .slice (some a) l.length cap]] W (Made (.int .i64 0) W) from fun W h' => by
    have := zcheck_gen n l (some a) cap W (fun _ => ⟨a, rfl, h.on h'⟩); rw [hz.hc] at this; exact this)
  have DV := Lib.hid (show ∀ W, Below w.heap.size w W → Calls Try.prog 110 #[.agg #[.int .i64 n, .slice (some a) l.length cap]] W (Made (.agg A) W) from fun W h' => by
    rw [hA]; exact divide_any n l a cap W hz (h.on h'))
  have CO := Lib.hid (show ∀ W, Below w.heap.size w W → Calls Try.prog 109 #[.agg #[.int .i64 n, .slice (some a) l.length cap], .func (.func 111) #[.agg A] #[]] W (fun e w' => Below W.heap.size W w' ∧ ∃ v, e = .returned v ∧ OwnC w' W.heap.size v (redL n l)) from fun W h' =>
    collect_any n l a cap A W hz.hn hz.hl (h.on h') (fun i j W2 hi hj h2 => by
      have := keeps_any n i j l a cap A (clsF n l) W2 hz.hn hi hj hz.hl i64 ((h.on h').on h2) hcl
      rw [ks_kp hz hi hj] at this
      exact this))
  generalize l.length = len at *
  obtain ⟨w0, hw0, e0, ks⟩ := zbox n a len cap w
  have KS := Lib.hid ks
  have E0 := Lib.hid e0
  have HW0 := Lib.hid hw0
  obtain ⟨b0, b1⟩ := ks w0 (Below.refl _ _)
  clear ks e0 hw0 hz h hcl hA i64
  go_enter Try.func54, Try.ntmps54
  go_upto_region 1 with (fail)
  rw [← HW0.out]
  go_wp2_with fail
  refine (CK.out _ E0.out).mono ?_
  rintro e w1 ⟨rfl, hb1⟩
  have B1 := Lib.hid hb1
  clear hb1 b0 b1
  go_wp2_with fail
  have s1 : Below w0.heap.size w0 w1.drew := B1.out.drew
  go_region_held3 (fun w' => w'.cell? ⟨w.heap.size, 0, none⟩ = some (.int .i64 n) ∧ w'.cell? ⟨w.heap.size, 1, none⟩ = some (.slice (some a) len cap)) (first | exact KS.out _ s1 | exact KS.out _ s2 | exact KS.out _ s3)
    (first | (go_at_call 110; refine (DV.out _ (below_on E0.out s1)).mono ?_; rintro e w2 ⟨rfl, hb2⟩; have s2 := below_on s1 hb2) | (go_at_call 109; refine (CO.out _ (below_on E0.out s2)).mono ?_; rintro e w3 ⟨hb3, v, rfl, hv⟩; have s3 := below_on s2 hb3; have hs2 := s2.size))
  have Q := Lib.hid s3
  have HV := Lib.hid (OwnC.low hv (show w.heap.size ≤ w2.heap.size from (below_on E0.out s2).size))
  clear s1 s2 s3 hb2 hb3 hv hs2
  go_wp2_with fail
  go_ret2
  exact CRes.made (below_on E0.out Q.out) HV.out
end Go.Proofs.Ytmlknjiifjdimaa

namespace Go.Proofs.Ytmlknjiifjdimaa
open Go.RowKit

def closeB (N : Int) (l : List Int) : Bool := dimB N && decide (l.length = (N.toNat + 1) * (N.toNat + 1)) && l.all lvB

def closeE (N : Int) (l : List Int) : Int := if closeB N l then cloE N.toNat l else 2

theorem closeE_bad1 {N : Int} {l : List Int} (h : dimB N = false) : closeE N l = 2 := by simp [closeE, closeB, h]

theorem closeE_bad2 {N : Int} {l : List Int} (h : l.length ≠ (N.toNat + 1) * (N.toNat + 1)) : closeE N l = 2 := by simp [closeE, closeB, h]

theorem closeE_bad3 {N : Int} {l : List Int} {k : Nat} (hk : k < l.length) (h : lvB (Zo.gt l k) = false) : closeE N l = 2 := by
  have : l.all lvB = false := by
    rw [List.all_eq_false]
    exact ⟨l[k], List.getElem_mem hk, by rw [show l[k] = Zo.gt l k by simp [Zo.gt, hk], h]; simp⟩
  simp [closeE, closeB, this]

theorem closeE_ok {n : Nat} {l : List Int} (hn : n ≤ 10) (hl : l.length = (n + 1) * (n + 1)) (h : ∀ k, k < l.length → lvB (Zo.gt l k) = true) : closeE (n : Int) l = cloE n l := by
  have h1 : l.all lvB = true := by
    rw [List.all_eq_true]
    intro x hx
    obtain ⟨k, hk, rfl⟩ := List.getElem_of_mem hx
    have := h k hk
    simpa [Zo.gt, hk] using this
  have d : dimB (n : Int) = true := by unfold dimB; simp; omega
  simp [closeE, closeB, d, hl, h1]

theorem two_res (w : World) : Two (w.alloc (.cells #[.int .i64 0, .slice none 0 0] 25)) w.heap.size (.int .i64 0) (.slice none 0 0) := Two.made _ _ _ _

set_option maxHeartbeats 400000 in
theorem close_bad1 (N : Int) (l : List Int) (ao : Option Addr) (cap : Nat) (w : World) (h : dimB N = false) :
    Calls Try.prog 15 #[.int .i64 N, .slice ao l.length cap] w (ZRes w 0 [] 2) := by
  have p := fun W => dimension_any N W
  rw [h] at p
  have PD := Lib.hid p
  obtain ⟨b0, b1, b2, b3⟩ := (two_res w).facts
  clear p h
  go_enter Try.func15, Try.ntmps15
  go_wp2_with fail
  refine (PD.out _).mono ?_
  rintro e w1 ⟨rfl, rfl⟩
  go_wp2_with fail
  refine bodyPost_ret (v := .tuple #[.agg #[.int .i64 0, .slice none 0 0], .int .i64 2]) (by simp [results, Try.results15, go_sem]) rfl (zres_bad ?_)
  exact one_more _

set_option maxHeartbeats 400000 in
theorem close_bad2 (n : Nat) (l : List Int) (ao : Option Addr) (cap : Nat) (w : World) (hn : n ≤ 10) (h : l.length ≠ (n + 1) * (n + 1)) :
    Calls Try.prog 15 #[.int .i64 n, .slice ao l.length cap] w (ZRes w 0 [] 2) := by
  have p := fun W => dimension_any n W
  rw [show dimB n = true by unfold dimB; simp; omega] at p
  have PD := Lib.hid p
  have t3 : ((n : Int) + 1) * ((n : Int) + 1) ≤ 121 ∧ 0 ≤ ((n : Int) + 1) * ((n : Int) + 1) := by
    have : (n + 1) * (n + 1) ≤ 11 * 11 := Nat.mul_le_mul (by omega) (by omega)
    constructor
    · exact_mod_cast this
    · exact_mod_cast Nat.zero_le _
  have h2 : ((l.length : Int) != ((n : Int) + 1) * ((n : Int) + 1)) = true := by
    simp; intro e; apply h; exact_mod_cast e
  generalize l.length = len at *
  obtain ⟨b0, b1, b2, b3⟩ := (two_res w).facts
  clear p h
  go_enter Try.func15, Try.ntmps15
  go_wp2_with fail
  refine (PD.out _).mono ?_
  rintro e w1 ⟨rfl, rfl⟩
  go_wp2_with fail
  refine bodyPost_ret (v := .tuple #[.agg #[.int .i64 0, .slice none 0 0], .int .i64 2]) (by simp [results, Try.results15, go_sem]) rfl (zres_bad ?_)
  exact one_more _

set_option maxHeartbeats 1600000 in
theorem close_any (n : Nat) (l : List Int) (a : Addr) (cap : Nat) (w : World) (hn : n ≤ 10) (hl : l.length = (n + 1) * (n + 1)) (hR : Rd w a l) :
    Calls Try.prog 15 #[.int .i64 n, .slice (some a) l.length cap] w (ZRes w n (Zo.clo n l) (closeE n l)) := by
  obtain ⟨len, hlen⟩ : ∃ len, len = l.length := ⟨_, rfl⟩
  obtain ⟨w0, hw0⟩ : ∃ w0, w0 = w.alloc (.cells #[.int .i64 0, .slice none 0 0] 25) := ⟨_, rfl⟩
  have rs : Two w0 w.heap.size (.int .i64 0) (.slice none 0 0) := by rw [hw0]; exact two_res w
  have e0 : Below w.heap.size w w0 := by rw [hw0]; exact one_more _
  have z0 : w0.heap.size = w.heap.size + 1 := by rw [hw0]; simp
  have HR := Lib.hid (hR.on e0)
  have CP : Hid (∀ W, Rd W a l → Calls Try.prog 66 #[.agg #[.int .i64 n, .slice (some a) len cap]] W (fun e w' => ∃ g c, e = .returned (.agg #[.int .i64 n, .slice (some ⟨g, 0, none⟩) len c]) ∧ W.heap.size ≤ g ∧ Own w' g c l ∧ Below W.heap.size W w')) := Lib.hid fun W h => by have := copied_any n l a cap W (by rw [hl]; exact dsq_pos n) (by rw [hl]; have := dsq_le hn; omega) h; rw [← hlen] at this; exact this
  have p := fun W => dimension_any n W
  rw [show dimB n = true by unfold dimB; simp; omega] at p
  have PD := Lib.hid p
  have t3 : ((n : Int) + 1) * ((n : Int) + 1) ≤ 121 ∧ 0 ≤ ((n : Int) + 1) * ((n : Int) + 1) := by
    have : (n + 1) * (n + 1) ≤ 11 * 11 := Nat.mul_le_mul (by omega) (by omega)
    constructor
    · exact_mod_cast this
    · exact_mod_cast Nat.zero_le _
  have h2 : ((len : Int) != ((n : Int) + 1) * ((n : Int) + 1)) = false := by
    rw [hlen, hl]; simp
  have lb : len ≤ 121 := by rw [hlen, hl]; exact dsq_le hn
  have lx : l.length = (n + 1) * (n + 1) := hl
  have HL := Lib.hid hl
  have HLn := Lib.hid hlen
  have E0 := Lib.hid e0
  rw [← hlen]
  clear p hl hlen hR e0 lx
  go_enter Try.func15, Try.ntmps15
  go_wp2_with fail
  rw [← hw0]
  clear hw0
  refine (PD.out _).mono ?_
  rintro e w1 ⟨rfl, rfl⟩
  go_wp2_with fail
  clear t3 h2
  go_loopw [6] (fun s wr => ∃ t : Nat, t ≤ len ∧ s = .int .i64 t ∧ Hid (∀ k, k < t → lvB (Zo.gt l k) = true) ∧ Hid (wr = w1)) (fun s _ => len - (intOf s).toNat)
  case atStart => exact ⟨0, by omega, rfl, Lib.hid (fun k hk => by omega), Lib.hid rfl⟩
  case round =>
    obtain ⟨t, ht, rfl, HK, HW⟩ := hrel
    have hwr := HW.out
    subst hwr
    clear HW
    by_cases htn : t < len
    · have d1 := HR.out t (by rw [← HLn.out]; exact htn)
      obtain ⟨x, hx⟩ : ∃ x, x = Zo.gt l t := ⟨_, rfl⟩
      rw [← hx] at d1
      have HXE := Lib.hid hx
      have v9 := fun W => refLimValid_free x W
      clear hx
      cases lv : lvB x
      · have HE := Lib.hid (closeE_bad3 (N := n) (l := l) (k := t) (by rw [← HLn.out]; exact htn) (by rw [← HXE.out]; exact lv))
        rw [lv] at v9
        have V9 := Lib.hid v9
        clear v9 lv
        obtain ⟨b0, b1, b2, b3⟩ := rs.facts
        go_wp2_with fail
        refine (V9.out _).mono ?_
        rintro e w2 ⟨rfl, rfl⟩
        go_wp2_with fail
        refine bodyPost_ret (v := .tuple #[.agg #[.int .i64 0, .slice none 0 0], .int .i64 2]) (by simp [results, Try.results15, go_sem, b0, b1]) rfl (ZRes.bad (zres_bad (N := 0) (l := []) ?_) HE.out)
        exact (E0.out.setCell (by show w.heap.size ≤ w.heap.size; omega) _).setCell (by show w.heap.size ≤ w.heap.size; omega) _
      · have HK2 := Lib.hid (show lvB (Zo.gt l t) = true by rw [← HXE.out]; exact lv)
        rw [lv] at v9
        have V9 := Lib.hid v9
        clear v9 lv
        go_wp2_with fail
        refine (V9.out _).mono ?_
        rintro e w2 ⟨rfl, rfl⟩
        go_wp2_with fail
        go_roundw
        case rel =>
          refine ⟨t + 1, by omega, by go_num, Lib.hid (fun k hk => ?_), by first | exact Lib.hid rfl | exact Lib.hid trivial⟩
          by_cases e : k = t
          · rw [e]; exact HK2.out
          · exact HK.out k (by omega)
        case measure => simp [intOf]; omega
    · have HAE := Lib.hid (closeE_ok hn HL.out (fun k hk => HK.out k (by rw [← HLn.out] at hk; omega)))
      go_wp2_with fail
      refine (CP.out _ HR.out).mono ?_
      rintro e w2 ⟨g, c, rfl, hg, ho, hb2⟩
      have rs2 := rs.kept hb2
      have E2 := Lib.hid (below_on E0.out hb2)
      have HO := Lib.hid ho
      have z2 := hb2.size
      clear hb2 ho
      go_wp2_with fail
      by_cases hE : cloE n l = 0
      · have CL : Hid (∀ W, Own W g c l → Calls Try.prog 65 #[.agg #[.int .i64 n, .slice (some ⟨g, 0, none⟩) len c]] W (fun e w' => e = .returned (.tuple #[.agg #[.int .i64 n, .slice (some ⟨g, 0, none⟩) len c], .int .i64 0]) ∧ Own w' g c (Zo.clo n l) ∧ W.grownBy w' (some g))) := Lib.hid fun W h => by have := closed_ok W hn HL.out h hE; rw [← HLn.out] at this; exact this
        have HEE := Lib.hid hE
        clear hE
        refine (CL.out _ HO.out).mono ?_
        rintro e w5 ⟨rfl, ho5, hg5⟩
        have rs5 := rs2.grown hg5 (by omega)
        obtain ⟨q0, q1, q2, q3⟩ := rs5.facts
        have E5 := Lib.hid (grown_over E2.out hg5 (by omega))
        have HO5 := Lib.hid ho5
        clear ho5 hg5
        go_wp2_with fail
        refine bodyPost_ret (v := .tuple #[.agg #[.int .i64 n, .slice (some ⟨g, 0, none⟩) len c], .int .i64 0]) (by simp [results, Try.results15, go_sem, q0, q1]) rfl ⟨(E5.out.setCell (by show w.heap.size ≤ w.heap.size; omega) _).setCell (by show w.heap.size ≤ w.heap.size; omega) _, Or.inl ⟨by rw [HAE.out]; exact HEE.out, g, c, ?_, by omega, ?_⟩⟩
        · rw [Zo.clo_length, ← HLn.out]
        · exact put_far HO5.out (by omega) _ _
      · have CL : Hid (∀ W, Own W g c l → Calls Try.prog 65 #[.agg #[.int .i64 n, .slice (some ⟨g, 0, none⟩) len c]] W (fun e w' => e = .returned (.tuple #[.agg #[.int .i64 0, .slice none 0 0], .int .i64 (cloE n l)]) ∧ Own w' g c (Zo.clo n l) ∧ W.grownBy w' (some g))) := Lib.hid fun W h => by have := closed_no W hn HL.out h hE; rw [← HLn.out] at this; exact this
        have HEE := Lib.hid hE
        clear hE
        refine (CL.out _ HO.out).mono ?_
        rintro e w5 ⟨rfl, ho5, hg5⟩
        have rs5 := rs2.grown hg5 (by omega)
        obtain ⟨q0, q1, q2, q3⟩ := rs5.facts
        have E5 := Lib.hid (grown_over E2.out hg5 (by omega))
        have HO5 := Lib.hid ho5
        clear ho5 hg5
        go_wp2_with fail
        refine bodyPost_ret (v := .tuple #[.agg #[.int .i64 0, .slice none 0 0], .int .i64 (cloE n l)]) (by simp [results, Try.results15, go_sem, q0, q1]) rfl ⟨(E5.out.setCell (by show w.heap.size ≤ w.heap.size; omega) _).setCell (by show w.heap.size ≤ w.heap.size; omega) _, Or.inr ⟨by rw [HAE.out]; exact HEE.out, ?_⟩⟩
        rw [HAE.out]

theorem close_gen (N : Int) (l : List Int) (ao : Option Addr) (cap : Nat) (w : World) (hA : Arg w ao l) :
    Calls Try.prog 15 #[.int .i64 N, .slice ao l.length cap] w (ZRes w N (Zo.clo N.toNat l) (closeE N l)) := by
  cases hd : dimB N
  · exact (close_bad1 N l ao cap w hd).mono fun e w' h => h.bad (closeE_bad1 hd)
  · obtain ⟨n, rfl, hn⟩ := dim_nat hd
    by_cases hl : l.length = (n + 1) * (n + 1)
    · obtain ⟨a, rfl, hR⟩ := hA (fun e => by have := dsq_pos n; rw [e] at hl; simp at hl)
      exact close_any n l a cap w hn hl hR
    · exact (close_bad2 n l ao cap w hn hl).mono fun e w' h => h.bad (closeE_bad2 (by simpa using hl))
end Go.Proofs.Ytmlknjiifjdimaa

namespace Go.Proofs.Ytmlknjiifjdimaa
open Go.RowKit

theorem rd_close (N : Int) (l : List Int) : closeE N l = if rdB N l then cloE N.toNat l else 2 := rfl

set_option maxRecDepth 100000 in
set_option maxHeartbeats 4000000 in
theorem zclose_gen (N : Int) (l : List Int) (ao : Option Addr) (cap : Nat) (w : World) (hA : Arg w ao l) :
    Calls Try.prog 14 #[.int .i64 N, .slice ao l.length cap] w (ZRes w N (Zo.clo N.toNat l) (closeE N l)) := by
  have hz := mx_zero
  have sz := rdW_size N l
  have s1 := rdW_one N l
  have CR := Lib.hid (show ∀ W, Below w.heap.size w W → _ from fun W h => read_gen N l ao cap W (hA.on h))
  have HM := Lib.hid (show rdB N l = true → ∃ n : Nat, N = n ∧ ∀ (b : Nat) (W : World), Var W b (rdW N l) → Calls Try.prog 62 #[.pointer (some ⟨b, 0, none⟩)] W (GRes b W N (Zo.clo N.toNat l) (closeE N l)) from fun hr => by
    obtain ⟨n, rfl, hn, hl, hv⟩ := rdB_ok hr
    refine ⟨n, rfl, fun b W hV => ?_⟩
    have := mzone_any b n l W hn ⟨by have := hV.1; unfold rdW at this; rw [hr] at this; exact this, hl⟩ (a64_of hv)
    rw [rd_close, hr]
    exact this)
  have HE := Lib.hid (show rdB N l = false → closeE N l = 2 from fun h => by rw [rd_close, h]; rfl)
  generalize rdW N l = A at *
  generalize Zo.clo N.toNat l = r at *
  generalize closeE N l = er at *
  generalize rdB N l = ok at *
  generalize l.length = len at *
  obtain ⟨w0, hw0⟩ : ∃ w0, w0 = w.alloc (.cells #[.int .i64 0, .slice none 0 0] 25) := ⟨_, rfl⟩
  have rs : Two w0 w.heap.size (.int .i64 0) (.slice none 0 0) := by rw [hw0]; exact Two.made _ _ _ _
  have E0 := Lib.hid (show Below w.heap.size w w0 by rw [hw0]; exact one_more _)
  clear hA
  go_enter Try.func14, Try.ntmps14
  go_wp2_with fail
  rw [← hw0]
  clear hw0
  refine (CR.out _ E0.out).mono ?_
  rintro e w1 ⟨rfl, hb⟩
  have rs1 := rs.kept hb
  have HB := Lib.hid (below_on E0.out hb)
  have hlt := rs1.lt
  have hsz := HB.out.size
  obtain ⟨w2, hw2⟩ : ∃ w2, w2 = (w1.alloc (.cells (mcs 0 []) 80)).setRow w1.heap.size A := ⟨_, rfl⟩
  have rs3 : Two w2 w.heap.size (.int .i64 0) (.slice none 0 0) := by rw [hw2]; exact (rs1.alloc _).kept_row (by omega) _
  have V2 : Var w2 w1.heap.size A := by rw [hw2]; exact (Var.made w1).put A sz
  have h2s : w2.heap.size = w1.heap.size + 1 := by rw [hw2]; simp
  have HRS := Lib.hid rs3
  have HV := Lib.hid V2
  have HBE := Lib.hid (show Below w.heap.size w w2 by rw [hw2]; exact Below.setRow (HB.out.alloc hsz _) hsz _)
  clear rs rs1 rs3 V2 hb
  cases ok
  · obtain rfl := HE.out rfl
    obtain ⟨q0, q1, q2, q3⟩ := HRS.out.facts
    rw [hw2] at q0 q1 q2 q3
    rw [hw2] at HBE
    go_wp2_with (refine wpl_store rfl _ _ rfl _ _ rfl rfl _ (Var.made _) sz s1 ?_)
    refine bodyPost_ret (v := .tuple #[.agg #[.int .i64 0, .slice none 0 0], .int .i64 2]) (by simp [results, Try.results14, go_sem, q0, q1]) rfl ⟨(HBE.out.setCell (by show w.heap.size ≤ w.heap.size; omega) _).setCell (by show w.heap.size ≤ w.heap.size; omega) _, Or.inr ⟨by decide, rfl⟩⟩
  · obtain ⟨n, rfl, hmz⟩ := HM.out rfl
    have HMZ := Lib.hid hmz
    clear hmz
    go_wp2_with (refine wpl_store rfl _ _ rfl _ _ rfl rfl _ (Var.made _) sz s1 ?_)
    rw [← hw2]
    clear hw2
    refine (HMZ.out _ _ HV.out).mono ?_
    intro e w4 hG
    obtain ⟨hg4, hres⟩ := hG
    have E4 := Lib.hid (grown_over HBE.out hg4 hsz)
    obtain ⟨q0, q1, q2, q3⟩ := (HRS.out.grown hg4 (by omega)).facts
    rcases hres with ⟨he, g, c, rfl, hgl, hO⟩ | ⟨he, rfl⟩
    · have HO := Lib.hid hO
      subst he
      clear hO hg4
      go_wp2_with fail
      refine bodyPost_ret (v := .tuple #[.agg #[.int .i64 n, .slice (some ⟨g, 0, none⟩) r.length c], .int .i64 0]) (by simp [results, Try.results14, go_sem, q0, q1]) rfl ⟨?_, Or.inl ⟨rfl, g, c, rfl, by omega, put_far HO.out (by omega) _ _⟩⟩
      exact (E4.out.setCell (by show w.heap.size ≤ w.heap.size; omega) _).setCell (by show w.heap.size ≤ w.heap.size; omega) _
    · have HEE := Lib.hid he
      clear hg4 he
      go_wp2_with fail
      refine bodyPost_ret (v := .tuple #[.agg #[.int .i64 0, .slice none 0 0], .int .i64 er]) (by simp [results, Try.results14, go_sem, q0, q1]) rfl ⟨?_, Or.inr ⟨HEE.out, rfl⟩⟩
      exact (E4.out.setCell (by show w.heap.size ≤ w.heap.size; omega) _).setCell (by show w.heap.size ≤ w.heap.size; omega) _
end Go.Proofs.Ytmlknjiifjdimaa

namespace Go.Proofs.Ytmlknjiifjdimaa
open Go.RowKit

/-- 'make([]api.Limit, k)'. -/
theorem make_limits (w : World) (len : Nat) (hl : len ≤ 1000) (x : Int) (hx : x = len) : ∃ cur : Array Value, cur = (List.replicate len (Value.int .i64 0)).toArray ∧
    (Instr.makeSlice 22 (.int .i64 x) (.int .i64 x)).run Try.prog w = .ok (.slice (some ⟨w.heap.size, 0, none⟩) len len) (w.alloc (.cells cur 43)) := by
  subst hx
  obtain ⟨i0, hi, hz0, hz1, hz2⟩ := info_parts Try.info43
  have hr := run_make (P := Try.prog) w 22 43 i0 _ Try.underlying22 hi hz0 .i64 .i64 (len : Int) (len : Int) (by omega) (by omega) (by rw [hz2]; omega) (by omega)
  refine ⟨_, ?_, hr⟩
  rw [hz1]
  apply Array.toList_inj.1
  simp only [Int.toNat_natCast, Nat.mul_one]
  rw [show (Value.int IntKind.i64 0).cells = #[Value.int .i64 0] from rfl, toList_madeCells_one]

theorem own_new (w : World) (l : List Int) (hl : l.length ≤ 1000) : Own (w.alloc (.cells (l.map (Value.int .i64)).toArray 43)) w.heap.size l.length l := by
  have := World.ownsRow_lit (base := 0) (e := 43) (size := 1) w (l.map (Value.int .i64)).toArray l.length (Nat.zero_le _) (by unfold maxLen; omega) (by simp)
  simpa [Own] using this

def flE (N : Int) (v : Int) : Int := if dimB N then cloE N.toNat (List.replicate ((N.toNat + 1) * (N.toNat + 1)) v) else 2

set_option maxHeartbeats 400000 in
theorem filled_bad (N v : Int) (w : World) (h : dimB N = false) : Calls Try.prog 71 #[.int .i64 N, .int .i64 v] w (ZRes w 0 [] 2) := by
  have p := fun W => dimension_any N W
  rw [h] at p
  have PD := Lib.hid p
  obtain ⟨b0, b1, b2, b3⟩ := (two_res w).facts
  clear p h
  go_enter Try.func71, Try.ntmps71
  go_wp2_with fail
  refine (PD.out _).mono ?_
  rintro e w1 ⟨rfl, rfl⟩
  go_wp2_with fail
  refine bodyPost_ret (v := .tuple #[.agg #[.int .i64 0, .slice none 0 0], .int .i64 2]) (by simp [results, Try.results71, go_sem]) rfl (zres_bad ?_)
  exact one_more _

set_option maxHeartbeats 1600000 in
theorem filled_any (n : Nat) (v : Int) (w : World) (hn : n ≤ 10) : Calls Try.prog 71 #[.int .i64 n, .int .i64 v] w (ZRes w n (Zo.clo n (List.replicate ((n + 1) * (n + 1)) v)) (cloE n (List.replicate ((n + 1) * (n + 1)) v))) := by
  obtain ⟨len, hlen⟩ : ∃ len, len = (n + 1) * (n + 1) := ⟨_, rfl⟩
  have lb : len ≤ 121 := by rw [hlen]; exact dsq_le hn
  obtain ⟨w0, hw0⟩ : ∃ w0, w0 = w.alloc (.cells #[.int .i64 0, .slice none 0 0] 25) := ⟨_, rfl⟩
  have rs : Two w0 w.heap.size (.int .i64 0) (.slice none 0 0) := by rw [hw0]; exact two_res w
  have e0 : Below w.heap.size w w0 := by rw [hw0]; exact one_more _
  have z0 : w0.heap.size = w.heap.size + 1 := by rw [hw0]; simp
  have p := fun W => dimension_any n W
  rw [show dimB n = true by unfold dimB; simp; omega] at p
  have PD := Lib.hid p
  have t3 : ((n : Int) + 1) * ((n : Int) + 1) ≤ 121 ∧ 0 ≤ ((n : Int) + 1) * ((n : Int) + 1) := by
    have : (n + 1) * (n + 1) ≤ 11 * 11 := Nat.mul_le_mul (by omega) (by omega)
    constructor
    · exact_mod_cast this
    · exact_mod_cast Nat.zero_le _
  obtain ⟨cur, hcur, hmk⟩ := make_limits w0 len (by omega) (((n : Int) + 1) * ((n : Int) + 1)) (by rw [hlen]; push_cast; rfl)
  obtain ⟨w3, hw3⟩ : ∃ w3, w3 = (w0.alloc (.cells cur 43)).alloc (.cells #[.int .i64 n, .slice (some ⟨w.heap.size + 1, 0, none⟩) len len] 25) := ⟨_, rfl⟩
  have O3 : Own w3 (w.heap.size + 1) len (List.replicate len 0) := by
    rw [hw3, hcur, ← z0]
    have := own_new w0 (List.replicate len 0) (by simp; omega)
    simp only [List.map_replicate, List.length_replicate] at this
    exact this.alloc _
  have bx3 : Two w3 (w.heap.size + 1 + 1) (.int .i64 n) (.slice (some ⟨w.heap.size + 1, 0, none⟩) len len) := by
    rw [hw3]
    have := Two.made (w0.alloc (.cells cur 43)) (.int .i64 n) (.slice (some ⟨w.heap.size + 1, 0, none⟩) len len) 25
    rw [show (w0.alloc (.cells cur 43)).heap.size = w.heap.size + 1 + 1 by simp; omega] at this
    exact this
  have rs3 : Two w3 w.heap.size (.int .i64 0) (.slice none 0 0) := by rw [hw3]; exact (rs.alloc _).alloc _
  have E3 : Below w.heap.size w w3 := by rw [hw3]; exact (e0.alloc e0.size _).alloc (by simp; omega) _
  have S3 := Lib.hid (show St w3 (w.heap.size + 1) len (List.replicate len 0) w3 from ⟨O3, World.grownBy.refl _ _⟩)
  have HE3 := Lib.hid E3
  have HL := Lib.hid hlen
  rw [← hlen]
  have HW0 := Lib.hid hw0
  have HW3 := Lib.hid hw3
  clear p hlen e0 rs O3 E3 hcur hw0 hw3
  go_enter Try.func71, Try.ntmps71
  go_wp2_with fail
  rw [← HW0.out]
  refine (PD.out _).mono ?_
  rintro e w1 ⟨rfl, rfl⟩
  go_wp2_with fail
  rw [← HW3.out]
  clear hmk HW0 HW3 t3 z0 PD
  clear cur
  go_loopw [7] (fun s wr => ∃ (t : Nat) (x : List Int), t ≤ len ∧ s = .int .i64 t ∧ x.length = len ∧ Hid (∀ k, k < t → Zo.gt x k = v) ∧ Hid (St w3 (w.heap.size + 1) len x wr)) (fun s _ => len - (intOf s).toNat)
  case atStart => exact ⟨0, List.replicate len 0, by omega, rfl, by simp, Lib.hid (fun k hk => by omega), S3⟩
  case round =>
    obtain ⟨t, x, ht, rfl, hx, HX, HT⟩ := hrel
    obtain ⟨b0, b1, b2, b3⟩ := (bx3.grown HT.out.2 (by omega)).facts
    by_cases htn : t < len
    · have d1 : wr.cell? ⟨w.heap.size + 1, t, none⟩ = some (.int .i64 (Zo.gt x t)) := by
        have := HT.out.1.rd t (by omega)
        rwa [addr_add] at this
      have d2 : wr.frozen? ⟨w.heap.size + 1, t, none⟩ = false := World.ownsRow.frozenAt HT.out.1 t
      have S4 := Lib.hid (show St w3 (w.heap.size + 1) len (x.set t v) (wr.setCell ⟨w.heap.size + 1, t, none⟩ (.int .i64 v)) from ⟨(HT.out.1.put t v).1, grown_trans HT.out.2 (HT.out.1.put t v).2⟩)
      go_wp2_with fail
      go_roundw
      case rel =>
        refine ⟨t + 1, x.set t v, by omega, by go_num, by simpa using hx, Lib.hid (fun k hk => ?_), S4⟩
        rw [Zo.gt_set v (by omega)]
        split
        · rfl
        · exact HX.out k (by omega)
      case measure => simp [intOf]; omega
    · have HX2 := Lib.hid (show x = List.replicate len v from List.ext_getElem (by simp [hx]) fun k h1 h2 => by
        have := HX.out k (by omega)
        simpa [Zo.gt, h1] using this)
      have lx : x.length = (n + 1) * (n + 1) := by rw [hx, HL.out]
      by_cases hE : cloE n x = 0
      · have CL : Hid (∀ W, Own W (w.heap.size + 1) len x → Calls Try.prog 65 #[.agg #[.int .i64 n, .slice (some ⟨w.heap.size + 1, 0, none⟩) len len]] W (fun e w' => e = .returned (.tuple #[.agg #[.int .i64 n, .slice (some ⟨w.heap.size + 1, 0, none⟩) len len], .int .i64 0]) ∧ Own w' (w.heap.size + 1) len (Zo.clo n x) ∧ W.grownBy w' (some (w.heap.size + 1)))) := Lib.hid fun W h => by have := closed_ok W hn lx h hE; rw [hx] at this; exact this
        have HEE := Lib.hid hE
        clear hE
        go_wp2_with fail
        refine (CL.out _ HT.out.1).mono ?_
        rintro e w5 ⟨rfl, ho5, hg5⟩
        have rs5 := (rs3.grown HT.out.2 (by omega)).grown hg5 (by omega)
        obtain ⟨q0, q1, q2, q3⟩ := rs5.facts
        have E5 := Lib.hid (grown_over (grown_over HE3.out HT.out.2 (by omega)) hg5 (by omega))
        have HO5 := Lib.hid ho5
        clear ho5 hg5
        go_wp2_with fail
        refine bodyPost_ret (v := .tuple #[.agg #[.int .i64 n, .slice (some ⟨w.heap.size + 1, 0, none⟩) len len], .int .i64 0]) (by simp [results, Try.results71, go_sem, q0, q1]) rfl ⟨(E5.out.setCell (by show w.heap.size ≤ w.heap.size; omega) _).setCell (by show w.heap.size ≤ w.heap.size; omega) _, Or.inl ⟨by rw [← HX2.out]; exact HEE.out, w.heap.size + 1, len, ?_, by omega, ?_⟩⟩
        · rw [Zo.clo_length, List.length_replicate]
        · rw [← HX2.out]; exact put_far HO5.out (by omega) _ _
      · have CL : Hid (∀ W, Own W (w.heap.size + 1) len x → Calls Try.prog 65 #[.agg #[.int .i64 n, .slice (some ⟨w.heap.size + 1, 0, none⟩) len len]] W (fun e w' => e = .returned (.tuple #[.agg #[.int .i64 0, .slice none 0 0], .int .i64 (cloE n x)]) ∧ Own w' (w.heap.size + 1) len (Zo.clo n x) ∧ W.grownBy w' (some (w.heap.size + 1)))) := Lib.hid fun W h => by have := closed_no W hn lx h hE; rw [hx] at this; exact this
        have HEE := Lib.hid hE
        clear hE
        go_wp2_with fail
        refine (CL.out _ HT.out.1).mono ?_
        rintro e w5 ⟨rfl, ho5, hg5⟩
        have rs5 := (rs3.grown HT.out.2 (by omega)).grown hg5 (by omega)
        obtain ⟨q0, q1, q2, q3⟩ := rs5.facts
        have E5 := Lib.hid (grown_over (grown_over HE3.out HT.out.2 (by omega)) hg5 (by omega))
        have HO5 := Lib.hid ho5
        clear ho5 hg5
        go_wp2_with fail
        refine bodyPost_ret (v := .tuple #[.agg #[.int .i64 0, .slice none 0 0], .int .i64 (cloE n x)]) (by simp [results, Try.results71, go_sem, q0, q1]) rfl ⟨(E5.out.setCell (by show w.heap.size ≤ w.heap.size; omega) _).setCell (by show w.heap.size ≤ w.heap.size; omega) _, Or.inr ⟨by rw [← HX2.out]; exact HEE.out, ?_⟩⟩
        rw [HX2.out]

theorem filled_gen (N v : Int) (w : World) : Calls Try.prog 71 #[.int .i64 N, .int .i64 v] w (ZRes w N (Zo.clo N.toNat (List.replicate ((N.toNat + 1) * (N.toNat + 1)) v)) (flE N v)) := by
  cases hd : dimB N
  · exact (filled_bad N v w hd).mono fun e w' h => h.bad (by simp [flE, hd])
  · obtain ⟨n, rfl, hn⟩ := dim_nat hd
    rw [show flE (n : Int) v = cloE n (List.replicate ((n + 1) * (n + 1)) v) by simp [flE, hd]]
    exact filled_any n v w hn

set_option maxHeartbeats 400000 in
theorem zero_gen (N : Int) (w : World) : Calls Try.prog 21 #[.int .i64 N] w (ZRes w N (Zo.clo N.toNat (List.replicate ((N.toNat + 1) * (N.toNat + 1)) 1)) (flE N 1)) := by
  obtain ⟨b0, b1, b2, b3⟩ := (two_res w).facts
  have P := Lib.hid fun W => filled_gen N 1 W
  go_enter Try.func21, Try.ntmps21
  go_wp2_with fail
  refine (P.out _).mono ?_
  intro e w1 hz
  obtain ⟨hb, hz⟩ := hz
  have rs := (two_res w).kept hb
  obtain ⟨q0, q1, q2, q3⟩ := rs.facts
  have hB := past_one hb
  have z1 := hb.size
  rcases hz with ⟨he, g, c, rfl, hg, ho⟩ | ⟨he, rfl⟩
  · have HE := Lib.hid he
    have HO := Lib.hid ho
    have HB := Lib.hid hB
    clear he ho hB hb b0 b1 b2 b3
    simp at hg z1
    go_wp2_with fail
    refine bodyPost_ret (v := .tuple #[.agg #[.int .i64 N, .slice (some ⟨g, 0, none⟩) (Zo.clo N.toNat (List.replicate ((N.toNat + 1) * (N.toNat + 1)) 1)).length c], .int .i64 0]) (by simp [results, Try.results21, go_sem, q0, q1]) rfl ⟨(HB.out.setCell (by show w.heap.size ≤ w.heap.size; omega) _).setCell (by show w.heap.size ≤ w.heap.size; omega) _, Or.inl ⟨HE.out, g, c, rfl, by omega, put_far HO.out (by omega) _ _⟩⟩
  · have HE := Lib.hid he
    have HB := Lib.hid hB
    clear he hB hb b0 b1 b2 b3
    go_wp2_with fail
    refine bodyPost_ret (v := .tuple #[.agg #[.int .i64 0, .slice none 0 0], .int .i64 (flE N 1)]) (by simp [results, Try.results21, go_sem, q0, q1]) rfl ⟨(HB.out.setCell (by show w.heap.size ≤ w.heap.size; omega) _).setCell (by show w.heap.size ≤ w.heap.size; omega) _, Or.inr ⟨HE.out, rfl⟩⟩

set_option maxHeartbeats 400000 in
theorem all_gen (N : Int) (w : World) : Calls Try.prog 23 #[.int .i64 N] w (ZRes w N (Zo.clo N.toNat (List.replicate ((N.toNat + 1) * (N.toNat + 1)) 1099511627776)) (flE N 1099511627776)) := by
  obtain ⟨b0, b1, b2, b3⟩ := (two_res w).facts
  have P := Lib.hid fun W => filled_gen N 1099511627776 W
  go_enter Try.func23, Try.ntmps23
  go_wp2_with fail
  refine (P.out _).mono ?_
  intro e w1 hz
  obtain ⟨hb, hz⟩ := hz
  have rs := (two_res w).kept hb
  obtain ⟨q0, q1, q2, q3⟩ := rs.facts
  have hB := past_one hb
  have z1 := hb.size
  rcases hz with ⟨he, g, c, rfl, hg, ho⟩ | ⟨he, rfl⟩
  · have HE := Lib.hid he
    have HO := Lib.hid ho
    have HB := Lib.hid hB
    clear he ho hB hb b0 b1 b2 b3
    simp at hg z1
    go_wp2_with fail
    refine bodyPost_ret (v := .tuple #[.agg #[.int .i64 N, .slice (some ⟨g, 0, none⟩) (Zo.clo N.toNat (List.replicate ((N.toNat + 1) * (N.toNat + 1)) 1099511627776)).length c], .int .i64 0]) (by simp [results, Try.results23, go_sem, q0, q1]) rfl ⟨(HB.out.setCell (by show w.heap.size ≤ w.heap.size; omega) _).setCell (by show w.heap.size ≤ w.heap.size; omega) _, Or.inl ⟨HE.out, g, c, rfl, by omega, put_far HO.out (by omega) _ _⟩⟩
  · have HE := Lib.hid he
    have HB := Lib.hid hB
    clear he hB hb b0 b1 b2 b3
    go_wp2_with fail
    refine bodyPost_ret (v := .tuple #[.agg #[.int .i64 0, .slice none 0 0], .int .i64 (flE N 1099511627776)]) (by simp [results, Try.results23, go_sem, q0, q1]) rfl ⟨(HB.out.setCell (by show w.heap.size ≤ w.heap.size; omega) _).setCell (by show w.heap.size ≤ w.heap.size; omega) _, Or.inr ⟨HE.out, rfl⟩⟩
end Go.Proofs.Ytmlknjiifjdimaa
