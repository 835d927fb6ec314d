/- A part. -/
import Derived.Test.YtaegiihkgicdnaaGreatWl23
import Derived.Test.YtaegiihkgicdnaaGreatWl15
import Derived.Test.YtaegiihkgicdnaaGreatWl22
import Derived.Test.YtaegiihkgicdnaaGreatWl17
import Derived.Test.YtaegiihkgicdnaaGreatWl24

namespace Go.Proofs.YtaegiihkgicdnaaGreat
open Go.RowKit

set_option maxRecDepth 100000 in
set_option maxHeartbeats 3200000 in
theorem collect_any (n : Nat) (l : List Int) (a : Addr) (cap : Nat) (A : Array Value) (w : World) (hn : n ≤ 10) (hl : l.length = (n + 1) * (n + 1)) (h : Rd w a l)
    (hK : ∀ (i j : Nat) (W : World), i ≤ n → j ≤ n → Below w.heap.size w W → Calls Tryz.prog 157 #[.agg A, .agg #[.int .i64 n, .slice (some a) l.length cap], .int .i64 i, .int .i64 j] W (Made (.bool (kpB n l i j)) W)) :
    Calls Tryz.prog 155 #[.agg #[.int .i64 n, .slice (some a) l.length cap], .func (.func 157) #[.agg A] #[]] w (fun e w' => Below w.heap.size w w' ∧ ∃ v, e = .returned v ∧ OwnC w' w.heap.size v (redL n l)) := by
  obtain ⟨len, hlen⟩ : ∃ len, len = l.length := ⟨_, rfl⟩
  obtain ⟨i0, hi, hz0, hz1, hz2⟩ := info_parts con_info
  have AT := Lib.hid (miat_len (cap := cap) hn hl h hlen)
  rw [← hlen] at hK
  have KP := Lib.hid hK
  rw [← hlen]
  obtain ⟨w0, hw0, e0, ks⟩ := zbox n a len cap w
  have KS := Lib.hid ks
  have E0 := Lib.hid e0
  have HW0 := Lib.hid hw0
  obtain ⟨b0, b1⟩ := ks w0 (Below.refl _ _)
  have RL := Lib.hid (show redS n l (n + 1) = redL n l from rfl)
  clear ks e0 hw0 hlen hl h hK
  go_enter Tryz.func155, Tryz.ntmps155
  go_wp2_with fail
  rw [← HW0.out]
  go_wp2_with fail
  clear b0 b1
  go_loopw [5, 11] (fun v s wr => ∃ (t : Nat) (cs : List Con), t ≤ n + 1 ∧ s = .int .i64 t ∧ Hid (cs = redS n l t ∧ OwnC wr w0.heap.size v cs ∧ Below w0.heap.size w0 wr)) (fun _ s _ => n + 1 - (intOf s).toNat)
  case atStart => exact ⟨0, [], by omega, rfl, Lib.hid ⟨rfl, OwnC.nil _ _, Below.refl _ _⟩⟩
  case round =>
    obtain ⟨t, cs, ht, rfl, HX⟩ := hrel
    by_cases htn : t ≤ n
    · obtain ⟨b0, b1⟩ := KS.out _ HX.out.2.2
      have D9 : decide ((t : Int) < (n : Int) + 1) = true := by simp; omega
      go_wp2_with fail
      clear b0 b1
      go_loopw [5, 17] (fun v s wx => ∃ (j : Nat) (ds : List Con), j ≤ n + 1 ∧ s = .int .i64 j ∧ Hid (ds = redS n l t ++ redT n l t j ∧ OwnC wx w0.heap.size v ds ∧ Below w0.heap.size w0 wx)) (fun _ s _ => n + 1 - (intOf s).toNat)
      case atStart => exact ⟨0, cs, by omega, rfl, Lib.hid ⟨by rw [HX.out.1]; simp [redT], HX.out.2.1, HX.out.2.2⟩⟩
      case round =>
        obtain ⟨j, ds, hj, rfl, HY⟩ := hrel
        obtain ⟨b0, b1⟩ := KS.out _ HY.out.2.2
        by_cases hjn : j ≤ n
        · cases hkp : kpB n l t j
          · have HK := Lib.hid hkp
            clear hkp
            go_wp2_with fail
            refine (made_as (KP.out t j _ htn hjn (below_on E0.out HY.out.2.2)) HK.out).mono ?_
            rintro e w2 ⟨rfl, hb2⟩
            have HZ := Lib.hid (show ds = redS n l t ++ redT n l t (j + 1) ∧ OwnC w2 w0.heap.size _ ds ∧ Below w0.heap.size w0 w2 from ⟨by rw [redT_no HK.out]; exact HY.out.1, HY.out.2.1.on hb2, below_on HY.out.2.2 hb2⟩)
            clear hb2 b0 b1
            go_wp2_with fail
            go_roundw
            case rel => exact ⟨j + 1, ds, by omega, by go_num, HZ⟩
            case measure => simp [intOf]; omega
          · have HK := Lib.hid hkp
            obtain ⟨x, hx⟩ : ∃ x, x = Zo.At n l t j := ⟨_, rfl⟩
            have HXX := Lib.hid hx
            have A1 := Lib.hid (show ∀ W, Below w.heap.size w W → Calls Tryz.prog 177 #[.agg #[.int .i64 n, .slice (some a) len cap], .int .i64 t, .int .i64 j] W (Made (.int .i64 x) W) from fun W h' => by rw [hx]; exact AT.out t j W htn hjn h')
            clear hkp hx
            go_wp2_with fail
            refine (made_as (KP.out t j _ htn hjn (below_on E0.out HY.out.2.2)) HK.out).mono ?_
            rintro e w2 ⟨rfl, hb2⟩
            have B2 := Lib.hid hb2
            clear hb2 b0 b1
            obtain ⟨b0, b1⟩ := KS.out _ (below_on HY.out.2.2 B2.out)
            go_wp2_with fail
            refine (A1.out _ (below_on E0.out (below_on HY.out.2.2 B2.out))).mono ?_
            rintro e w3 ⟨rfl, hb3⟩
            have HZ := Lib.hid (show Below w0.heap.size w0 w3 from below_on (below_on HY.out.2.2 B2.out) hb3)
            have hown := (HY.out.2.1.on B2.out).on hb3
            have hdl : ds.length ≤ 1000 := by
              rw [HY.out.1, List.length_append]
              have := redS_len n l t
              have := redT_len n l t j
              have : t * (n + 1) ≤ 10 * 11 := Nat.mul_le_mul (by omega) (by omega)
              omega
            have hsz : w0.heap.size ≤ w3.heap.size := HZ.out.size
            clear hb3 b0 b1
            go_wp2_with (at_builtin; refine wpList_append_own _ rfl _ _ 104 rfl w0.heap.size 110 i0 (.agg #[.int .i64 0, .int .i64 0, .int .i64 0]) 3 24 Tryz.underlying104 hi hz0 hz1 hz2 rfl (by decide) _ _ _ rfl (World.ownsRow.alloc hown _) ⟨w3.heap.size, 0, none⟩ 1 1 [.int .i64 t, .int .i64 j, .int .i64 x] rfl rfl (cells_three _ _ _ _ rfl) (by simp [Value.oneCell']) (by unfold maxLen; omega) (by omega) (by simp; omega) ?_)
            intro v' w4 hown4 hgrow _
            have HZ4 := Lib.hid (show Below w0.heap.size w0 w4 from Below.grown (HZ.out.alloc HZ.out.size _) hgrow (by simp; omega) (fun k hk => (World.ownsRow.lt hown k hk).1))
            have HW := Lib.hid (show ds ++ [((t : Int), (j : Int), x)] = redS n l t ++ redT n l t (j + 1) ∧ OwnC w4 w0.heap.size v' (ds ++ [((t : Int), (j : Int), x)]) ∧ Below w0.heap.size w0 w4 from
              ⟨by rw [redT_yes HK.out, HY.out.1, HXX.out, List.append_assoc], by unfold OwnC; rw [conV_app, List.length_append]; exact hown4, HZ4.out⟩)
            clear hown4 hgrow hown hdl hsz
            go_wp2_with fail
            go_roundw
            case rel => exact ⟨j + 1, _, by omega, by go_num, HW⟩
            case measure => simp [intOf]; omega
        · have HE := Lib.hid (show ds = redS n l (t + 1) ∧ OwnC _ w0.heap.size _ ds ∧ Below w0.heap.size w0 _ from ⟨by rw [HY.out.1, redS_succ, show j = n + 1 by omega], HY.out.2⟩)
          go_wp2_with fail
          go_roundw
          case rel => exact ⟨t + 1, ds, by omega, by go_num, HE⟩
          case measure => simp [intOf]; omega
    · have HE := Lib.hid (show cs = redL n l by rw [HX.out.1, ← RL.out, show t = n + 1 by omega])
      go_wp2_with fail
      go_ret
      exact ⟨below_on E0.out HX.out.2.2, _, rfl, by rw [← HE.out]; exact OwnC.low HX.out.2.1 E0.out.size⟩
end Go.Proofs.YtaegiihkgicdnaaGreat

namespace Go.Proofs.YtaegiihkgicdnaaGreat
open Go.RowKit

theorem CRes.made {w w' : World} {v : Value} {cs : List Con} {er : Int} (hb : Below w.heap.size w w') (hv : OwnC w' w.heap.size v cs) : CRes w cs er (.returned (.tuple #[v, .int .i64 er])) w' := ⟨hb, v, rfl, hv⟩

def rdcL (N : Int) (l : List Int) : List Con := if chkE N l = 0 then redL N.toNat l else []

def rdcE (N : Int) (l : List Int) : Int := if chkE N l = 0 then 0 else 2

set_option maxRecDepth 100000 in
set_option maxHeartbeats 3200000 in
theorem reduce_any (n : Nat) (l : List Int) (a : Addr) (cap : Nat) (w : World) (hz : Vz n l) (h : Rd w a l) :
    Calls Tryz.prog 135 #[.agg #[.int .i64 n, .slice (some a) l.length cap]] w (CRes w (redL n l) 0) := by
  obtain ⟨A, hA⟩ : ∃ A, A = arrF fun k => if k ≤ n then clsF n l k else 0 := ⟨_, rfl⟩
  have i64 : ∀ i j, i ≤ n → j ≤ n → I64 (Zo.At n l i j) := fun i j hi hj => by
    have := lv_two (hz.lv hi hj).1
    unfold I64; omega
  have hcl : Cls A n (clsF n l) := by
    rw [hA]
    refine ⟨arrF_size _, arrF_one _, fun k hk => ?_⟩
    have hn := hz.hn
    rw [arrF_at _ (by omega), if_pos hk]
    exact ⟨rfl, by have := (cls_is hz hk).1; omega⟩
  have CK := Lib.hid (show ∀ W, Below w.heap.size w W → Calls Tryz.prog 83 #[.agg #[.int .i64 n, .slice (some a) l.length cap]] W (Made (.int .i64 0) W) from fun W h' => by
    have := zcheck_gen n l (some a) cap W (fun _ => ⟨a, rfl, h.on h'⟩); rw [hz.hc] at this; exact this)
  have DV := Lib.hid (show ∀ W, Below w.heap.size w W → Calls Tryz.prog 156 #[.agg #[.int .i64 n, .slice (some a) l.length cap]] W (Made (.agg A) W) from fun W h' => by
    rw [hA]; exact mdivide_any n l a cap W hz (h.on h'))
  have CO := Lib.hid (show ∀ W, Below w.heap.size w W → Calls Tryz.prog 155 #[.agg #[.int .i64 n, .slice (some a) l.length cap], .func (.func 157) #[.agg A] #[]] W (fun e w' => Below W.heap.size W w' ∧ ∃ v, e = .returned v ∧ OwnC w' W.heap.size v (redL n l)) from fun W h' =>
    collect_any n l a cap A W hz.hn hz.hl (h.on h') (fun i j W2 hi hj h2 => by
      have := keeps_any n i j l a cap A (clsF n l) W2 hz.hn hi hj hz.hl i64 ((h.on h').on h2) hcl
      rw [ks_kp hz hi hj] at this
      exact this))
  generalize l.length = len at *
  obtain ⟨w0, hw0, e0, ks⟩ := zbox n a len cap w
  have KS := Lib.hid ks
  have E0 := Lib.hid e0
  have HW0 := Lib.hid hw0
  obtain ⟨b0, b1⟩ := ks w0 (Below.refl _ _)
  clear ks e0 hw0 hz h hcl hA i64
  go_enter Tryz.func135, Tryz.ntmps135
  go_upto_region 1 with (fail)
  rw [← HW0.out]
  go_wp2_with fail
  refine (CK.out _ E0.out).mono ?_
  rintro e w1 ⟨rfl, hb1⟩
  have B1 := Lib.hid hb1
  clear hb1 b0 b1
  go_wp2_with fail
  have s1 : Below w0.heap.size w0 w1.drew := B1.out.drew
  go_region_held3 (fun w' => w'.cell? ⟨w.heap.size, 0, none⟩ = some (.int .i64 n) ∧ w'.cell? ⟨w.heap.size, 1, none⟩ = some (.slice (some a) len cap)) (first | exact KS.out _ s1 | exact KS.out _ s2 | exact KS.out _ s3)
    (first | (go_at_call 156; refine (DV.out _ (below_on E0.out s1)).mono ?_; rintro e w2 ⟨rfl, hb2⟩; have s2 := below_on s1 hb2) | (go_at_call 155; refine (CO.out _ (below_on E0.out s2)).mono ?_; rintro e w3 ⟨hb3, v, rfl, hv⟩; have s3 := below_on s2 hb3; have hs2 := s2.size))
  have Q := Lib.hid s3
  have HV := Lib.hid (OwnC.low hv (show w.heap.size ≤ w2.heap.size from (below_on E0.out s2).size))
  clear s1 s2 s3 hb2 hb3 hv hs2
  go_wp2_with fail
  go_ret2
  exact CRes.made (below_on E0.out Q.out) HV.out
end Go.Proofs.YtaegiihkgicdnaaGreat

namespace Go.Proofs.YtaegiihkgicdnaaGreat
open Go.RowKit

set_option maxRecDepth 100000 in
set_option maxHeartbeats 3200000 in
theorem zreduce_gen (N : Int) (l : List Int) (ao : Option Addr) (cap : Nat) (w : World) (hA : Arg w ao l) :
    Calls Tryz.prog 135 #[.agg #[.int .i64 N, .slice ao l.length cap]] w (CRes w (rdcL N l) (rdcE N l)) := by
  by_cases hc : chkE N l = 0
  · obtain ⟨n, rfl, hn, hl, hne⟩ := chk_ok hc
    obtain ⟨a, rfl, hR⟩ := hA hne
    have := reduce_any n l a cap w ⟨hn, hl, hc⟩ hR
    rw [show rdcL (n : Int) l = redL n l by unfold rdcL; rw [if_pos hc]; rfl, show rdcE (n : Int) l = 0 by unfold rdcE; rw [if_pos hc]]
    exact this
  · have HE := Lib.hid (show rdcE N l = 2 ∧ rdcL N l = [] by unfold rdcE rdcL; rw [if_neg hc, if_neg hc]; exact ⟨rfl, rfl⟩)
    have CK := Lib.hid (show ∀ W, Below w.heap.size w W → Calls Tryz.prog 83 #[.agg #[.int .i64 N, .slice ao l.length cap]] W (Made (.int .i64 2) W) from fun W h' => by
      have := zcheck_gen N l ao cap W (hA.on h'); rw [chk_two hc] at this; exact this)
    generalize l.length = len at *
    have E0 := Lib.hid (one_more (w1 := w) (.cells #[.int .i64 N, .slice ao len cap] 36))
    clear hA hc
    go_enter Tryz.func135, Tryz.ntmps135
    go_wp2_with fail
    refine (CK.out _ E0.out).mono ?_
    rintro e w1 ⟨rfl, hb1⟩
    have B1 := Lib.hid (below_on E0.out hb1)
    clear hb1
    go_wp2_with fail
    go_ret2
    rw [HE.out.1, HE.out.2]
    exact CRes.made B1.out (OwnC.nil _ _)

set_option maxRecDepth 100000 in
set_option maxHeartbeats 3200000 in
theorem rreduce_gen (N : Int) (l : List Int) (ao : Option Addr) (cap : Nat) (w : World) (hA : Arg w ao l) :
    Calls Tryz.prog 99 #[.agg #[.int .i64 N, .slice ao l.length cap]] w (CRes w (rdcL N l) (rdcE N l)) := by
  by_cases hc : chkE N l = 0
  · obtain ⟨n, rfl, hn, hl, hne⟩ := chk_ok hc
    obtain ⟨a, rfl, hR⟩ := hA hne
    have := rreduce_any n l a cap w hn hl hc hR
    rw [show rdcL (n : Int) l = redL n l by unfold rdcL; rw [if_pos hc]; rfl, show rdcE (n : Int) l = 0 by unfold rdcE; rw [if_pos hc]]
    exact this
  · have HE := Lib.hid (show rdcE N l = 2 ∧ rdcL N l = [] by unfold rdcE rdcL; rw [if_neg hc, if_neg hc]; exact ⟨rfl, rfl⟩)
    have CK := Lib.hid (show ∀ W, Below w.heap.size w W → Calls Tryz.prog 39 #[.agg #[.int .i64 N, .slice ao l.length cap]] W (Made (.int .i64 2) W) from fun W h' => by
      have := check_gen N l ao cap W (hA.on h'); rw [chk_two hc] at this; exact this)
    generalize l.length = len at *
    have E0 := Lib.hid (one_more (w1 := w) (.cells #[.int .i64 N, .slice ao len cap] 36))
    clear hA hc
    go_enter Tryz.func99, Tryz.ntmps99
    go_wp2_with fail
    refine (CK.out _ E0.out).mono ?_
    rintro e w1 ⟨rfl, hb1⟩
    have B1 := Lib.hid (below_on E0.out hb1)
    clear hb1
    go_wp2_with fail
    go_ret2
    rw [HE.out.1, HE.out.2]
    exact CRes.made B1.out (OwnC.nil _ _)

end Go.Proofs.YtaegiihkgicdnaaGreat

namespace Go.Proofs.YtaegiihkgicdnaaGreat
open Go.RowKit

def anP (r : Zp) (cs : List Con) : Zp × Int := ((r.1, Zo.clo r.1.toNat (anL r.1.toNat cs r.2)), anG r.1 cs r.2)

def mtP (x y : Zp) : Zp × Int := ((x.1, Zo.clo x.1.toNat (meL x.2 y.2)), zmE x.1 y.1 x.2 y.2)

def hlP (x y : Zp) : Zp × Int := ((x.1, Zo.clo x.1.toNat (huL x.2 y.2)), huE x.1 y.1 x.2 y.2)

def upP (x : Zp) : Zp × Int := ((x.1, Zo.clo x.1.toNat (upL x.1.toNat x.2)), upE x.1 x.2)

def dnP (x : Zp) : Zp × Int := ((x.1, Zo.clo x.1.toNat (dnL x.1.toNat x.2)), dnE x.1 x.2)
section
variable (z y : ZV) (W : World) {B B' : Nat} (hz : ZAt B W z) (hy : ZAt B' W y)
include hz

theorem up_out : Calls Tryz.prog 62 #[z.val] W (ZOut W (upP z.p)) := (zup_gen z.N z.l z.a z.c W hz.1).mono fun _ _ h => h.zout

theorem dn_out : Calls Tryz.prog 65 #[z.val] W (ZOut W (dnP z.p)) := (zdn_gen z.N z.l z.a z.c W hz.1).mono fun _ _ h => h.zout

theorem rup_out : Calls Tryz.prog 63 #[z.val] W (ZOut W (upP z.p)) := (up_gen z.N z.l z.a z.c W hz.1).mono fun _ _ h => h.zout

theorem rdn_out : Calls Tryz.prog 66 #[z.val] W (ZOut W (dnP z.p)) := (dn_gen z.N z.l z.a z.c W hz.1).mono fun _ _ h => h.zout

theorem an_out (c : Con) (b k : Nat) (h0 : W.cell? ⟨b, 0, none⟩ = some (.int .i64 c.1)) (h1 : W.cell? ⟨b, 1, none⟩ = some (.int .i64 c.2.1)) (h2 : W.cell? ⟨b, 2, none⟩ = some (.int .i64 c.2.2)) :
    Calls Tryz.prog 159 #[z.val, .slice (some ⟨b, 0, none⟩) 1 k] W (ZOut W (anP z.p [c])) :=
  (zan_gen z.N z.l z.a z.c [c] (some ⟨b, 0, none⟩) k W hz.1 (fun _ => ⟨_, rfl, fun j hj => by
    have e : j = 0 := by simpa using hj
    subst e
    exact ⟨by rw [addr_add]; exact h0, by rw [addr_add]; exact h1, by rw [addr_add]; exact h2⟩⟩) (by simp)).mono fun _ _ h => h.zout

theorem ran_out (c : Con) (p : Addr) (hp : p.spot = none) (k : Nat) (h0 : W.cell? p = some (.int .i64 c.1)) (h1 : W.cell? ⟨p.block, p.off + 1, none⟩ = some (.int .i64 c.2.1)) (h2 : W.cell? ⟨p.block, p.off + 2, none⟩ = some (.int .i64 c.2.2)) :
    Calls Tryz.prog 101 #[z.val, .slice (some p) 1 k] W (ZOut W (anP z.p [c])) :=
  (an_gen z.N z.l z.a z.c [c] (some p) k W hz.1 (fun _ => ⟨_, rfl, fun j hj => by
    have e : j = 0 := by simpa using hj
    subst e
    have e2 : p.add (0 * 3) = p := by obtain ⟨b, o, s⟩ := p; simp at hp; subst hp; simp [Addr.add]
    rw [e2]
    exact ⟨h0, h1, h2⟩⟩) (by simp)).mono fun _ _ h => h.zout
include hy

theorem mt_out : Calls Tryz.prog 90 #[z.val, y.val] W (ZOut W (mtP z.p y.p)) := (zme_gen z.N y.N z.l y.l z.a y.a z.c y.c W hz.1 hy.1).mono fun _ _ h => h.zout

theorem rmt_out : Calls Tryz.prog 45 #[z.val, y.val] W (ZOut W (mtP z.p y.p)) := (me_gen z.N y.N z.l y.l z.a y.a z.c y.c W hz.1 hy.1).mono fun _ _ h => h.zout

theorem hl_out : Calls Tryz.prog 141 #[z.val, y.val] W (ZOut W (hlP z.p y.p)) := (zhu_gen z.N y.N z.l y.l z.a y.a z.c y.c W hz.1 hy.1).mono fun _ _ h => h.zout

theorem rhl_out : Calls Tryz.prog 105 #[z.val, y.val] W (ZOut W (hlP z.p y.p)) := (hu_gen z.N y.N z.l y.l z.a y.a z.c y.c W hz.1 hy.1).mono fun _ _ h => h.zout
end

theorem rdc_ok {N : Int} {l : List Int} {c : Con} (h : c ∈ rdcL N l) : I64 c.2.2 ∧ spE c.2.2 = 0 := by
  unfold rdcL at h
  split at h
  · rename_i hc
    obtain ⟨n, rfl, hn, hl, _⟩ := chk_ok hc
    simp only [Int.toNat_natCast] at h
    unfold redL redS redT at h
    simp only [List.mem_flatMap, List.mem_range] at h
    obtain ⟨i, hi, j, hj, hm⟩ := h
    split at hm
    · rename_i hk
      rw [List.mem_singleton] at hm
      subst hm
      have hc2 : chkB (n : Int) l = true := by unfold chkE at hc; split at hc <;> simp_all
      unfold chkB at hc2
      simp only [Bool.and_eq_true, Int.toNat_natCast] at hc2
      have ok := chk1_iff.1 hc2.1.2 i hi j hj
      unfold okI at ok
      simp only [Bool.and_eq_true] at ok
      have lv := ok.1.1
      unfold kpB at hk
      simp only [Bool.and_eq_true, Bool.not_eq_true', decide_eq_false_iff_not] at hk
      have ne := hk.1.2
      unfold lvB at lv
      simp only [decide_eq_true_eq] at lv
      refine ⟨⟨by show _ ≤ Zo.At n l i j; omega, by show Zo.At n l i j ≤ _; omega⟩, ?_⟩
      show spE (Zo.At n l i j) = 0
      unfold spE lvB noB
      rw [if_pos (by simpa using lv), if_neg (by simpa using ne)]
    · cases hm
  · cases h

theorem rdc_len {N : Int} {l : List Int} : (rdcL N l).length ≤ 121 := by
  unfold rdcL
  split
  · rename_i hc
    obtain ⟨n, rfl, hn, _, _⟩ := chk_ok hc
    exact redL_le (by simpa using hn)
  · simp

def cutR : Zp → List Con → Sq
  | _, [] => ([], 0)
  | r, c :: cs => seqA (emS (anP r [opC c])) (if (anP r [c]).2 = 0 then cutR (anP r [c]).1 cs else ([], (anP r [c]).2))

def cutS (x b : Zp) (cs : List Con) : Sq := if (mtP x b).2 = 4 then ([x], 0) else if (mtP x b).2 = 0 then cutR x cs else ([], (mtP x b).2)

theorem oneS_ok {r : Zp × Int} (h : r.2 = 0) : oneS r = ([r.1], 0) := by unfold oneS; rw [if_pos h]

theorem oneS_no {r : Zp × Int} (h : r.2 ≠ 0) : oneS r = ([], r.2) := by unfold oneS; rw [if_neg h]

theorem emS_em {r : Zp × Int} (h : r.2 = 4) : emS r = ([], 0) := by unfold emS; rw [if_pos h]

theorem emS_ok {r : Zp × Int} (h : r.2 = 0) : emS r = ([r.1], 0) := by unfold emS; rw [if_neg (by omega), oneS_ok h]

theorem emS_no {r : Zp × Int} (h : r.2 ≠ 0) (h4 : r.2 ≠ 4) : emS r = ([], r.2) := by unfold emS; rw [if_neg h4, oneS_no h]
end Go.Proofs.YtaegiihkgicdnaaGreat
