/- openAt of layer 3: a good zone.; meets of layer 3.; The contract of layer 3's Has, for whatever zone and point.; The reference's Stay. -/
import Derived.Test.YtbnebinpemejlaaGreatHp5
import Derived.Test.YtbnebinpemejlaaGreatHp4

namespace Go.Proofs.YtbnebinpemejlaaGreat
open Go.RowKit

/-- What openAt leaves of a good zone and a point of its dimension. -/
def OPRes (w : World) (n : Nat) (l : List Int) (ps : List Pq) (e : Ending) (w' : World) : Prop :=
  Below w.heap.size w w' ∧ ((ps.all vldC = false ∧ e = .returned (.tuple #[.agg (mcs 0 []), .slice none 0 0, .int .i64 2])) ∨
    (ps.all vldC = true ∧ ∃ v, e = .returned (.tuple #[.agg (mcs n l), v, .int .i64 0]) ∧ OwnQ w' w.heap.size v ((0, 1) :: ps)))

theorem OwnQ.low {w : World} {B B' : Nat} {v : Value} {ps : List Pq} (h : OwnQ w B v ps) (hb : B' ≤ B) : OwnQ w B' v ps := by
  unfold OwnQ at h ⊢
  refine ⟨h.1, ?_⟩
  rcases h.2 with q | ⟨g, cap, cur, q1, q2, q3⟩
  · exact Or.inl q
  · exact Or.inr ⟨g, cap, cur, q1, by omega, q3⟩

theorem grown_row (w : World) (b : Nat) (cs : Array Value) : w.grownBy (w.setRow b cs) (some b) := ⟨rfl, rfl, rfl, by simp, fun k _ hne => setRow_other w b k cs (by rintro rfl; exact hne rfl)⟩

theorem rd2_one {w : World} {b : Nat} {x y : Int} (h : Pair w b x y) : Rd2 w ⟨b, 0, none⟩ [(x, y)] := by
  intro j hj
  obtain rfl : j = 0 := by simpa using hj
  exact ⟨by simpa [Addr.add, gp] using h.facts.1, by simpa [Addr.add, gp] using h.facts.2.1⟩

theorem OwnQ.row {w : World} {B b B0 : Nat} {v : Value} {ps : List Pq} (h : OwnQ w B v ps) (hb : b < B) (h0 : B0 ≤ B) (cs : Array Value) : OwnQ (w.setRow b cs) B0 v ps := by
  have hl := World.ownsRow.lt h
  refine OwnQ.low (World.ownsRow.kept (row := some b) h (grown_row _ _ _) ?_) h0
  cases hv : v.ownBlock with
  | none => exact Or.inl rfl
  | some k => right; intro e; have := hl k hv; injection e with e; omega

set_option maxRecDepth 100000 in
set_option maxHeartbeats 4000000 in
theorem openat_core (n : Nat) (l : List Int) (ao : Option Addr) (cap : Nat) (ps : List Pq) (d : Addr) (pc : Nat) (w : World) (hA : Arg w ao l) (hc : chkE n l = 0) (hp : ps.length = n) (hP : Rd2 w d ps) (hI : Fits ps) :
    Calls Tryz.prog 20 #[.agg #[.int .i64 n, .slice ao l.length cap], .slice (some d) n pc] w (OPRes w n l ps) := by
  have hz := mx_zero
  have h0 := mx_build0
  obtain ⟨n', en, hn, hl, _⟩ := chk_ok hc
  obtain rfl : n' = n := by omega
  clear en
  have CC := Lib.hid (show ∀ (h b : Nat) (W : World), W.cell? ⟨h, 0, none⟩ = some (.slice (some ⟨b, 0, none⟩) 1 1) → W.cell? ⟨h, 1, none⟩ = some (.slice (some d) n' pc) → Rd2 W ⟨b, 0, none⟩ [((0 : Int), (1 : Int))] → Below w.heap.size w W →
      Calls Tryz.prog 60 #[.slice (some ⟨h, 0, none⟩) 2 2] W (fun e w' => Below W.heap.size W w' ∧ ∃ v, e = .returned v ∧ OwnQ w' W.heap.size v ((0, 1) :: ps)) from fun h b W h0 h1 hq hb => by
    subst hp
    exact concat_some h b (0, 1) ps d pc W h0 h1 hq (fun _ => ⟨d, rfl, hP.on hb⟩) (by omega))
  have CR := Lib.hid (show ∀ W, Below w.heap.size w W → Calls Tryz.prog 37 #[.agg #[.int .i64 n', .slice ao l.length cap]] W (fun e w' => e = .returned (.tuple #[.agg (mcs n' l), .bool true]) ∧ Below W.heap.size W w') from fun W h => by
    have := open_gen n' l ao cap W (hA.on h)
    rwa [rdW_ok hc, show okB n' l = true by unfold okB; rw [hc]; rfl] at this)
  have sz : (mcs n' l).size = 122 := mcs_size (by rw [hl]; exact dsq_le hn)
  have s1 := mcs_one n' l
  have sz0 := mcs_size (n := 0) (l := []) (by simp)
  have HP := Lib.hid hP
  have HI := Lib.hid hI
  have HPL := Lib.hid hp
  generalize l.length = len at CR ⊢
  obtain ⟨w0, hw0⟩ : ∃ w0, w0 = (w.alloc (.cells #[.int .i64 n', .slice ao len cap] 24)).alloc (.cells (mcs 0 []) 54) := ⟨_, rfl⟩
  have bx : Two w0 w.heap.size (.int .i64 n') (.slice ao len cap) := by rw [hw0]; exact (Two.made _ _ _ _).alloc _
  have BX := Lib.hid bx
  obtain ⟨b0, b1, b2, b3⟩ := bx.facts
  have V0 : Var w0 (w.heap.size + 1) (mcs 0 []) := by
    rw [hw0]
    have := Var.made (w.alloc (.cells #[.int .i64 n', .slice ao len cap] 24))
    simpa using this
  have E0 := Lib.hid (show Below w.heap.size w w0 by rw [hw0]; exact past_two (Below.refl _ _))
  have z0 : w0.heap.size = w.heap.size + 2 := by rw [hw0]; simp
  have HV := Lib.hid V0
  clear V0 hA bx hc hl hP hI hp
  go_enter Tryz.func20, Tryz.ntmps20
  go_upto_region 1 with (fail)
  rw [← hw0]
  clear hw0
  go_wp2_with fail
  refine (CR.out _ E0.out).mono ?_
  rintro e w1 ⟨rfl, hb⟩
  have V1 := HV.out.kept hb
  have E1 := below_on E0.out hb
  have hle := E1.size
  have z1 := hb.size
  obtain ⟨w2, hw2⟩ : ∃ w2, w2 = (w1.alloc (.cells (mcs 0 []) 54)).setRow w1.heap.size (mcs n' l) := ⟨_, rfl⟩
  have V2 := Lib.hid (show Var w2 (w.heap.size + 1) (mcs 0 []) by rw [hw2]; exact (V1.kept (one_more _)).far (b' := w1.heap.size) (by have := V1.lt; omega) (mcs n' l))
  have M2 := Lib.hid (show Var w2 w1.heap.size (mcs n' l) by rw [hw2]; exact (Var.made w1).put (mcs n' l) sz)
  have B2 := Lib.hid (show Below w0.heap.size w0 w2 by rw [hw2]; exact Below.setRow (hb.alloc hb.size _) hb.size _)
  have E2 := Lib.hid (below_on E0.out B2.out)
  clear V1 E1 hb b0 b1 b2 b3
  obtain ⟨b0, b1, b2, b3⟩ := (BX.out.kept B2.out).facts
  have hne : w.heap.size + 1 ≠ w1.heap.size := by omega
  go_upto_region 2 with (refine wpl_store rfl _ _ rfl _ _ rfl rfl _ (Var.made _) sz s1 ?_)
  rw [← hw2]
  clear hw2
  have D0 : ((n' : Int) != (n' : Int)) = false := by simp
  go_wp2_with fail
  clear b0 b1 b2 b3
  go_loopw [28] (fun s wr => ∃ t : Nat, t ≤ n' ∧ s = .int .i64 t ∧ Hid (∀ k, k < t → vldC (gp ps k) = true) ∧ Hid (Below w2.heap.size w2 wr)) (fun s _ => n' - (intOf s).toNat)
  case atStart => exact ⟨0, by omega, rfl, Lib.hid (fun k hk => by omega), Lib.hid (Below.refl _ _)⟩
  case round =>
    obtain ⟨t, ht, rfl, HK, HB⟩ := hrel
    by_cases htn : t < n'
    case pos =>
      have D9 : decide ((t : Int) < (n' : Int)) = true := by simp; omega
      obtain ⟨i1, i2⟩ := HI.out t (by rw [HPL.out]; exact htn)
      obtain ⟨c1, c2⟩ := (HP.out.on (below_on E2.out HB.out)) t (by rw [HPL.out]; exact htn)
      obtain ⟨q, hq⟩ : ∃ q, q = gp ps t := ⟨_, rfl⟩
      rw [← hq] at c1 c2 i1 i2
      have HQ := Lib.hid hq
      clear hq
      obtain ⟨x, y⟩ := q
      simp only at c1 c2 i1 i2
      obtain ⟨w4, hw4⟩ : ∃ w4, w4 = wr.alloc (.cells #[.int .i64 x, .int .i64 y] 32) := ⟨_, rfl⟩
      have P4 := Lib.hid (show Pair w4 wr.heap.size x y by rw [hw4]; exact Pair.made _ _ _ _)
      have B4 := Lib.hid (show Below w2.heap.size w2 w4 by rw [hw4]; exact HB.out.alloc HB.out.size _)
      go_upto_region 7 with (fail)
      rw [← hw4]
      clear hw4 c1 c2
      obtain ⟨p0, p1, p2, p3⟩ := P4.out.facts
      cases v : vldB x y
      case false =>
        have HF := Lib.hid (show ps.all vldC = false by
          cases e : ps.all vldC
          · rfl
          · have := rd_all e t (by rw [HPL.out]; exact htn)
            rw [← HQ.out] at this
            simp [vldC, v] at this)
        have V := Lib.hid v
        clear v
        go_wp2_with fail
        refine (valid_as _ i1 i2 V.out).mono ?_
        rintro e w5 ⟨rfl, hb5⟩
        have B5 := Lib.hid (below_on B4.out hb5)
        have V5 := Lib.hid (V2.out.kept B5.out)
        clear hb5 p0 p1 p2 p3
        go_wp2_with (refine wpl_store rfl _ _ rfl _ _ rfl rfl _ V5.out sz0 (mcs_one _ _) ?_)
        refine bodyPost_ret (results_mx3 Tryz.results20 _ rfl rfl rfl (V5.out.put (mcs 0 []) sz0)) rfl ⟨Below.setRow (below_on E2.out B5.out) (by omega) _, Or.inl ⟨HF.out, rfl⟩⟩
      case true =>
        have V := Lib.hid v
        by_cases x0 : x < 0
        case pos =>
          have HF := Lib.hid (show ps.all vldC = false by
            cases e : ps.all vldC
            · rfl
            · have := rd_all e t (by rw [HPL.out]; exact htn)
              rw [← HQ.out] at this
              simp [vldC, v] at this
              omega)
          have D : decide (x < (0 : Int)) = true := by simpa using x0
          clear v
          go_wp2_with fail
          refine (valid_as _ i1 i2 V.out).mono ?_
          rintro e w5 ⟨rfl, hb5⟩
          have B5 := Lib.hid (below_on B4.out hb5)
          have V5 := Lib.hid (V2.out.kept B5.out)
          clear p0 p1 p2 p3
          obtain ⟨p0, p1, p2, p3⟩ := (P4.out.kept hb5).facts
          clear hb5
          go_wp2_with (refine wpl_store rfl _ _ rfl _ _ rfl rfl _ V5.out sz0 (mcs_one _ _) ?_)
          refine bodyPost_ret (results_mx3 Tryz.results20 _ rfl rfl rfl (V5.out.put (mcs 0 []) sz0)) rfl ⟨Below.setRow (below_on E2.out B5.out) (by omega) _, Or.inl ⟨HF.out, rfl⟩⟩
        case neg =>
          have HK2 := Lib.hid (show vldC (gp ps t) = true by rw [← HQ.out]; simp [vldC, v]; omega)
          have D : decide (x < (0 : Int)) = false := by simp; omega
          clear v
          go_wp2_with fail
          refine (valid_as _ i1 i2 V.out).mono ?_
          rintro e w5 ⟨rfl, hb5⟩
          have B5 := Lib.hid (below_on B4.out hb5)
          clear p0 p1 p2 p3
          obtain ⟨p0, p1, p2, p3⟩ := (P4.out.kept hb5).facts
          clear hb5
          go_wp2_with fail
          go_roundw
          case rel =>
            refine ⟨t + 1, by omega, by go_num, Lib.hid (fun k hk => ?_), B5⟩
            by_cases e : k = t
            · rw [e]; exact HK2.out
            · exact HK.out k (by omega)
          case measure => simp [intOf]; omega
    case neg =>
      obtain rfl : t = n' := by omega
      have D9 : decide ((t : Int) < (t : Int)) = false := by simp
      have HALL := Lib.hid (show ps.all vldC = true from rd_of (fun k hk => HK.out k (by rw [HPL.out] at hk; exact hk)))
      have B3 := Lib.hid HB.out
      have M3 := Lib.hid ((M2.out.kept HB.out).kept ((Below.refl wr.heap.size wr).drew))
      clear HK HB
      go_wp2_with fail
      refine wp_region_held_drew (S := (fun w' => Var w' w1.heap.size (mcs t l))) (by kernel_rfl) M3.out (fun h0 => ?_)
      refine wpAnyH_take (i := 0) (v := (.agg (mcs t l))) rfl (by kernel_rfl) (by kernel_rfl) (by kernel_rfl) (fun _ _ _ h => h) (Or.inl ⟨by rfl, fun w' hS => yld_load _ rfl _ rfl _ hS⟩) h0 ?_
      simp only [Act.put, List.getElem_toArray, List.getElem_cons_zero, List.setIfInBounds_toArray, List.set_cons_zero, List.set_cons_succ]
      refine wpAnyH_take (i := 3) (v := ?v2) rfl (by kernel_rfl) (by kernel_rfl) (by kernel_rfl) (fun _ _ _ h => h) (Or.inl ⟨by rfl, ?hy2⟩) h0 ?rest2
      case hy2 => (intro w' hS; (try dsimp only at hS); go_simp; try (with_reducible rfl))
      simp only [Act.put, List.getElem_toArray, List.getElem_cons_zero, List.getElem_cons_succ, List.setIfInBounds_toArray, List.set_cons_zero, List.set_cons_succ]
      refine wpAnyH_ready (rs := [1]) (by kernel_rfl) (by simp) (AllReadyH.cons rfl (fun K hK => ?_) AllReadyH.nil)
      rw [if_pos (by rfl)]
      go_simp
      refine (qzero_any _).mono ?_
      rintro e w4 ⟨rfl, hb4⟩
      have B4 := Lib.hid (below_on B3.out.drew hb4)
      have M4 := Lib.hid (M3.out.kept hb4)
      clear hb4
      go_simp
      refine hK.out _ _ M4.out (fun h0_1 => ?_)
      clear hK K h0
      refine wpAnyH_ready (rs := [2]) (by kernel_rfl) (by simp) (AllReadyH.cons rfl (fun K hK => ?_) AllReadyH.nil)
      rw [if_pos (by rfl)]
      go_simp
      have B5 := Lib.hid (B4.out.alloc B4.out.size (.cells #[.int .i64 0, .int .i64 1] 32))
      go_simp
      refine hK.out _ _ (M4.out.kept (one_more _)) (fun h0_2 => ?_)
      clear hK K h0_1
      refine wpAnyH_ready (rs := [4]) (by kernel_rfl) (by simp) (AllReadyH.cons rfl (fun K hK => ?_) AllReadyH.nil)
      rw [if_pos (by rfl)]
      go_simp
      obtain ⟨w6, hw6⟩ : ∃ w6, w6 = (w4.alloc (.cells #[.int .i64 0, .int .i64 1] 32)).alloc (.cells #[.slice (some ⟨w4.heap.size, 0, none⟩) 1 1, .slice (some d) t pc] 25) := ⟨_, rfl⟩
      have B6 := Lib.hid (show Below w2.heap.size w2 w6 by rw [hw6]; exact B5.out.alloc B5.out.size _)
      have M6 := Lib.hid (show Var w6 w1.heap.size (mcs t l) by rw [hw6]; exact (M4.out.kept (one_more _)).kept (one_more _))
      have C6 := Lib.hid (CC.out (w4.heap.size + 1) w4.heap.size w6 (by rw [hw6]; go_simp) (by rw [hw6]; go_simp) (by rw [hw6]; exact rd2_one ((Pair.made w4 0 1 _).alloc _)) (below_on E2.out B6.out))
      rw [← hw6]
      clear hw6
      go_simp
      refine hK.out _ _ M6.out (fun h0_3 => ?_)
      clear hK K h0_2
      refine wpAnyH_ready (rs := [5]) (by kernel_rfl) (by simp) (AllReadyH.cons rfl (fun K hK => ?_) AllReadyH.nil)
      rw [if_pos (by rfl)]
      go_simp
      refine C6.out.mono ?_
      rintro e w7 ⟨hb7, v, rfl, hv⟩
      have B7 := Lib.hid (below_on B6.out hb7)
      have M7 := Lib.hid (M6.out.kept hb7)
      have O7 := Lib.hid hv
      have V7 := Lib.hid (V2.out.kept B7.out)
      have z6 := B6.out.size
      clear hb7 hv
      go_simp
      refine hK.out _ _ M7.out (fun h0_4 => ?_)
      clear hK K h0_3
      refine wpAnyH_ready (rs := [6]) (by kernel_rfl) (by simp) (AllReadyH.cons rfl (fun K hK => ?_) AllReadyH.nil)
      rw [if_pos (by rfl)]
      refine wp_store_row _ _ _ rfl (w.heap.size + 1) (mcs t l) rfl rfl _ _ V7.out.1 (by rw [sz]; exact mx_size) (by rw [V7.out.2, sz]) (mcs_one _ _) ?_
      refine hK.out _ _ (M7.out.far (by omega) _) (fun h0_5 => ?_)
      clear hK K h0_4
      refine wpAnyH_take (i := 7) (v := ?v3) rfl (by kernel_rfl) (by kernel_rfl) (by kernel_rfl) (fun _ _ _ h => h) (Or.inl ⟨by rfl, ?hy3⟩) h0_5 ?rest3
      case hy3 => (intro w' hS; (try dsimp only at hS); go_simp; try (with_reducible rfl))
      simp only [Act.put, List.getElem_toArray, List.getElem_cons_zero, List.getElem_cons_succ, List.setIfInBounds_toArray, List.set_cons_zero, List.set_cons_succ]
      refine wpAnyH_take (i := 8) (v := ?v4) rfl (by kernel_rfl) (by kernel_rfl) (by kernel_rfl) (fun _ _ _ h => h) (Or.inl ⟨by rfl, ?hy4⟩) h0_5 ?rest4
      case hy4 => (intro w' hS; (try dsimp only at hS); go_simp; try (with_reducible rfl))
      simp only [Act.put, List.getElem_toArray, List.getElem_cons_zero, List.getElem_cons_succ, List.setIfInBounds_toArray, List.set_cons_zero, List.set_cons_succ]
      refine wpAnyH_done (by kernel_rfl) ?_ _
      go_wp2_with fail
      refine bodyPost_ret (results_mx3 Tryz.results20 _ rfl rfl rfl (V7.out.put (mcs t l) sz)) rfl ⟨Below.setRow (below_on E2.out B7.out) (by omega) _, Or.inr ⟨HALL.out, v, rfl, ?_⟩⟩
      exact OwnQ.row O7.out (by have := V2.out.lt; omega) (by have := E2.out.size; omega) _

set_option maxRecDepth 100000 in
set_option maxHeartbeats 4000000 in
theorem openat_nil (n : Nat) (l : List Int) (ao : Option Addr) (cap : Nat) (w : World) (hA : Arg w ao l) (hc : chkE n l = 0) (hn0 : n = 0) :
    Calls Tryz.prog 20 #[.agg #[.int .i64 n, .slice ao l.length cap], .slice none 0 0] w (OPRes w n l []) := by
  have hz := mx_zero
  have h0 := mx_build0
  obtain ⟨n', en, hn, hl, _⟩ := chk_ok hc
  obtain rfl : n' = n := by omega
  clear en
  have CC := Lib.hid (show ∀ (h b : Nat) (W : World), W.cell? ⟨h, 0, none⟩ = some (.slice (some ⟨b, 0, none⟩) 1 1) → W.cell? ⟨h, 1, none⟩ = some (.slice none 0 0) → Rd2 W ⟨b, 0, none⟩ [((0 : Int), (1 : Int))] → Below w.heap.size w W →
      Calls Tryz.prog 60 #[.slice (some ⟨h, 0, none⟩) 2 2] W (fun e w' => Below W.heap.size W w' ∧ ∃ v, e = .returned v ∧ OwnQ w' W.heap.size v ((0, 1) :: [])) from fun h b W h0 h1 hq hb => concat_nil h b (0, 1) W h0 h1 hq)
  have CR := Lib.hid (show ∀ W, Below w.heap.size w W → Calls Tryz.prog 37 #[.agg #[.int .i64 n', .slice ao l.length cap]] W (fun e w' => e = .returned (.tuple #[.agg (mcs n' l), .bool true]) ∧ Below W.heap.size W w') from fun W h => by
    have := open_gen n' l ao cap W (hA.on h)
    rwa [rdW_ok hc, show okB n' l = true by unfold okB; rw [hc]; rfl] at this)
  have sz : (mcs n' l).size = 122 := mcs_size (by rw [hl]; exact dsq_le hn)
  have s1 := mcs_one n' l
  have sz0 := mcs_size (n := 0) (l := []) (by simp)
  have HN0 := Lib.hid hn0
  generalize l.length = len at CR ⊢
  obtain ⟨w0, hw0⟩ : ∃ w0, w0 = (w.alloc (.cells #[.int .i64 n', .slice ao len cap] 24)).alloc (.cells (mcs 0 []) 54) := ⟨_, rfl⟩
  have bx : Two w0 w.heap.size (.int .i64 n') (.slice ao len cap) := by rw [hw0]; exact (Two.made _ _ _ _).alloc _
  have BX := Lib.hid bx
  obtain ⟨b0, b1, b2, b3⟩ := bx.facts
  have V0 : Var w0 (w.heap.size + 1) (mcs 0 []) := by
    rw [hw0]
    have := Var.made (w.alloc (.cells #[.int .i64 n', .slice ao len cap] 24))
    simpa using this
  have E0 := Lib.hid (show Below w.heap.size w w0 by rw [hw0]; exact past_two (Below.refl _ _))
  have z0 : w0.heap.size = w.heap.size + 2 := by rw [hw0]; simp
  have HV := Lib.hid V0
  clear V0 hA bx hc hl hn0
  go_enter Tryz.func20, Tryz.ntmps20
  go_upto_region 1 with (fail)
  rw [← hw0]
  clear hw0
  go_wp2_with fail
  refine (CR.out _ E0.out).mono ?_
  rintro e w1 ⟨rfl, hb⟩
  have V1 := HV.out.kept hb
  have E1 := below_on E0.out hb
  have hle := E1.size
  have z1 := hb.size
  obtain ⟨w2, hw2⟩ : ∃ w2, w2 = (w1.alloc (.cells (mcs 0 []) 54)).setRow w1.heap.size (mcs n' l) := ⟨_, rfl⟩
  have V2 := Lib.hid (show Var w2 (w.heap.size + 1) (mcs 0 []) by rw [hw2]; exact (V1.kept (one_more _)).far (b' := w1.heap.size) (by have := V1.lt; omega) (mcs n' l))
  have M2 := Lib.hid (show Var w2 w1.heap.size (mcs n' l) by rw [hw2]; exact (Var.made w1).put (mcs n' l) sz)
  have B2 := Lib.hid (show Below w0.heap.size w0 w2 by rw [hw2]; exact Below.setRow (hb.alloc hb.size _) hb.size _)
  have E2 := Lib.hid (below_on E0.out B2.out)
  clear V1 E1 hb b0 b1 b2 b3
  obtain ⟨b0, b1, b2, b3⟩ := (BX.out.kept B2.out).facts
  have hne : w.heap.size + 1 ≠ w1.heap.size := by omega
  go_upto_region 2 with (refine wpl_store rfl _ _ rfl _ _ rfl rfl _ (Var.made _) sz s1 ?_)
  rw [← hw2]
  clear hw2
  have D0 : ((0 : Int) != (n' : Int)) = false := by have := HN0.out; simp; omega
  go_wp2_with fail
  clear b0 b1 b2 b3
  go_loopw [28] (fun s wr => ∃ t : Nat, t ≤ n' ∧ s = .int .i64 t ∧ Hid (∀ k, k < t → vldC (gp [] k) = true) ∧ Hid (Below w2.heap.size w2 wr)) (fun s _ => n' - (intOf s).toNat)
  case atStart => exact ⟨0, by omega, rfl, Lib.hid (fun k hk => by omega), Lib.hid (Below.refl _ _)⟩
  case round =>
    obtain ⟨t, ht, rfl, HK, HB⟩ := hrel
    have hn00 := HN0.out
    obtain rfl : t = 0 := by omega
    clear hn00
    have D9 : decide ((0 : Int) < (0 : Int)) = false := by simp
    have HALL := Lib.hid (show ([] : List Pq).all vldC = true from rfl)
    have B3 := Lib.hid HB.out
    have M3 := Lib.hid ((M2.out.kept HB.out).kept ((Below.refl wr.heap.size wr).drew))
    clear HK HB
    go_wp2_with fail
    refine wp_region_held_drew (S := (fun w' => Var w' w1.heap.size (mcs n' l))) (by kernel_rfl) M3.out (fun h0 => ?_)
    refine wpAnyH_take (i := 0) (v := (.agg (mcs n' l))) rfl (by kernel_rfl) (by kernel_rfl) (by kernel_rfl) (fun _ _ _ h => h) (Or.inl ⟨by rfl, fun w' hS => yld_load _ rfl _ rfl _ hS⟩) h0 ?_
    simp only [Act.put, List.getElem_toArray, List.getElem_cons_zero, List.setIfInBounds_toArray, List.set_cons_zero, List.set_cons_succ]
    refine wpAnyH_take (i := 3) (v := ?v6) rfl (by kernel_rfl) (by kernel_rfl) (by kernel_rfl) (fun _ _ _ h => h) (Or.inl ⟨by rfl, ?hy6⟩) h0 ?rest6
    case hy6 => (intro w' hS; (try dsimp only at hS); go_simp; try (with_reducible rfl))
    simp only [Act.put, List.getElem_toArray, List.getElem_cons_zero, List.getElem_cons_succ, List.setIfInBounds_toArray, List.set_cons_zero, List.set_cons_succ]
    refine wpAnyH_ready (rs := [1]) (by kernel_rfl) (by simp) (AllReadyH.cons rfl (fun K hK => ?_) AllReadyH.nil)
    rw [if_pos (by rfl)]
    go_simp
    refine (qzero_any _).mono ?_
    rintro e w4 ⟨rfl, hb4⟩
    have B4 := Lib.hid (below_on B3.out.drew hb4)
    have M4 := Lib.hid (M3.out.kept hb4)
    clear hb4
    go_simp
    refine hK.out _ _ M4.out (fun h0_1 => ?_)
    clear hK K h0
    refine wpAnyH_ready (rs := [2]) (by kernel_rfl) (by simp) (AllReadyH.cons rfl (fun K hK => ?_) AllReadyH.nil)
    rw [if_pos (by rfl)]
    go_simp
    have B5 := Lib.hid (B4.out.alloc B4.out.size (.cells #[.int .i64 0, .int .i64 1] 32))
    go_simp
    refine hK.out _ _ (M4.out.kept (one_more _)) (fun h0_2 => ?_)
    clear hK K h0_1
    refine wpAnyH_ready (rs := [4]) (by kernel_rfl) (by simp) (AllReadyH.cons rfl (fun K hK => ?_) AllReadyH.nil)
    rw [if_pos (by rfl)]
    go_simp
    obtain ⟨w6, hw6⟩ : ∃ w6, w6 = (w4.alloc (.cells #[.int .i64 0, .int .i64 1] 32)).alloc (.cells #[.slice (some ⟨w4.heap.size, 0, none⟩) 1 1, .slice none 0 0] 25) := ⟨_, rfl⟩
    have B6 := Lib.hid (show Below w2.heap.size w2 w6 by rw [hw6]; exact B5.out.alloc B5.out.size _)
    have M6 := Lib.hid (show Var w6 w1.heap.size (mcs n' l) by rw [hw6]; exact (M4.out.kept (one_more _)).kept (one_more _))
    have C6 := Lib.hid (CC.out (w4.heap.size + 1) w4.heap.size w6 (by rw [hw6]; go_simp) (by rw [hw6]; go_simp) (by rw [hw6]; exact rd2_one ((Pair.made w4 0 1 _).alloc _)) (below_on E2.out B6.out))
    rw [← hw6]
    clear hw6
    go_simp
    refine hK.out _ _ M6.out (fun h0_3 => ?_)
    clear hK K h0_2
    refine wpAnyH_ready (rs := [5]) (by kernel_rfl) (by simp) (AllReadyH.cons rfl (fun K hK => ?_) AllReadyH.nil)
    rw [if_pos (by rfl)]
    go_simp
    refine C6.out.mono ?_
    rintro e w7 ⟨hb7, v, rfl, hv⟩
    have B7 := Lib.hid (below_on B6.out hb7)
    have M7 := Lib.hid (M6.out.kept hb7)
    have O7 := Lib.hid hv
    have V7 := Lib.hid (V2.out.kept B7.out)
    have z6 := B6.out.size
    clear hb7 hv
    go_simp
    refine hK.out _ _ M7.out (fun h0_4 => ?_)
    clear hK K h0_3
    refine wpAnyH_ready (rs := [6]) (by kernel_rfl) (by simp) (AllReadyH.cons rfl (fun K hK => ?_) AllReadyH.nil)
    rw [if_pos (by rfl)]
    refine wp_store_row _ _ _ rfl (w.heap.size + 1) (mcs n' l) rfl rfl _ _ V7.out.1 (by rw [sz]; exact mx_size) (by rw [V7.out.2, sz]) (mcs_one _ _) ?_
    refine hK.out _ _ (M7.out.far (by omega) _) (fun h0_5 => ?_)
    clear hK K h0_4
    refine wpAnyH_take (i := 7) (v := ?v7) rfl (by kernel_rfl) (by kernel_rfl) (by kernel_rfl) (fun _ _ _ h => h) (Or.inl ⟨by rfl, ?hy7⟩) h0_5 ?rest7
    case hy7 => (intro w' hS; (try dsimp only at hS); go_simp; try (with_reducible rfl))
    simp only [Act.put, List.getElem_toArray, List.getElem_cons_zero, List.getElem_cons_succ, List.setIfInBounds_toArray, List.set_cons_zero, List.set_cons_succ]
    refine wpAnyH_take (i := 8) (v := ?v8) rfl (by kernel_rfl) (by kernel_rfl) (by kernel_rfl) (fun _ _ _ h => h) (Or.inl ⟨by rfl, ?hy8⟩) h0_5 ?rest8
    case hy8 => (intro w' hS; (try dsimp only at hS); go_simp; try (with_reducible rfl))
    simp only [Act.put, List.getElem_toArray, List.getElem_cons_zero, List.getElem_cons_succ, List.setIfInBounds_toArray, List.set_cons_zero, List.set_cons_succ]
    refine wpAnyH_done (by kernel_rfl) ?_ _
    go_wp2_with fail
    refine bodyPost_ret (results_mx3 Tryz.results20 _ rfl rfl rfl (V7.out.put (mcs n' l) sz)) rfl ⟨Below.setRow (below_on E2.out B7.out) (by omega) _, Or.inr ⟨HALL.out, v, rfl, ?_⟩⟩
    exact OwnQ.row O7.out (by have := V2.out.lt; omega) (by have := E2.out.size; omega) _

theorem rdE_bad {N : Int} {l : List Int} {ps : List Pq} (h : okB N l = false ∨ (ps.length : Int) ≠ N) : rdE N l ps = 2 := by
  unfold rdE
  rw [if_neg]
  rintro ⟨h1, h2, _⟩
  rcases h with h | h
  · unfold okB at h; simp [h1] at h
  · exact h h2

theorem rdE_all {N : Int} {l : List Int} {ps : List Pq} (h : ps.all vldC = false) : rdE N l ps = 2 := by
  unfold rdE
  rw [if_neg]
  rintro ⟨_, _, h3⟩
  rw [h] at h3; cases h3

theorem rdE_yes {N : Int} {l : List Int} {ps : List Pq} (h1 : chkE N l = 0) (h2 : (ps.length : Int) = N) (h3 : ps.all vldC = true) : rdE N l ps ≠ 2 := by
  unfold rdE
  rw [if_pos ⟨h1, h2, h3⟩]
  split <;> omega

/-- What openAt leaves. -/
def OARes (w : World) (N : Int) (l : List Int) (ps : List Pq) (e : Ending) (w' : World) : Prop :=
  Below w.heap.size w w' ∧ ((rdE N l ps = 2 ∧ e = .returned (.tuple #[.agg (mcs 0 []), .slice none 0 0, .int .i64 2])) ∨
    (rdE N l ps ≠ 2 ∧ ∃ v, e = .returned (.tuple #[.agg (mcs N.toNat l), v, .int .i64 0]) ∧ OwnQ w' w.heap.size v ((0, 1) :: ps)))

theorem openat_gen (N : Int) (l : List Int) (ao : Option Addr) (cap : Nat) (ps : List Pq) (po : Option Addr) (pc : Nat) (w : World) (hA : Arg w ao l) (hP : Arg2 w po ps) (hI : Fits ps) (hN : po = none → pc = 0) :
    Calls Tryz.prog 20 #[.agg #[.int .i64 N, .slice ao l.length cap], .slice po ps.length pc] w (OARes w N l ps) := by
  by_cases hb : okB N l = false ∨ (ps.length : Int) ≠ N
  · refine (openat_bad N l ao cap po ps.length pc w hA hb).mono ?_
    rintro e w' ⟨rfl, hb'⟩
    exact ⟨hb', Or.inl ⟨rdE_bad hb, rfl⟩⟩
  · have hc : chkE N l = 0 := by
      by_cases e : chkE N l = 0
      · exact e
      · exact absurd (Or.inl (by unfold okB; simp [e])) hb
    have hl : (ps.length : Int) = N := by
      by_cases e : (ps.length : Int) = N
      · exact e
      · exact absurd (Or.inr e) hb
    clear hb
    obtain ⟨n, rfl, hn, _⟩ := chk_ok hc
    have key : Calls Tryz.prog 20 #[.agg #[.int .i64 n, .slice ao l.length cap], .slice po ps.length pc] w (OPRes w n l ps) := by
      cases po with
      | none =>
        obtain rfl : pc = 0 := hN rfl
        have e : ps = [] := by
          by_cases c : ps = []
          · exact c
          · obtain ⟨_, q, _⟩ := hP c; cases q
        subst e
        simp at hl
        exact openat_nil n l ao cap w hA hc (by omega)
      | some d =>
        have hl' : ps.length = n := by omega
        have hR : Rd2 w d ps := by
          by_cases c : ps = []
          · subst c; intro j hj; simp at hj
          · obtain ⟨a, q, h⟩ := hP c
            injection q with q; subst q; exact h
        have := openat_core n l ao cap ps d pc w hA hc hl' hR hI
        rw [hl']; exact this
    refine key.mono ?_
    rintro e w' ⟨hb', h⟩
    refine ⟨hb', ?_⟩
    rcases h with ⟨h1, h2⟩ | ⟨h1, v, h2, h3⟩
    · exact Or.inl ⟨rdE_all h1, h2⟩
    · exact Or.inr ⟨rdE_yes hc hl h1, v, by rw [h2]; simp, h3⟩
end Go.Proofs.YtbnebinpemejlaaGreat

namespace Go.Proofs.YtbnebinpemejlaaGreat
open Go.RowKit

def mtA (n f : Nat) (ps : List Pq) : Bool := (List.range (n + 1)).all fun i => (List.range (n + 1)).all fun j => decide (i < f) || decide (j < f) || decide (sbE ps i j = 0)

def mtH (n f : Nat) (l : List Int) (ps : List Pq) : Bool := (List.range (n + 1)).all fun i => (List.range (n + 1)).all fun j => decide (i < f) || decide (j < f) || hsM n l ps i j

/-- What meets returns: do the differences of the clocks from f on meet their bounds, and the error. -/
def mtR (n f : Nat) (l : List Int) (ps : List Pq) : Bool × Int := if mtA n f ps then (mtH n f l ps, 0) else (false, 7)

theorem mtA_iff {n f : Nat} {ps : List Pq} : mtA n f ps = true ↔ ∀ i, f ≤ i → i < n + 1 → ∀ j, f ≤ j → j < n + 1 → sbE ps i j = 0 := by
  unfold mtA
  simp only [List.all_eq_true, List.mem_range, Bool.or_eq_true, decide_eq_true_eq]
  constructor
  · intro h i h1 h2 j h3 h4
    rcases h i h2 j h4 with (h | h) | h
    · omega
    · omega
    · exact h
  · intro h i h2 j h4
    by_cases h1 : i < f
    · exact Or.inl (Or.inl h1)
    · by_cases h3 : j < f
      · exact Or.inl (Or.inr h3)
      · exact Or.inr (h i (by omega) h2 j (by omega) h4)

theorem mtH_iff {n f : Nat} {l : List Int} {ps : List Pq} : mtH n f l ps = true ↔ ∀ i, f ≤ i → i < n + 1 → ∀ j, f ≤ j → j < n + 1 → hsM n l ps i j = true := by
  unfold mtH
  simp only [List.all_eq_true, List.mem_range, Bool.or_eq_true, decide_eq_true_eq]
  constructor
  · intro h i h1 h2 j h3 h4
    rcases h i h2 j h4 with (h | h) | h
    · omega
    · omega
    · exact h
  · intro h i h2 j h4
    by_cases h1 : i < f
    · exact Or.inl (Or.inl h1)
    · by_cases h3 : j < f
      · exact Or.inl (Or.inr h3)
      · exact Or.inr (h i (by omega) h2 j (by omega) h4)

theorem mtR_ok {n f : Nat} {l : List Int} {ps : List Pq} {mb : Bool} (h : ∀ i, f ≤ i → i < n + 1 → ∀ j, f ≤ j → j < n + 1 → sbE ps i j = 0) (hm : mb = true ↔ ∀ i, f ≤ i → i < n + 1 → ∀ j, f ≤ j → j < n + 1 → hsM n l ps i j = true) : mtR n f l ps = (mb, 0) := by
  unfold mtR
  rw [if_pos (mtA_iff.2 h)]
  have : mtH n f l ps = mb := by rw [Bool.eq_iff_iff]; exact mtH_iff.trans hm.symm
  rw [this]

theorem mtR_no {n f : Nat} {l : List Int} {ps : List Pq} {i j : Nat} (h1 : f ≤ i) (h2 : i < n + 1) (h3 : f ≤ j) (h4 : j < n + 1) (h : sbE ps i j ≠ 0) : mtR n f l ps = (false, 7) := by
  unfold mtR
  rw [if_neg]
  intro e
  exact h (mtA_iff.1 e i h1 h2 j h3 h4)

theorem clk_gp (ps : List Pq) (i : Nat) : gp ((0, 1) :: ps) i = clk ps i := by
  unfold clk
  cases i with
  | zero => rfl
  | succ i => simp [gp]

theorem sbE_or {ps : List Pq} (h : ∀ k, k < ps.length → vldC (gp ps k) = true) {i j : Nat} (hi : i ≤ ps.length) (hj : j ≤ ps.length) : sbE ps i j = 0 ∨ sbE ps i j = 7 := by
  have v1 := vld_bd (clk_ok h hi)
  have v2 := vld_bd (clk_ok h hj)
  by_cases e : sbE ps i j = 0
  · exact Or.inl e
  · right
    unfold sbE at e ⊢
    refine (mk_zero ?_ e).2.2
    intro q
    rcases Int.mul_eq_zero.1 q with q | q <;> omega

theorem psub_clk {ps : List Pq} (w : World) (h : ∀ k, k < ps.length → vldC (gp ps k) = true) {i j : Nat} (hi : i ≤ ps.length) (hj : j ≤ ps.length) :
    Calls Tryz.prog 61 #[.agg #[.int .i64 (clk ps i).1, .int .i64 (clk ps i).2], .agg #[.int .i64 (clk ps j).1, .int .i64 (clk ps j).2]] w (Made (.tuple #[.agg #[.int .i64 (sbN ps i j), .int .i64 (sbD ps i j)], .int .i64 (sbE ps i j)]) w) := by
  have v1 := clk_ok h hi
  have v2 := clk_ok h hj
  obtain ⟨a1, a2, a3, a4⟩ := vld_bd v1
  obtain ⟨b1, b2, b3, b4⟩ := vld_bd v2
  have := sub_any (clk ps i).1 (clk ps i).2 (clk ps j).1 (clk ps j).2 w (by unfold I64; omega) (by unfold I64; omega) (by unfold I64; omega) (by unfold I64; omega)
  rw [v1, v2] at this
  exact this

theorem sb_vld {ps : List Pq} {i j : Nat} (h : sbE ps i j = 0) : vldB (sbN ps i j) (sbD ps i j) = true := (mk_ok h).2.1

theorem chk_lv {n : Nat} {l : List Int} (h : chkE (n : Int) l = 0) {i j : Nat} (hi : i ≤ n) (hj : j ≤ n) : lvB (Zo.At n l i j) = true := by
  unfold chkE at h
  split at h
  · rename_i c
    unfold chkB at c
    simp only [Bool.and_eq_true] at c
    have := chk1_iff.1 c.1.2 i (by simp; omega) j (by simp; omega)
    simp only [Int.toNat_natCast] at this
    unfold okI at this
    simp only [Bool.and_eq_true] at this
    exact this.1.1
  · omega

set_option maxRecDepth 100000 in
set_option maxHeartbeats 8000000 in
theorem meets_any (n f : Nat) (l : List Int) (ps : List Pq) (b0 : Nat) (a : Addr) (cap : Nat) (w : World) (hc : chkE n l = 0) (hf : f ≤ 1) (hp : ps.length = n) (hM : Mx w b0 n l) (hP : Rd2 w a ((0, 1) :: ps)) (hV : ps.all vldC = true) :
    Calls Tryz.prog 21 #[.pointer (some ⟨b0, 0, none⟩), .slice (some a) (n + 1) cap, .int .i64 f] w (Made (.tuple #[.bool (mtR n f l ps).1, .int .i64 (mtR n f l ps).2]) w) := by
  obtain ⟨n', en, hn, hl, _⟩ := chk_ok hc
  obtain rfl : n' = n := by omega
  clear en
  have hv := rd_all hV
  have HSB := Lib.hid (fun (i j : Nat) (hi : i ≤ n') (hj : j ≤ n') W => psub_clk (ps := ps) W hv (i := i) (j := j) (by omega) (by omega))
  have HOR := Lib.hid (fun (i j : Nat) (hi : i ≤ n') (hj : j ≤ n') => sbE_or (ps := ps) hv (i := i) (j := j) (by omega) (by omega))
  have HMT := Lib.hid (fun (i j : Nat) W (hi : i ≤ n') (hj : j ≤ n') (h0 : sbE ps i j = 0) => show Calls Tryz.prog 62 #[.agg #[.int .i64 (sbN ps i j), .int .i64 (sbD ps i j)], .int .i64 (Zo.At n' l i j)] W (Made (.tuple #[.bool (hsM n' l ps i j), .int .i64 0]) W) from by
    have hb := vld_bd (sb_vld h0)
    have := limMeets_any (sbN ps i j) (sbD ps i j) (Zo.At n' l i j) W (by unfold I64; omega) (by unfold I64; omega) (chk_i64 hc hi hj)
    rw [show meE (sbN ps i j) (sbD ps i j) (Zo.At n' l i j) = 0 by unfold meE; rw [sb_vld h0, chk_lv hc hi hj]; rfl] at this
    exact this)
  have HP := Lib.hid hP
  have HM := Lib.hid hM
  have HPL := Lib.hid hp
  have HLL := Lib.hid hl
  have HKP := Lib.hid (show ∀ W, Below w.heap.size w W → Mx W b0 n' l from fun W h => hM.of_block (h.block _ hM.lt))
  clear hP hM hp hl hv hV hc
  go_enter Tryz.func21, Tryz.ntmps21
  go_wp2_with fail
  go_loopw [8, 9] (fun s t wr => ∃ (i : Nat) (mb : Bool), f ≤ i ∧ i ≤ n' + 1 ∧ s = .bool mb ∧ t = .int .i64 i ∧ Hid (mb = true ↔ ∀ x, f ≤ x → x < i → ∀ y, f ≤ y → y < n' + 1 → hsM n' l ps x y = true) ∧ Hid (∀ x, f ≤ x → x < i → ∀ y, f ≤ y → y < n' + 1 → sbE ps x y = 0) ∧ Hid (Below w.heap.size w wr)) (fun _ t _ => n' + 1 - (intOf t).toNat)
  case atStart => exact ⟨f, true, by omega, by omega, rfl, rfl, Lib.hid ⟨fun _ x h1 h2 => by omega, fun _ => rfl⟩, Lib.hid (fun x h1 h2 => by omega), Lib.hid (Below.refl _ _)⟩
  case round =>
    obtain ⟨i, mb, hif, hin, rfl, rfl, HS1, HS2, HB⟩ := hrel
    have d0 := (HKP.out _ HB.out).dim
    by_cases hi : i ≤ n'
    case neg =>
      have D : decide ((i : Int) ≤ (n' : Int)) = false := by simp; omega
      have HE := Lib.hid (show mtR n' f l ps = (mb, 0) from by
        have e : i = n' + 1 := by omega
        have h1 := HS1.out
        have h2 := HS2.out
        rw [e] at h1 h2
        exact mtR_ok h2 h1)
      go_wp2_with fail
      go_ret2
      exact ⟨by rw [HE.out]; rfl, HB.out⟩
    case pos =>
      have D : decide ((i : Int) ≤ (n' : Int)) = true := by simp; omega
      go_wp2_with fail
      clear d0
      go_loopw [8, 10] (fun s t wr => ∃ (j : Nat) (mc : Bool), f ≤ j ∧ j ≤ n' + 1 ∧ s = .bool mc ∧ t = .int .i64 j ∧ Hid (mc = true ↔ (∀ x, f ≤ x → x < i → ∀ y, f ≤ y → y < n' + 1 → hsM n' l ps x y = true) ∧ ∀ y, f ≤ y → y < j → hsM n' l ps i y = true) ∧ Hid (∀ x, f ≤ x → x < i → ∀ y, f ≤ y → y < n' + 1 → sbE ps x y = 0) ∧ Hid (∀ y, f ≤ y → y < j → sbE ps i y = 0) ∧ Hid (Below w.heap.size w wr)) (fun _ t _ => n' + 1 - (intOf t).toNat)
      case atStart => exact ⟨f, mb, by omega, by omega, rfl, rfl, Lib.hid ⟨fun h => ⟨HS1.out.1 h, fun y h1 h2 => by omega⟩, fun h => HS1.out.2 h.1⟩, HS2, Lib.hid (fun y h1 h2 => by omega), HB⟩
      case round =>
        clear HS1 HS2 HB
        obtain ⟨j, mc, hjf, hjn, rfl, rfl, HS1, HS2, HS5, HB⟩ := hrel
        have d0 := (HKP.out _ HB.out).dim
        by_cases hj : j ≤ n'
        case neg =>
          have E : decide ((j : Int) ≤ (n' : Int)) = false := by simp; omega
          have HT1 := Lib.hid (show mc = true ↔ ∀ x, f ≤ x → x < i + 1 → ∀ y, f ≤ y → y < n' + 1 → hsM n' l ps x y = true from by
            rw [HS1.out]
            constructor
            · intro h x h1 h2 y h3 h4
              by_cases e : x = i
              · rw [e]; exact h.2 y h3 (by omega)
              · exact h.1 x h1 (by omega) y h3 h4
            · intro h
              exact ⟨fun x h1 h2 => h x h1 (by omega), fun y h1 h2 => h i hif (by omega) y h1 (by omega)⟩)
          have HT2 := Lib.hid (show ∀ x, f ≤ x → x < i + 1 → ∀ y, f ≤ y → y < n' + 1 → sbE ps x y = 0 from fun x h1 h2 y h3 h4 => by
            by_cases e : x = i
            · rw [e]; exact HS5.out y h3 (by omega)
            · exact HS2.out x h1 (by omega) y h3 h4)
          go_wp2_with fail
          go_roundw
          case rel => exact ⟨i + 1, mc, by omega, by omega, rfl, by go_num, HT1, HT2, HB⟩
          case measure => simp [intOf]; omega
        case pos =>
          have E : decide ((j : Int) ≤ (n' : Int)) = true := by simp; omega
          have SB := Lib.hid (fun W => HSB.out i j hi hj W)
          have hor := HOR.out i j hi hj
          have MT0 := Lib.hid (fun W => HMT.out i j W hi hj)
          obtain ⟨sn, hsn⟩ : ∃ x, x = sbN ps i j := ⟨_, rfl⟩
          obtain ⟨sd, hsd⟩ : ∃ x, x = sbD ps i j := ⟨_, rfl⟩
          obtain ⟨se, hse⟩ : ∃ x, x = sbE ps i j := ⟨_, rfl⟩
          obtain ⟨ok, hok⟩ : ∃ x, x = hsM n' l ps i j := ⟨_, rfl⟩
          obtain ⟨lv, hlv⟩ : ∃ x, x = Zo.At n' l i j := ⟨_, rfl⟩
          rw [← hsn, ← hsd, ← hse] at SB
          rw [← hse] at hor
          rw [← hsn, ← hsd, ← hse, ← hlv, ← hok] at MT0
          have ix := Zo.ix_lt hi hj
          have e1 := Lib.hid (show ∀ W, Mx W b0 n' l → W.cell? ⟨b0, 1 + i * (n' + 1) + j, none⟩ = some (.int .i64 lv) from fun W h => by rw [hlv, Nat.add_assoc]; exact h.at (by rw [h.2]; exact ix))
          have HSE := Lib.hid hse
          have HOK := Lib.hid hok
          have KS0 := Lib.hid (show ∀ W, Below w.heap.size w W → ((W.cell? (a.add (i * 2)) = some (.int .i64 (clk ps i).1) ∧ W.cell? ⟨(a.add (i * 2)).block, (a.add (i * 2)).off + 1, none⟩ = some (.int .i64 (clk ps i).2)) ∧ (W.cell? (a.add (j * 2)) = some (.int .i64 (clk ps j).1) ∧ W.cell? ⟨(a.add (j * 2)).block, (a.add (j * 2)).off + 1, none⟩ = some (.int .i64 (clk ps j).2))) from fun W h => by
            have h1 := (HP.out.on h) i (by simp [HPL.out]; omega)
            have h2 := (HP.out.on h) j (by simp [HPL.out]; omega)
            rw [clk_gp] at h1 h2
            exact ⟨h1, h2⟩)
          obtain ⟨xn, hxn⟩ : ∃ x, x = (clk ps i).1 := ⟨_, rfl⟩
          obtain ⟨xd, hxd⟩ : ∃ x, x = (clk ps i).2 := ⟨_, rfl⟩
          obtain ⟨yn, hyn⟩ : ∃ x, x = (clk ps j).1 := ⟨_, rfl⟩
          obtain ⟨yd, hyd⟩ : ∃ x, x = (clk ps j).2 := ⟨_, rfl⟩
          rw [← hxn, ← hxd, ← hyn, ← hyd] at SB KS0
          have KS := KS0
          clear hxn hxd hyn hyd hsn hsd hse hok hlv ix KS0
          have t1 : (i : Int) < (n' : Int) + 1 := by omega
          have t2 : (j : Int) < (n' : Int) + 1 := by omega
          go_upto_region 8 with (fail)
          clear d0
          go_cut [11, 12] (fun p s wx => ∃ b : Nat, p = .pointer (some ⟨b, 0, none⟩) ∧ s = .int .i64 se ∧ Hid (Pair wx b sn sd ∧ Below w.heap.size w wx))
          case first =>
            obtain ⟨wc, hwc⟩ : ∃ wc, wc = wr.drew := ⟨_, rfl⟩
            have Bc := Lib.hid (show Below w.heap.size w wc by rw [hwc]; exact HB.out.drew)
            refine wp_region_held_drew (S := (fun w' => (w'.cell? (a.add (i * 2)) = some (.int .i64 xn) ∧ w'.cell? ⟨(a.add (i * 2)).block, (a.add (i * 2)).off + 1, none⟩ = some (.int .i64 xd)) ∧ (w'.cell? (a.add (j * 2)) = some (.int .i64 yn) ∧ w'.cell? ⟨(a.add (j * 2)).block, (a.add (j * 2)).off + 1, none⟩ = some (.int .i64 yd)))) (by kernel_rfl) (by rw [← hwc]; exact KS.out _ Bc.out) (fun h0 => ?_)
            rw [← hwc] at h0 ⊢
            clear hwc
            refine wpAnyH_take (i := 0) (v := ?v1) rfl (by kernel_rfl) (by kernel_rfl) (by kernel_rfl) (fun _ _ _ h => h) (Or.inl ⟨by rfl, ?hy1⟩) h0 ?rest1
            case hy1 => (intro w' hS; (try dsimp only at hS); go_simp; try (with_reducible rfl))
            simp only [Act.put, List.getElem_toArray, List.getElem_cons_zero, List.setIfInBounds_toArray, List.set_cons_zero, List.set_cons_succ]
            refine wpAnyH_take (i := 1) (v := ?v2) rfl (by kernel_rfl) (by kernel_rfl) (by kernel_rfl) (fun _ _ _ h => h) (Or.inl ⟨by rfl, ?hy2⟩) h0 ?rest2
            case hy2 => (intro w' hS; (try dsimp only at hS); go_simp; try (with_reducible rfl))
            simp only [Act.put, List.getElem_toArray, List.getElem_cons_zero, List.getElem_cons_succ, List.setIfInBounds_toArray, List.set_cons_zero, List.set_cons_succ]
            refine wpAnyH_take (i := 2) (v := ?v3) rfl (by kernel_rfl) (by kernel_rfl) (by kernel_rfl) (fun _ _ _ h => h) (Or.inl ⟨by rfl, ?hy3⟩) h0 ?rest3
            case hy3 => (intro w' hS; (try dsimp only at hS); go_simp; try (with_reducible rfl))
            simp only [Act.put, List.getElem_toArray, List.getElem_cons_zero, List.getElem_cons_succ, List.setIfInBounds_toArray, List.set_cons_zero, List.set_cons_succ]
            refine wpAnyH_take (i := 3) (v := ?v4) rfl (by kernel_rfl) (by kernel_rfl) (by kernel_rfl) (fun _ _ _ h => h) (Or.inl ⟨by rfl, ?hy4⟩) h0 ?rest4
            case hy4 => (intro w' hS; (try dsimp only at hS); go_simp; try (with_reducible rfl))
            simp only [Act.put, List.getElem_toArray, List.getElem_cons_zero, List.getElem_cons_succ, List.setIfInBounds_toArray, List.set_cons_zero, List.set_cons_succ]
            refine wpAnyH_take (i := 4) (v := ?v5) rfl (by kernel_rfl) (by kernel_rfl) (by kernel_rfl) (fun _ _ _ h => h) (Or.inl ⟨by rfl, ?hy5⟩) h0 ?rest5
            case hy5 => (intro w' hS; (try dsimp only at hS); go_simp; try (with_reducible rfl))
            simp only [Act.put, List.getElem_toArray, List.getElem_cons_zero, List.getElem_cons_succ, List.setIfInBounds_toArray, List.set_cons_zero, List.set_cons_succ]
            refine wpAnyH_take (i := 5) (v := ?v6) rfl (by kernel_rfl) (by kernel_rfl) (by kernel_rfl) (fun _ _ _ h => h) (Or.inl ⟨by rfl, ?hy6⟩) h0 ?rest6
            case hy6 => (intro w' hS; (try dsimp only at hS); go_simp; try (with_reducible rfl))
            simp only [Act.put, List.getElem_toArray, List.getElem_cons_zero, List.getElem_cons_succ, List.setIfInBounds_toArray, List.set_cons_zero, List.set_cons_succ]
            refine wpAnyH_take (i := 6) (v := ?v7) rfl (by kernel_rfl) (by kernel_rfl) (by kernel_rfl) (fun _ _ _ h => h) (Or.inl ⟨by rfl, ?hy7⟩) h0 ?rest7
            case hy7 => (intro w' hS; (try dsimp only at hS); go_simp; try (with_reducible rfl))
            simp only [Act.put, List.getElem_toArray, List.getElem_cons_zero, List.getElem_cons_succ, List.setIfInBounds_toArray, List.set_cons_zero, List.set_cons_succ]
            refine wpAnyH_take (i := 7) (v := ?v8) rfl (by kernel_rfl) (by kernel_rfl) (by kernel_rfl) (fun _ _ _ h => h) (Or.inl ⟨by rfl, ?hy8⟩) h0 ?rest8
            case hy8 => (intro w' hS; (try dsimp only at hS); go_simp; try (with_reducible rfl))
            simp only [Act.put, List.getElem_toArray, List.getElem_cons_zero, List.getElem_cons_succ, List.setIfInBounds_toArray, List.set_cons_zero, List.set_cons_succ]
            refine wpAnyH_ready (rs := [8, 12]) (by kernel_rfl) (by simp) (AllReadyH.cons rfl (fun K hK => ?_) (AllReadyH.cons rfl (fun K hK => ?_) AllReadyH.nil))
            · rw [if_pos (by rfl)]
              go_simp
              refine (SB.out _).mono ?_
              rintro e wc ⟨rfl, hb3⟩
              have Bc := Lib.hid (below_on Bc.out hb3)
              try have PA := Lib.hid (PA.out.kept hb3)
              clear hb3
              go_simp
              refine hK.out _ _ (KS.out _ Bc.out) (fun h0_1 => ?_)
              clear hK K h0
              try obtain ⟨p0, p1, p2, p3⟩ := PA.out.facts
              refine wpAnyH_take (i := 9) (v := ?v9) rfl (by kernel_rfl) (by kernel_rfl) (by kernel_rfl) (fun _ _ _ h => h) (Or.inl ⟨by rfl, ?hy9⟩) h0_1 ?rest9
              case hy9 => (intro w' hS; (try dsimp only at hS); go_simp; try (with_reducible rfl))
              simp only [Act.put, List.getElem_toArray, List.getElem_cons_zero, List.getElem_cons_succ, List.setIfInBounds_toArray, List.set_cons_zero, List.set_cons_succ]
              refine wpAnyH_take (i := 10) (v := ?v10) rfl (by kernel_rfl) (by kernel_rfl) (by kernel_rfl) (fun _ _ _ h => h) (Or.inl ⟨by rfl, ?hy10⟩) h0_1 ?rest10
              case hy10 => (intro w' hS; (try dsimp only at hS); go_simp; try (with_reducible rfl))
              simp only [Act.put, List.getElem_toArray, List.getElem_cons_zero, List.getElem_cons_succ, List.setIfInBounds_toArray, List.set_cons_zero, List.set_cons_succ]
              refine wpAnyH_take (i := 11) (v := ?v11) rfl (by kernel_rfl) (by kernel_rfl) (by kernel_rfl) (fun _ _ _ h => h) (Or.inl ⟨by rfl, ?hy11⟩) h0_1 ?rest11
              case hy11 => (intro w' hS; (try dsimp only at hS); go_simp; try (with_reducible rfl))
              simp only [Act.put, List.getElem_toArray, List.getElem_cons_zero, List.getElem_cons_succ, List.setIfInBounds_toArray, List.set_cons_zero, List.set_cons_succ]
              refine wpAnyH_ready (rs := [12]) (by kernel_rfl) (by simp) (AllReadyH.cons rfl (fun K hK => ?_) AllReadyH.nil)
              rw [if_pos (by rfl)]
              go_simp
              have hsz := Bc.out.size
              obtain ⟨wa, hwa⟩ : ∃ wa, wa = wc.alloc (.cells #[.int .i64 0, .int .i64 0] 32) := ⟨_, rfl⟩
              rw [← hwa]
              have PA := Lib.hid (show Pair wa wc.heap.size 0 0 by rw [hwa]; exact Pair.made _ _ _ _)
              have Bc := Lib.hid (show Below w.heap.size w wa by rw [hwa]; exact Bc.out.alloc Bc.out.size _)
              clear hwa
              go_simp
              refine hK.out _ _ (KS.out _ Bc.out) (fun h0_2 => ?_)
              clear hK K h0_1
              obtain ⟨p0, p1, p2, p3⟩ := PA.out.facts
              refine wpAnyH_ready (rs := [13]) (by kernel_rfl) (by simp) (AllReadyH.cons rfl (fun K hK => ?_) AllReadyH.nil)
              rw [if_pos (by rfl)]
              go_simp
              refine hK.out _ _ (KS.out _ (below_put Bc.out (by omega) _ _)) (fun h0_3 => ?_)
              clear hK K h0_2
              refine wpAnyH_take (i := 14) (v := ?v12) rfl (by kernel_rfl) (by kernel_rfl) (by kernel_rfl) (fun _ _ _ h => h) (Or.inl ⟨by rfl, ?hy12⟩) h0_3 ?rest12
              case hy12 => (intro w' hS; (try dsimp only at hS); go_simp; try (with_reducible rfl))
              simp only [Act.put, List.getElem_toArray, List.getElem_cons_zero, List.getElem_cons_succ, List.setIfInBounds_toArray, List.set_cons_zero, List.set_cons_succ]
              refine wpAnyH_done (by kernel_rfl) ?_ _
              go_wp2_with fail
              go_meet
              case rel => exact ⟨_, rfl, rfl, Lib.hid ⟨PA.out.put _ _, below_put Bc.out (by omega) _ _⟩⟩
            · rw [if_pos (by rfl)]
              go_simp
              have hsz := Bc.out.size
              obtain ⟨wa, hwa⟩ : ∃ wa, wa = wc.alloc (.cells #[.int .i64 0, .int .i64 0] 32) := ⟨_, rfl⟩
              rw [← hwa]
              have PA := Lib.hid (show Pair wa wc.heap.size 0 0 by rw [hwa]; exact Pair.made _ _ _ _)
              have Bc := Lib.hid (show Below w.heap.size w wa by rw [hwa]; exact Bc.out.alloc Bc.out.size _)
              clear hwa
              go_simp
              refine hK.out _ _ (KS.out _ Bc.out) (fun h0_1 => ?_)
              clear hK K h0
              obtain ⟨p0, p1, p2, p3⟩ := PA.out.facts
              refine wpAnyH_ready (rs := [8]) (by kernel_rfl) (by simp) (AllReadyH.cons rfl (fun K hK => ?_) AllReadyH.nil)
              rw [if_pos (by rfl)]
              go_simp
              refine (SB.out _).mono ?_
              rintro e wc ⟨rfl, hb3⟩
              have Bc := Lib.hid (below_on Bc.out hb3)
              try have PA := Lib.hid (PA.out.kept hb3)
              clear hb3
              go_simp
              refine hK.out _ _ (KS.out _ Bc.out) (fun h0_4 => ?_)
              clear hK K h0_1
              try obtain ⟨p0, p1, p2, p3⟩ := PA.out.facts
              refine wpAnyH_take (i := 9) (v := ?v13) rfl (by kernel_rfl) (by kernel_rfl) (by kernel_rfl) (fun _ _ _ h => h) (Or.inl ⟨by rfl, ?hy13⟩) h0_4 ?rest13
              case hy13 => (intro w' hS; (try dsimp only at hS); go_simp; try (with_reducible rfl))
              simp only [Act.put, List.getElem_toArray, List.getElem_cons_zero, List.getElem_cons_succ, List.setIfInBounds_toArray, List.set_cons_zero, List.set_cons_succ]
              refine wpAnyH_take (i := 10) (v := ?v14) rfl (by kernel_rfl) (by kernel_rfl) (by kernel_rfl) (fun _ _ _ h => h) (Or.inl ⟨by rfl, ?hy14⟩) h0_4 ?rest14
              case hy14 => (intro w' hS; (try dsimp only at hS); go_simp; try (with_reducible rfl))
              simp only [Act.put, List.getElem_toArray, List.getElem_cons_zero, List.getElem_cons_succ, List.setIfInBounds_toArray, List.set_cons_zero, List.set_cons_succ]
              refine wpAnyH_take (i := 11) (v := ?v15) rfl (by kernel_rfl) (by kernel_rfl) (by kernel_rfl) (fun _ _ _ h => h) (Or.inl ⟨by rfl, ?hy15⟩) h0_4 ?rest15
              case hy15 => (intro w' hS; (try dsimp only at hS); go_simp; try (with_reducible rfl))
              simp only [Act.put, List.getElem_toArray, List.getElem_cons_zero, List.getElem_cons_succ, List.setIfInBounds_toArray, List.set_cons_zero, List.set_cons_succ]
              refine wpAnyH_ready (rs := [13]) (by kernel_rfl) (by simp) (AllReadyH.cons rfl (fun K hK => ?_) AllReadyH.nil)
              rw [if_pos (by rfl)]
              go_simp
              refine hK.out _ _ (KS.out _ (below_put Bc.out (by omega) _ _)) (fun h0_5 => ?_)
              clear hK K h0_4
              refine wpAnyH_take (i := 14) (v := ?v16) rfl (by kernel_rfl) (by kernel_rfl) (by kernel_rfl) (fun _ _ _ h => h) (Or.inl ⟨by rfl, ?hy16⟩) h0_5 ?rest16
              case hy16 => (intro w' hS; (try dsimp only at hS); go_simp; try (with_reducible rfl))
              simp only [Act.put, List.getElem_toArray, List.getElem_cons_zero, List.getElem_cons_succ, List.setIfInBounds_toArray, List.set_cons_zero, List.set_cons_succ]
              refine wpAnyH_done (by kernel_rfl) ?_ _
              go_wp2_with fail
              go_meet
              case rel => exact ⟨_, rfl, rfl, Lib.hid ⟨PA.out.put _ _, below_put Bc.out (by omega) _ _⟩⟩
          case rest =>
            obtain ⟨b, rfl, rfl, HC⟩ := hcut
            clear KS SB HB
            by_cases hs0 : se = 0
            case neg =>
              have DE : (se != 0) = true := by simpa using hs0
              have HE := Lib.hid (show mtR n' f l ps = (false, se) from by
                have h7 : se = 7 := by omega
                rw [h7]
                exact mtR_no hif (by omega) hjf (by omega) (by rw [← HSE.out]; exact hs0))
              clear hs0 hor
              go_wp2_with fail
              go_ret2
              exact ⟨by rw [HE.out]; rfl, HC.out.2⟩
            case pos =>
              have MT := Lib.hid (fun W => MT0.out W hs0)
              have HS3 := HS2
              have HS4 := Lib.hid (show ∀ y, f ≤ y → y < j + 1 → sbE ps i y = 0 from fun y h1 h2 => by
                by_cases e : y = j
                · rw [e, ← HSE.out]; exact hs0
                · exact HS5.out y h1 (by omega))
              have HN := Lib.hid (show mc = true → (ok = true ↔ (∀ x, f ≤ x → x < i → ∀ y, f ≤ y → y < n' + 1 → hsM n' l ps x y = true) ∧ ∀ y, f ≤ y → y < j + 1 → hsM n' l ps i y = true) from fun h => by
                obtain ⟨h1, h2⟩ := HS1.out.1 h
                constructor
                · intro ho
                  refine ⟨h1, fun y q1 q2 => ?_⟩
                  by_cases e : y = j
                  · rw [e, ← HOK.out]; exact ho
                  · exact h2 y q1 (by omega)
                · intro q
                  rw [HOK.out]; exact q.2 j hjf (by omega))
              have HM2 := Lib.hid (show mc = false → (false = true ↔ (∀ x, f ≤ x → x < i → ∀ y, f ≤ y → y < n' + 1 → hsM n' l ps x y = true) ∧ ∀ y, f ≤ y → y < j + 1 → hsM n' l ps i y = true) from fun h => by
                constructor
                · intro q; cases q
                · intro q
                  have := HS1.out.2 ⟨q.1, fun y q1 q2 => q.2 y q1 (by omega)⟩
                  rw [h] at this; exact this)
              subst hs0
              clear hor MT0
              have M := Lib.hid (HKP.out _ HC.out.2)
              go_upto_region 11 with (fail)
              obtain ⟨wd, hwd⟩ : ∃ wd, wd = wc.drew := ⟨_, rfl⟩
              have BD := Lib.hid (show Below w.heap.size w wd by rw [hwd]; exact HC.out.2.drew)
              have RW := Lib.hid (row_any b0 n' i wd hn hi (HKP.out _ BD.out).dim)
              have KR := Lib.hid (show ∀ W, Below wd.heap.size wd W → ((W.cell? ⟨b, 0, none⟩ = some (.int .i64 sn) ∧ W.cell? ⟨b, 1, none⟩ = some (.int .i64 sd)) ∧ W.cell? ⟨b0, 1 + i * (n' + 1) + j, none⟩ = some (.int .i64 lv)) from fun W h => by
                have pf := ((show Pair wd b sn sd by rw [hwd]; exact HC.out.1.kept (Below.refl _ _).drew).kept h).facts
                exact ⟨⟨pf.1, pf.2.1⟩, e1.out _ (HKP.out _ (below_on BD.out h))⟩)
              clear HC
              refine wp_region_held_drew (S := (fun w' => (w'.cell? ⟨b, 0, none⟩ = some (.int .i64 sn) ∧ w'.cell? ⟨b, 1, none⟩ = some (.int .i64 sd)) ∧ w'.cell? ⟨b0, 1 + i * (n' + 1) + j, none⟩ = some (.int .i64 lv))) (by kernel_rfl) (by rw [← hwd]; exact KR.out _ (Below.refl _ _)) (fun h0 => ?_)
              rw [← hwd] at h0 ⊢
              clear hwd
              refine wpAnyH_take (i := 0) (v := ?v17) rfl (by kernel_rfl) (by kernel_rfl) (by kernel_rfl) (fun _ _ _ h => h) (Or.inl ⟨by rfl, ?hy17⟩) h0 ?rest17
              case hy17 => (intro w' hS; (try dsimp only at hS); go_simp; try (with_reducible rfl))
              simp only [Act.put, List.getElem_toArray, List.getElem_cons_zero, List.setIfInBounds_toArray, List.set_cons_zero, List.set_cons_succ]
              refine wpAnyH_take (i := 1) (v := ?v18) rfl (by kernel_rfl) (by kernel_rfl) (by kernel_rfl) (fun _ _ _ h => h) (Or.inl ⟨by rfl, ?hy18⟩) h0 ?rest18
              case hy18 => (intro w' hS; (try dsimp only at hS); go_simp; try (with_reducible rfl))
              simp only [Act.put, List.getElem_toArray, List.getElem_cons_zero, List.getElem_cons_succ, List.setIfInBounds_toArray, List.set_cons_zero, List.set_cons_succ]
              refine wpAnyH_take (i := 2) (v := ?v19) rfl (by kernel_rfl) (by kernel_rfl) (by kernel_rfl) (fun _ _ _ h => h) (Or.inl ⟨by rfl, ?hy19⟩) h0 ?rest19
              case hy19 => (intro w' hS; (try dsimp only at hS); go_simp; try (with_reducible rfl))
              simp only [Act.put, List.getElem_toArray, List.getElem_cons_zero, List.getElem_cons_succ, List.setIfInBounds_toArray, List.set_cons_zero, List.set_cons_succ]
              refine wpAnyH_take (i := 4) (v := ?v20) rfl (by kernel_rfl) (by kernel_rfl) (by kernel_rfl) (fun _ _ _ h => h) (Or.inl ⟨by rfl, ?hy20⟩) h0 ?rest20
              case hy20 => (intro w' hS; (try dsimp only at hS); go_simp; try (with_reducible rfl))
              simp only [Act.put, List.getElem_toArray, List.getElem_cons_zero, List.getElem_cons_succ, List.setIfInBounds_toArray, List.set_cons_zero, List.set_cons_succ]
              refine wpAnyH_ready (rs := [3]) (by kernel_rfl) (by simp) (AllReadyH.cons rfl (fun K hK => ?_) AllReadyH.nil)
              rw [if_pos (by rfl)]
              go_simp
              refine (RW.out).mono ?_
              rintro e wq ⟨rfl, hwq⟩
              rw [hwq]; clear hwq wq
              go_simp
              refine hK.out _ _ (KR.out _ (Below.refl _ _)) (fun h0_1 => ?_)
              clear hK K h0
              refine wpAnyH_take (i := 5) (v := ?v21) rfl (by kernel_rfl) (by kernel_rfl) (by kernel_rfl) (fun _ _ _ h => h) (Or.inl ⟨by rfl, ?hy21⟩) h0_1 ?rest21
              case hy21 => (intro w' hS; (try dsimp only at hS); go_simp; try (with_reducible rfl))
              simp only [Act.put, List.getElem_toArray, List.getElem_cons_zero, List.getElem_cons_succ, List.setIfInBounds_toArray, List.set_cons_zero, List.set_cons_succ]
              refine wpAnyH_take (i := 6) (v := ?v22) rfl (by kernel_rfl) (by kernel_rfl) (by kernel_rfl) (fun _ _ _ h => h) (Or.inl ⟨by rfl, ?hy22⟩) h0_1 ?rest22
              case hy22 => (intro w' hS; (try dsimp only at hS); go_simp; try (with_reducible rfl))
              simp only [Act.put, List.getElem_toArray, List.getElem_cons_zero, List.getElem_cons_succ, List.setIfInBounds_toArray, List.set_cons_zero, List.set_cons_succ]
              refine wpAnyH_ready (rs := [7]) (by kernel_rfl) (by simp) (AllReadyH.cons rfl (fun K hK => ?_) AllReadyH.nil)
              rw [if_pos (by rfl)]
              go_simp
              refine (MT.out _).mono ?_
              rintro e w8 ⟨rfl, hb8⟩
              have B8 := Lib.hid (below_on BD.out hb8)
              go_simp
              refine hK.out _ _ (KR.out _ hb8) (fun h0_2 => ?_)
              clear hK K h0_1
              clear hb8
              refine wpAnyH_take (i := 8) (v := ?v23) rfl (by kernel_rfl) (by kernel_rfl) (by kernel_rfl) (fun _ _ _ h => h) (Or.inl ⟨by rfl, ?hy23⟩) h0_2 ?rest23
              case hy23 => (intro w' hS; (try dsimp only at hS); go_simp; try (with_reducible rfl))
              simp only [Act.put, List.getElem_toArray, List.getElem_cons_zero, List.getElem_cons_succ, List.setIfInBounds_toArray, List.set_cons_zero, List.set_cons_succ]
              refine wpAnyH_take (i := 9) (v := ?v24) rfl (by kernel_rfl) (by kernel_rfl) (by kernel_rfl) (fun _ _ _ h => h) (Or.inl ⟨by rfl, ?hy24⟩) h0_2 ?rest24
              case hy24 => (intro w' hS; (try dsimp only at hS); go_simp; try (with_reducible rfl))
              simp only [Act.put, List.getElem_toArray, List.getElem_cons_zero, List.getElem_cons_succ, List.setIfInBounds_toArray, List.set_cons_zero, List.set_cons_succ]
              refine wpAnyH_take (i := 10) (v := ?v25) rfl (by kernel_rfl) (by kernel_rfl) (by kernel_rfl) (fun _ _ _ h => h) (Or.inl ⟨by rfl, ?hy25⟩) h0_2 ?rest25
              case hy25 => (intro w' hS; (try dsimp only at hS); go_simp; try (with_reducible rfl))
              simp only [Act.put, List.getElem_toArray, List.getElem_cons_zero, List.getElem_cons_succ, List.setIfInBounds_toArray, List.set_cons_zero, List.set_cons_succ]
              refine wpAnyH_take (i := 11) (v := ?v26) rfl (by kernel_rfl) (by kernel_rfl) (by kernel_rfl) (fun _ _ _ h => h) (Or.inl ⟨by rfl, ?hy26⟩) h0_2 ?rest26
              case hy26 => (intro w' hS; (try dsimp only at hS); go_simp; try (with_reducible rfl))
              simp only [Act.put, List.getElem_toArray, List.getElem_cons_zero, List.getElem_cons_succ, List.setIfInBounds_toArray, List.set_cons_zero, List.set_cons_succ]
              refine wpAnyH_take (i := 12) (v := ?v27) rfl (by kernel_rfl) (by kernel_rfl) (by kernel_rfl) (fun _ _ _ h => h) (Or.inl ⟨by rfl, ?hy27⟩) h0_2 ?rest27
              case hy27 => (intro w' hS; (try dsimp only at hS); go_simp; try (with_reducible rfl))
              simp only [Act.put, List.getElem_toArray, List.getElem_cons_zero, List.getElem_cons_succ, List.setIfInBounds_toArray, List.set_cons_zero, List.set_cons_succ]
              refine wpAnyH_done (by kernel_rfl) ?_ _
              by_cases hmc : mc = true
              case pos =>
                have HX2 := Lib.hid (HN.out hmc)
                go_wp2_with fail
                go_roundw
                case rel => exact ⟨j + 1, ok, by omega, by omega, rfl, by go_num, HX2, HS3, HS4, B8⟩
                case measure => simp [intOf]; omega
              case neg =>
                have hmd : mc = false := by simpa using hmc
                have HX2 := Lib.hid (HM2.out hmd)
                clear hmc
                go_wp2_with fail
                go_roundw
                case rel => exact ⟨j + 1, false, by omega, by omega, rfl, by go_num, HX2, HS3, HS4, B8⟩
                case measure => simp [intOf]; omega
end Go.Proofs.YtbnebinpemejlaaGreat

namespace Go.Proofs.YtbnebinpemejlaaGreat
open Go.RowKit

theorem rd_yes {N : Int} {l : List Int} {ps : List Pq} (h : rdE N l ps ≠ 2) : chkE N l = 0 ∧ (ps.length : Int) = N ∧ ps.all vldC = true := by
  unfold rdE at h
  split at h
  · rename_i c; exact c
  · exact absurd rfl h

theorem mt_has {n : Nat} {l : List Int} {ps : List Pq} (h : rdE n l ps ≠ 2) : mtR n 0 l ps = (hsR n l ps, rdE n l ps) := by
  have c := rd_yes h
  have e1 : mtA n 0 ps = rdR n ps := by
    rw [Bool.eq_iff_iff]
    constructor
    · intro h; exact rdR_of fun i hi j hj => mtA_iff.1 h i (Nat.zero_le _) hi j (Nat.zero_le _) hj
    · intro h; exact mtA_iff.2 fun i _ hi j _ hj => rdR_at h hi hj
  have e2 : mtH n 0 l ps = hsB n l ps := by
    rw [Bool.eq_iff_iff]
    constructor
    · intro h; exact hsB_iff.2 fun i hi j hj => mtH_iff.1 h i (Nat.zero_le _) hi j (Nat.zero_le _) hj
    · intro h; exact mtH_iff.2 fun i _ hi j _ hj => hsB_iff.1 h i hi j hj
  have er : rdE n l ps = if rdR n ps then 0 else 7 := by
    unfold rdE; rw [if_pos c, Int.toNat_natCast]
  unfold mtR hsR
  rw [e1, e2, er, Int.toNat_natCast]
  cases rdR n ps <;> rfl

set_option maxRecDepth 100000 in
set_option maxHeartbeats 4000000 in
theorem zhas_gen (N : Int) (l : List Int) (ao : Option Addr) (cap : Nat) (ps : List Pq) (po : Option Addr) (pc : Nat) (w : World) (hA : Arg w ao l) (hP : Arg2 w po ps) (hI : Fits ps) (hN : po = none → pc = 0) :
    Calls Tryz.prog 6 #[.agg #[.int .i64 N, .slice ao l.length cap], .slice po ps.length pc] w (Made (.tuple #[.bool (hsR N l ps), .int .i64 (rdE N l ps)]) w) := by
  have hz := mx_zero
  have sz0 := mcs_size (n := 0) (l := []) (by simp)
  have OA := Lib.hid (fun W (h : Below w.heap.size w W) => openat_gen N l ao cap ps po pc W (hA.on h) (hP.on h) hI hN)
  have HPL := Lib.hid (show rdE N l ps ≠ 2 → ((0, 1) :: ps).length = N.toNat + 1 from fun h => by
    have := (rd_yes h).2.1
    simp; omega)
  have HNN := Lib.hid (show rdE N l ps ≠ 2 → (N.toNat : Int) = N ∧ chkE N l = 0 ∧ ps.all vldC = true ∧ (mcs N.toNat l).size = 122 ∧ l.length = (N.toNat + 1) * (N.toNat + 1) from fun h => by
    have c := rd_yes h
    obtain ⟨n', e, hn, hl, _⟩ := chk_ok c.1
    have e2 : N.toNat = n' := by omega
    refine ⟨by omega, c.1, c.2.2, ?_, by rw [e2]; exact hl⟩
    rw [e2]; exact mcs_size (by rw [hl]; exact dsq_le hn))
  generalize ps.length = plen at OA ⊢
  generalize l.length = len at OA ⊢
  obtain ⟨w0, hw0, e0, ks⟩ := qbox N ao len cap w
  have E0 := Lib.hid e0
  have HW0 := Lib.hid hw0
  obtain ⟨b0, b1⟩ := ks w0 (Below.refl _ _)
  clear ks e0 hw0 hA hP hI hN
  unfold OARes at OA
  go_enter Tryz.func6, Tryz.ntmps6
  go_upto_region 1 with (fail)
  rw [← HW0.out]
  go_wp2_with fail
  refine (OA.out _ E0.out).mono ?_
  rintro e w1 ⟨hb1, hE⟩
  clear b0 b1
  have B1 := Lib.hid (below_on E0.out hb1)
  rcases hE with ⟨h2, rfl⟩ | ⟨h2, v, rfl, hv⟩
  · have HE := Lib.hid (show hsR N l ps = false by unfold hsR; rw [h2]; rfl)
    have H2 := Lib.hid h2
    clear h2 HNN HPL
    go_wp2_with (refine wpl_store rfl _ _ rfl _ _ rfl rfl _ (Var.made _) sz0 (mcs_one _ _) ?_)
    go_ret2
    rw [HE.out, H2.out]
    exact ⟨rfl, Below.setRow (B1.out.alloc B1.out.size _) B1.out.size _⟩
  · obtain ⟨hNn, hc, hvl, sz, hll⟩ := HNN.out h2
    have hpl := HPL.out h2
    have hov := hv
    unfold OwnQ at hv
    rw [hpl] at hv
    obtain ⟨g, c, rfl⟩ := Joins.ownsRow_form hv (by omega)
    have HR := Lib.hid (mt_has (n := N.toNat) (l := l) (ps := ps) (by rw [hNn]; exact h2))
    obtain ⟨w2, hw2⟩ : ∃ w2, w2 = (w1.alloc (.cells (mcs 0 []) 54)).setRow w1.heap.size (mcs N.toNat l) := ⟨_, rfl⟩
    have M2 : Mx w2 w1.heap.size N.toNat l := by rw [hw2]; exact ⟨((Var.made w1).put (mcs N.toNat l) sz).1, hll⟩
    have B2 := Lib.hid (show Below w.heap.size w w2 by rw [hw2]; exact Below.setRow (B1.out.alloc B1.out.size _) B1.out.size _)
    have O2 : OwnQ w2 w0.heap.size (.slice (some ⟨g, 0, none⟩) ((0, 1) :: ps).length c) ((0, 1) :: ps) := by
      rw [hw2, hpl]
      have h1 := OwnQ.on hov (one_more (.cells (mcs 0 []) 54))
      have hlt := (World.ownsRow.lt hov g rfl).2
      refine World.ownsRow.kept (row := some w1.heap.size) h1 (grown_row _ _ _) ?_
      right
      simp only [Value.ownBlock]
      intro e; injection e with e; omega
    have MT := Lib.hid (meets_any N.toNat 0 l ps w1.heap.size ⟨g, 0, none⟩ c w2 (by rw [hNn]; exact hc) (by omega) (by simp at hpl; exact hpl) M2 O2.rd hvl)
    have HNE := Lib.hid hNn
    have s1 := mcs_one N.toNat l
    rw [HR.out, hNn] at MT
    clear M2 O2 hov hv hpl hvl hc hNn h2 hll HNN HPL hb1
    go_upto_region 2 with (refine wpl_store rfl _ _ rfl _ _ rfl rfl _ (Var.made _) sz s1 ?_)
    rw [← hw2]
    clear hw2
    go_wp2_with fail
    refine MT.out.mono ?_
    rintro e w3 ⟨rfl, hb3⟩
    have B3 := Lib.hid (below_on B2.out hb3)
    clear hb3
    go_wp2_with fail
    go_ret2
    exact ⟨rfl, B3.out⟩
end Go.Proofs.YtbnebinpemejlaaGreat

namespace Go.Proofs.YtbnebinpemejlaaGreat
open Go.RowKit

/-- The delays by the clocks up to t, and whether a number was out of range. -/
def ryX (n : Nat) (l : List Int) (ps : List Pq) : Nat → Dl × Bool
  | 0 => (Dl.one, false)
  | t + 1 => (abX (bwX (ryX n l ps t).1 (-(gp ps t).1) (gp ps t).2 (Zo.At n l (t + 1) 0)) (-(gp ps t).1) (gp ps t).2 (Zo.At n l 0 (t + 1)), abB (bwB (ryX n l ps t).2 (-(gp ps t).1) (gp ps t).2 (Zo.At n l (t + 1) 0)) (-(gp ps t).1) (gp ps t).2 (Zo.At n l 0 (t + 1)))

def rsV (n : Nat) (l : List Int) (ps : List Pq) : Dl × Int := if (ryX n l ps n).2 then (Dl.zero, 7) else if mtH n 1 l ps then (tdX (ryX n l ps n).1, tdE (ryX n l ps n).1) else (Dl.zero, 4)

def rsR (N : Int) (l : List Int) (ps : List Pq) : Dl × Int := if rdE N l ps = 0 then rsV N.toNat l ps else (Dl.zero, rdE N l ps)

theorem moL_ok {x : Dl} (h : x.Ok) {n d : Int} (hn : I64 n) (hd : I64 d) (o : Bool) : (moL x n d o).Ok := by
  obtain ⟨h1, h2, h3, h4⟩ := h
  unfold moL
  split
  · exact ⟨h1, h2, hn, hd⟩
  · split
    · exact ⟨h1, h2, h3, h4⟩
    · exact ⟨h1, h2, h3, h4⟩

theorem leL_ok {x : Dl} (h : x.Ok) {n d : Int} (hn : I64 n) (hd : I64 d) (o : Bool) : (leL x n d o).Ok := by
  obtain ⟨h1, h2, h3, h4⟩ := h
  unfold leL
  split
  · exact ⟨hn, hd, h3, h4⟩
  · split
    · exact ⟨h1, h2, h3, h4⟩
    · exact ⟨h1, h2, h3, h4⟩

theorem bwX_ok {x : Dl} (h : x.Ok) (n d u : Int) : (bwX x n d u).Ok := by
  unfold bwX
  split
  · split
    · exact moL_ok h (opNum_64 _ _ _) (opDen_64 _ _ _) _
    · exact h
  · exact h

theorem abX_ok {x : Dl} (h : x.Ok) (n d u : Int) : (abX x n d u).Ok := by
  unfold abX
  split
  · split
    · exact leL_ok h (opNum_64 _ _ _) (opDen_64 _ _ _) _
    · exact h
  · exact h

theorem one_ok : Dl.one.Ok := ⟨by unfold Dl.one I64; simp, by unfold Dl.one I64; simp, by unfold Dl.one I64; simp, by unfold Dl.one I64; simp⟩

theorem ry_ok (n : Nat) (l : List Int) (ps : List Pq) (t : Nat) : (ryX n l ps t).1.Ok := by
  induction t with
  | zero => exact one_ok
  | succ t ih => exact abX_ok (bwX_ok ih _ _ _) _ _ _

set_option maxRecDepth 100000 in
set_option maxHeartbeats 2000000 in
theorem rstay_bad (N : Int) (l : List Int) (ao : Option Addr) (cap : Nat) (ps : List Pq) (po : Option Addr) (pc : Nat) (w : World) (hA : Arg w ao l) (hP : Arg2 w po ps) (hI : Fits ps) (hr : rdE N l ps ≠ 0) :
    Calls Tryz.prog 9 #[.agg #[.int .i64 N, .slice ao l.length cap], .slice po ps.length pc] w (Made (.tuple #[.agg Dl.zero.cs, .int .i64 (rdE N l ps)]) w) := by
  have RD := Lib.hid fun W (h : Below w.heap.size w W) => ready_gen N l ao cap ps po pc W (hA.on h) (hP.on h) hI
  have E1 : (rdE N l ps == 0) = false := by simp [hr]
  have E2 : (rdE N l ps != 0) = true := by simp [hr]
  clear hA hP hI hr
  generalize l.length = len at *
  generalize ps.length = plen at *
  generalize rdE N l ps = er at *
  obtain ⟨w0, hw0⟩ : ∃ w0, w0 = ((w.alloc (.cells #[.int .i64 N, .slice ao len cap] 24)).alloc (.cells #[.int .i64 0, .int .i64 0, .int .i64 0, .int .i64 0, .bool false, .bool false, .bool false] 34)) := ⟨_, rfl⟩
  have PZ := Lib.hid (show Two w0 w.heap.size (.int .i64 N) (.slice ao len cap) by rw [hw0]; exact (Two.made _ _ _ _).alloc _)
  have RB := Lib.hid (show Dbx w0 (w.heap.size + 1) Dl.zero by
    rw [hw0]
    have := Drow.made (w.alloc (.cells #[.int .i64 N, .slice ao len cap] 24)) Dl.zero.cs
    simpa [Dbx, Dl.cs, Dl.zero] using this)
  have B0 := Lib.hid (show Below w.heap.size w w0 by rw [hw0]; exact past_two (Below.refl _ _))
  go_enter Tryz.func9, Tryz.ntmps9
  go_upto_region 1 with (fail)
  rw [← hw0]
  clear hw0
  obtain ⟨z0, z1, _, _⟩ := PZ.out.facts
  go_wp2_with fail
  refine (RD.out _ B0.out).mono ?_
  rintro e w1 ⟨rfl, hb⟩
  have RW := Lib.hid (RB.out.kept hb)
  have Q0 := Lib.hid (below_on B0.out hb)
  clear hb z0 z1
  obtain ⟨r0, r1, r2, r3, r4, r5, r6⟩ := RW.out.facts
  obtain ⟨y0, y1, y2, y3, y4, y5, y6⟩ := RW.out.frees
  go_wp2_with fail
  refine bodyPost_ret (v := .tuple #[.agg Dl.zero.cs, .int .i64 er]) (by simp [results, Tryz.results9, go_sem, Dl.cs, Dl.zero, r0, r1, r2, r3, r4, r5, r6]) rfl ⟨rfl, ?_⟩
  exact below_seven Q0.out (by omega) _ _ _ _ _ _ _

theorem Drow_grown {w w' : World} {b g : Nat} {x : Dl} (h : Dbx w b x) (hg : w.grownBy w' (some g)) (hne : b ≠ g) : Dbx w' b x := Dbx.grown h hg hne

set_option maxRecDepth 100000 in
set_option maxHeartbeats 4000000 in
theorem rstay_any (n : Nat) (l : List Int) (a : Addr) (cap : Nat) (ps : List Pq) (po : Option Addr) (pc : Nat) (w : World) (hn : n ≤ 10) (hl : l.length = (n + 1) * (n + 1)) (hR : Rd w a l) (hP : Arg2 w po ps) (hI : Fits ps) (hr : rdE n l ps = 0) :
    Calls Tryz.prog 9 #[.agg #[.int .i64 n, .slice (some a) l.length cap], .slice po ps.length pc] w (Made (.tuple #[.agg (rsV n l ps).1.cs, .int .i64 (rsV n l ps).2]) w) := by
  obtain ⟨hc, hp, hv, hR0⟩ := rd_ok hr
  replace hp : ps.length = n := by omega
  have hL : ∀ i j, i ≤ n → j ≤ n → I64 (Zo.At n l i j) := fun i j hi hj => chk_i64 hc hi hj
  obtain ⟨len, hlen⟩ : ∃ len, len = l.length := ⟨_, rfl⟩
  obtain ⟨w0, hw0⟩ : ∃ w0, w0 = ((w.alloc (.cells #[.int .i64 n, .slice (some a) len cap] 24)).alloc (.cells #[.int .i64 0, .int .i64 0, .int .i64 0, .int .i64 0, .bool false, .bool false, .bool false] 34)) := ⟨_, rfl⟩
  have PZ := Lib.hid (show Two w0 w.heap.size (.int .i64 n) (.slice (some a) len cap) by rw [hw0]; exact (Two.made _ _ _ _).alloc _)
  have RB := Lib.hid (show Dbx w0 (w.heap.size + 1) Dl.zero by
    rw [hw0]
    have := Drow.made (w.alloc (.cells #[.int .i64 n, .slice (some a) len cap] 24)) Dl.zero.cs
    simpa [Dbx, Dl.cs, Dl.zero] using this)
  have B0 := Lib.hid (show Below w.heap.size w w0 by rw [hw0]; exact past_two (Below.refl _ _))
  have Z0 := Lib.hid (show w0.heap.size = w.heap.size + 2 by rw [hw0]; simp)
  have RD : Hid (∀ W, Below w.heap.size w W → Calls Tryz.prog 22 #[.agg #[.int .i64 n, .slice (some a) len cap], .slice po n pc] W (Made (.int .i64 0) W)) := Lib.hid fun W h => by have := ready_gen n l (some a) cap ps po pc W (fun _ => ⟨a, rfl, hR.on h⟩) (hP.on h) hI; rw [hr, hp, ← hlen] at this; exact this
  have CL : Hid (∀ (i : Nat) (W : World), i ≤ n → Below w.heap.size w W → Calls Tryz.prog 24 #[.slice po n pc, .int .i64 i] W (Made (.agg #[.int .i64 (clk ps i).1, .int .i64 (clk ps i).2]) W)) := Lib.hid fun i W hi h => by have := clock_any ps po pc i W (hP.on h) (by omega) (by omega); rwa [hp] at this
  have AT : Hid (∀ (i j : Nat) (W : World), i ≤ n → j ≤ n → Below w.heap.size w W → Calls Tryz.prog 26 #[.agg #[.int .i64 n, .slice (some a) len cap], .int .i64 i, .int .i64 j] W (Made (.int .i64 (Zo.At n l i j)) W)) := Lib.hid fun i j W hi hj h => by have := at_any n i j l a cap W hn hi hj hl (hR.on h); rwa [← hlen] at this
  have SB := Lib.hid fun (i j : Nat) (W : World) (hi : i ≤ n) (hj : j ≤ n) => by have := sub_clk (ps := ps) W hv (i := i) (j := j) (by rw [hp]; exact hi) (by rw [hp]; exact hj); rw [rdR_at hR0 (i := i) (j := j) (by simp; omega) (by simp; omega)] at this; exact this
  have MT := Lib.hid fun (i j : Nat) (W : World) (hi : i ≤ n) (hj : j ≤ n) => refLimMeets_any (sbN ps i j) (sbD ps i j) (Zo.At n l i j) W (by have := mkNum_bd ((clk ps i).1 * (clk ps j).2 - (clk ps j).1 * (clk ps i).2) ((clk ps i).2 * (clk ps j).2); unfold sbN I64; omega) (by have := mkDen_bd ((clk ps i).1 * (clk ps j).2 - (clk ps j).1 * (clk ps i).2) ((clk ps i).2 * (clk ps j).2); unfold sbD I64; omega) (hL i j hi hj)
  have NG : Hid (∀ t W, t < n → Calls Tryz.prog 33 #[.agg #[.int .i64 (clk ps (t + 1)).1, .int .i64 (clk ps (t + 1)).2]] W (Made (.tuple #[.agg #[.int .i64 (-(gp ps t).1), .int .i64 (gp ps t).2], .int .i64 0]) W)) := Lib.hid fun t W ht => by
    have e : clk ps (t + 1) = gp ps t := by unfold clk; rw [if_neg (by omega)]; simp
    have v := hv t (by omega)
    unfold vldC at v
    simp at v
    have i := hI t (by omega)
    have := refNeg_any (gp ps t).1 (gp ps t).2 W i.1 i.2
    rw [v.1] at this
    rw [e]
    simpa using this
  have BWc := Lib.hid (fun (t : Nat) (ht : t < n) (x : Dl) (bd : Bool) (c : Nat) (W : World) (hx : x.Ok) (hc : Bx W c (chC x bd)) => by
    have v := hv t (by omega)
    unfold vldC at v
    simp at v
    have p := vld_bd v.1
    exact below_any x (-(gp ps t).1) (gp ps t).2 (Zo.At n l (t + 1) 0) bd c W (by unfold I64; omega) (by unfold I64; omega) (hL _ _ (by omega) (by omega)) hx hc)
  have ABc := Lib.hid (fun (t : Nat) (ht : t < n) (x : Dl) (bd : Bool) (c : Nat) (W : World) (hx : x.Ok) (hc : Bx W c (chC x bd)) => by
    have v := hv t (by omega)
    unfold vldC at v
    simp at v
    have p := vld_bd v.1
    exact above_any x (-(gp ps t).1) (gp ps t).2 (Zo.At n l 0 (t + 1)) bd c W (by unfold I64; omega) (by unfold I64; omega) (hL _ _ (by omega) (by omega)) hx hc)
  have HOK := Lib.hid (ry_ok n l ps)
  have HSU := Lib.hid (show ∀ t, ryX n l ps (t + 1) = (abX (bwX (ryX n l ps t).1 (-(gp ps t).1) (gp ps t).2 (Zo.At n l (t + 1) 0)) (-(gp ps t).1) (gp ps t).2 (Zo.At n l 0 (t + 1)), abB (bwB (ryX n l ps t).2 (-(gp ps t).1) (gp ps t).2 (Zo.At n l (t + 1) 0)) (-(gp ps t).1) (gp ps t).2 (Zo.At n l 0 (t + 1))) from fun t => rfl)
  have HRS := Lib.hid (show rsV n l ps = if (ryX n l ps n).2 then (Dl.zero, 7) else if mtH n 1 l ps then (tdX (ryX n l ps n).1, tdE (ryX n l ps n).1) else (Dl.zero, 4) from rfl)
  have HZ0 := Lib.hid (show ryX n l ps 0 = (Dl.one, false) from rfl)
  rw [hp, ← hlen]
  generalize rsV n l ps = rr at *
  clear hR hc hp hP hI hl hlen hv hR0 hr hL
  go_enter Tryz.func9, Tryz.ntmps9
  go_upto_region 1 with (fail)
  rw [← hw0]
  clear hw0
  obtain ⟨z0, z1, _, _⟩ := PZ.out.facts
  go_wp2_with fail
  refine (RD.out _ B0.out).mono ?_
  rintro e w1 ⟨rfl, hb1⟩
  have PZ := Lib.hid (PZ.out.kept hb1)
  have RB := Lib.hid (RB.out.kept hb1)
  have B1 := Lib.hid (below_on B0.out hb1)
  have Z1 := Lib.hid (show w.heap.size + 2 ≤ w1.heap.size by have := hb1.size; have := Z0.out; omega)
  clear hb1 z0 z1 RD
  go_wp2_with fail
  refine (start_any _).mono ?_
  rintro e w2 ⟨c, rfl, hcge, hCX, hb2⟩
  have CX := Lib.hid hCX
  have PZ := Lib.hid (PZ.out.kept hb2)
  have RB := Lib.hid (RB.out.kept hb2)
  have B2 := Lib.hid (below_on B1.out hb2)
  have HC := Lib.hid (show w.heap.size + 2 ≤ c by have := Z1.out; omega)
  clear hb2 hCX hcge
  go_wp2_with fail
  go_loopw [8] (fun s wr => ∃ t : Nat, t ≤ n ∧ s = .int .i64 ((t : Int) + 1) ∧ Hid (w2.grownBy wr (some c) ∧ Bx wr c (chC (ryX n l ps t).1 (ryX n l ps t).2))) (fun s _ => n + 1 - (intOf s).toNat)
  case atStart => exact ⟨0, by omega, rfl, Lib.hid ⟨World.grownBy.refl _ _, by rw [HZ0.out]; exact CX.out⟩⟩
  case round =>
    obtain ⟨t, ht, rfl, HX⟩ := hrel
    have hcc := HC.out
    have PW := Lib.hid (PZ.out.grown HX.out.1 (by omega))
    have QW := Lib.hid (grown_over B2.out HX.out.1 (by omega))
    obtain ⟨z0, z1, _, _⟩ := PW.out.facts
    by_cases htn : t < n
    case pos =>
      have TB : decide ((t : Int) + 1 ≤ (n : Int)) = true := by simp; omega
      have tb : (t : Int) < 10 := by omega
      have t0 : 0 ≤ (t : Int) + 1 := by omega
      have CLT := Lib.hid (show ∀ W, Below w.heap.size w W → Calls Tryz.prog 24 #[.slice po n pc, .int .i64 ((t : Int) + 1)] W (Made (.agg #[.int .i64 (clk ps (t + 1)).1, .int .i64 (clk ps (t + 1)).2]) W) from fun W h => CL.out (t + 1) W (by omega) h)
      have NGT := Lib.hid (fun W => NG.out t W htn)
      have AT1 := Lib.hid (show ∀ W, Below w.heap.size w W → Calls Tryz.prog 26 #[.agg #[.int .i64 n, .slice (some a) len cap], .int .i64 ((t : Int) + 1), .int .i64 0] W (Made (.int .i64 (Zo.At n l (t + 1) 0)) W) from fun W h => AT.out (t + 1) 0 W (by omega) (by omega) h)
      have AT2 := Lib.hid (show ∀ W, Below w.heap.size w W → Calls Tryz.prog 26 #[.agg #[.int .i64 n, .slice (some a) len cap], .int .i64 0, .int .i64 ((t : Int) + 1)] W (Made (.int .i64 (Zo.At n l 0 (t + 1))) W) from fun W h => AT.out 0 (t + 1) W (by omega) (by omega) h)
      have BWT := Lib.hid (fun W h => BWc.out t htn (ryX n l ps t).1 (ryX n l ps t).2 c W (HOK.out t) h)
      have ABT := Lib.hid (fun W h => ABc.out t htn (bwX (ryX n l ps t).1 (-(gp ps t).1) (gp ps t).2 (Zo.At n l (t + 1) 0)) (bwB (ryX n l ps t).2 (-(gp ps t).1) (gp ps t).2 (Zo.At n l (t + 1) 0)) c W (bwX_ok (HOK.out t) _ _ _) h)
      have HST := Lib.hid (HSU.out t)
      have CX := Lib.hid HX.out.2
      generalize clk ps (t + 1) = ck at *
      obtain ⟨cn, cd⟩ := ck
      generalize -(gp ps t).1 = an at *
      generalize (gp ps t).2 = ad at *
      obtain ⟨ry1, hry1⟩ : ∃ y, y = ryX n l ps (t + 1) := ⟨_, rfl⟩
      rw [← hry1] at HST
      have HRY := Lib.hid hry1
      clear hry1
      generalize ryX n l ps t = ry0 at *
      generalize Zo.At n l (t + 1) 0 = u1 at *
      generalize Zo.At n l 0 (t + 1) = u2 at *
      go_wp2_with fail
      refine (CLT.out _ QW.out).mono ?_
      rintro e w3 ⟨rfl, hb⟩
      have CX := Lib.hid (CX.out.kept hb)
      have PW := Lib.hid (PW.out.kept hb)
      have G3 := Lib.hid (grown_trans HX.out.1 (grown_of hb))
      have CX3 := CX
      clear hb z0 z1
      go_wp2_with fail
      refine (NGT.out _).mono ?_
      rintro e w5 ⟨rfl, hb⟩
      obtain ⟨w6, hw6⟩ : ∃ w6, w6 = w5.alloc (.cells #[.int .i64 an, .int .i64 ad] 32) := ⟨_, rfl⟩
      have PA := Lib.hid (show Pair w6 w5.heap.size an ad by rw [hw6]; exact Pair.made _ _ _ _)
      have hb6 : Below w3.heap.size w3 w6 := by rw [hw6]; exact hb.alloc hb.size _
      have CX := Lib.hid (CX.out.kept hb6)
      have PW := Lib.hid (PW.out.kept hb6)
      have G6 := Lib.hid (grown_trans G3.out (grown_of hb6))
      have Q6 := Lib.hid (grown_over B2.out G6.out (by omega))
      have HNE := Lib.hid (show w5.heap.size ≠ c by have := CX3.out.lt; have := hb.size; omega)
      clear hb hb6 G3 CLT NGT
      go_upto_region 9 with (fail)
      rw [← hw6]
      clear hw6
      have KS := Lib.hid (show ∀ W, w6.grownBy W (some c) → ((W.cell? ⟨w5.heap.size, 0, none⟩ = some (.int .i64 an) ∧ W.cell? ⟨w5.heap.size, 1, none⟩ = some (.int .i64 ad)) ∧ (W.cell? ⟨w.heap.size, 0, none⟩ = some (.int .i64 n) ∧ W.cell? ⟨w.heap.size, 1, none⟩ = some (.slice (some a) len cap))) from fun W h => by
        have p := (PA.out.grown h HNE.out).facts
        have q := (PW.out.grown h (by omega)).facts
        exact ⟨⟨p.1, p.2.1⟩, q.1, q.2.1⟩)
      obtain ⟨wc, hwc⟩ : ∃ wc, wc = w6.drew := ⟨_, rfl⟩
      have Gc := Lib.hid (show w6.grownBy wc (some c) by rw [hwc]; exact grown_of (Below.refl _ _).drew)
      have CX := Lib.hid (show Bx wc c (chC ry0.1 ry0.2) by rw [hwc]; exact CX.out.kept (Below.refl _ _).drew)
      refine wp_region_held_drew (S := (fun W => ((W.cell? ⟨w5.heap.size, 0, none⟩ = some (.int .i64 an) ∧ W.cell? ⟨w5.heap.size, 1, none⟩ = some (.int .i64 ad)) ∧ (W.cell? ⟨w.heap.size, 0, none⟩ = some (.int .i64 n) ∧ W.cell? ⟨w.heap.size, 1, none⟩ = some (.slice (some a) len cap))))) (by kernel_rfl) (by rw [← hwc]; exact KS.out _ Gc.out) (fun h0 => ?_)
      rw [← hwc] at h0 ⊢
      clear hwc
      refine wpAnyH_take (i := 0) (v := ?v1) rfl (by kernel_rfl) (by kernel_rfl) (by kernel_rfl) (fun _ _ _ h => h) (Or.inl ⟨by rfl, ?hy1⟩) h0 ?rest1
      case hy1 => (intro w' hS; (try dsimp only at hS); go_simp; try (with_reducible rfl))
      simp only [Act.put, List.getElem_toArray, List.getElem_cons_zero, List.setIfInBounds_toArray, List.set_cons_zero, List.set_cons_succ]
      refine wpAnyH_take (i := 1) (v := ?v2) rfl (by kernel_rfl) (by kernel_rfl) (by kernel_rfl) (fun _ _ _ h => h) (Or.inl ⟨by rfl, ?hy2⟩) h0 ?rest2
      case hy2 => (intro w' hS; (try dsimp only at hS); go_simp; try (with_reducible rfl))
      simp only [Act.put, List.getElem_toArray, List.getElem_cons_zero, List.getElem_cons_succ, List.setIfInBounds_toArray, List.set_cons_zero, List.set_cons_succ]
      refine wpAnyH_take (i := 2) (v := ?v3) rfl (by kernel_rfl) (by kernel_rfl) (by kernel_rfl) (fun _ _ _ h => h) (Or.inl ⟨by rfl, ?hy3⟩) h0 ?rest3
      case hy3 => (intro w' hS; (try dsimp only at hS); go_simp; try (with_reducible rfl))
      simp only [Act.put, List.getElem_toArray, List.getElem_cons_zero, List.getElem_cons_succ, List.setIfInBounds_toArray, List.set_cons_zero, List.set_cons_succ]
      refine wpAnyH_take (i := 3) (v := ?v4) rfl (by kernel_rfl) (by kernel_rfl) (by kernel_rfl) (fun _ _ _ h => h) (Or.inl ⟨by rfl, ?hy4⟩) h0 ?rest4
      case hy4 => (intro w' hS; (try dsimp only at hS); go_simp; try (with_reducible rfl))
      simp only [Act.put, List.getElem_toArray, List.getElem_cons_zero, List.getElem_cons_succ, List.setIfInBounds_toArray, List.set_cons_zero, List.set_cons_succ]
      refine wpAnyH_ready (rs := [4]) (by kernel_rfl) (by simp) (AllReadyH.cons rfl (fun K hK => ?_) AllReadyH.nil)
      rw [if_pos (by rfl)]
      go_simp
      refine (AT1.out _ (grown_over Q6.out Gc.out (by omega))).mono ?_
      rintro e wc ⟨rfl, hb⟩
      have Gc := Lib.hid (grown_trans Gc.out (grown_of (c := c) hb))
      have CX := Lib.hid (CX.out.kept hb)
      clear hb
      go_simp
      refine hK.out _ _ (KS.out _ Gc.out) (fun h0_1 => ?_)
      clear hK K h0
      refine wpAnyH_ready (rs := [5]) (by kernel_rfl) (by simp) (AllReadyH.cons rfl (fun K hK => ?_) AllReadyH.nil)
      rw [if_pos (by rfl)]
      go_simp
      refine (BWT.out _ CX.out).mono ?_
      rintro e wc ⟨rfl, hg, hx⟩
      have Gc := Lib.hid (grown_trans Gc.out hg)
      have CX := Lib.hid hx
      clear hg hx
      go_simp
      refine hK.out _ _ (KS.out _ Gc.out) (fun h0_2 => ?_)
      clear hK K h0_1
      try simp only [List.set_cons_succ]
      try simp only [List.set_cons_zero]
      refine wpAnyH_done (by kernel_rfl) ?_ _
      go_upto_region 10 with (fail)
      generalize wc = w7 at *
      obtain ⟨wc, hwc⟩ : ∃ wc, wc = w7.drew := ⟨_, rfl⟩
      have CX := Lib.hid (show Bx wc c _ by rw [hwc]; exact CX.out.kept (Below.refl _ _).drew)
      have Gc := Lib.hid (show w6.grownBy wc (some c) by rw [hwc]; exact grown_trans Gc.out (grown_of (Below.refl _ _).drew))
      refine wp_region_held_drew (S := (fun W => ((W.cell? ⟨w5.heap.size, 0, none⟩ = some (.int .i64 an) ∧ W.cell? ⟨w5.heap.size, 1, none⟩ = some (.int .i64 ad)) ∧ (W.cell? ⟨w.heap.size, 0, none⟩ = some (.int .i64 n) ∧ W.cell? ⟨w.heap.size, 1, none⟩ = some (.slice (some a) len cap))))) (by kernel_rfl) (by rw [← hwc]; exact KS.out _ Gc.out) (fun h0 => ?_)
      rw [← hwc] at h0 ⊢
      clear hwc
      refine wpAnyH_take (i := 0) (v := ?v5) rfl (by kernel_rfl) (by kernel_rfl) (by kernel_rfl) (fun _ _ _ h => h) (Or.inl ⟨by rfl, ?hy5⟩) h0 ?rest5
      case hy5 => (intro w' hS; (try dsimp only at hS); go_simp; try (with_reducible rfl))
      simp only [Act.put, List.getElem_toArray, List.getElem_cons_zero, List.setIfInBounds_toArray, List.set_cons_zero, List.set_cons_succ]
      refine wpAnyH_take (i := 1) (v := ?v6) rfl (by kernel_rfl) (by kernel_rfl) (by kernel_rfl) (fun _ _ _ h => h) (Or.inl ⟨by rfl, ?hy6⟩) h0 ?rest6
      case hy6 => (intro w' hS; (try dsimp only at hS); go_simp; try (with_reducible rfl))
      simp only [Act.put, List.getElem_toArray, List.getElem_cons_zero, List.getElem_cons_succ, List.setIfInBounds_toArray, List.set_cons_zero, List.set_cons_succ]
      refine wpAnyH_take (i := 2) (v := ?v7) rfl (by kernel_rfl) (by kernel_rfl) (by kernel_rfl) (fun _ _ _ h => h) (Or.inl ⟨by rfl, ?hy7⟩) h0 ?rest7
      case hy7 => (intro w' hS; (try dsimp only at hS); go_simp; try (with_reducible rfl))
      simp only [Act.put, List.getElem_toArray, List.getElem_cons_zero, List.getElem_cons_succ, List.setIfInBounds_toArray, List.set_cons_zero, List.set_cons_succ]
      refine wpAnyH_take (i := 3) (v := ?v8) rfl (by kernel_rfl) (by kernel_rfl) (by kernel_rfl) (fun _ _ _ h => h) (Or.inl ⟨by rfl, ?hy8⟩) h0 ?rest8
      case hy8 => (intro w' hS; (try dsimp only at hS); go_simp; try (with_reducible rfl))
      simp only [Act.put, List.getElem_toArray, List.getElem_cons_zero, List.getElem_cons_succ, List.setIfInBounds_toArray, List.set_cons_zero, List.set_cons_succ]
      refine wpAnyH_ready (rs := [4]) (by kernel_rfl) (by simp) (AllReadyH.cons rfl (fun K hK => ?_) AllReadyH.nil)
      rw [if_pos (by rfl)]
      go_simp
      refine (AT2.out _ (grown_over Q6.out Gc.out (by omega))).mono ?_
      rintro e wc ⟨rfl, hb⟩
      have Gc := Lib.hid (grown_trans Gc.out (grown_of (c := c) hb))
      have CX := Lib.hid (CX.out.kept hb)
      clear hb
      go_simp
      refine hK.out _ _ (KS.out _ Gc.out) (fun h0_1 => ?_)
      clear hK K h0
      refine wpAnyH_ready (rs := [5]) (by kernel_rfl) (by simp) (AllReadyH.cons rfl (fun K hK => ?_) AllReadyH.nil)
      rw [if_pos (by rfl)]
      go_simp
      refine (ABT.out _ CX.out).mono ?_
      rintro e wc ⟨rfl, hg, hx⟩
      have Gc := Lib.hid (grown_trans Gc.out hg)
      have CX := Lib.hid hx
      clear hg hx
      go_simp
      refine hK.out _ _ (KS.out _ Gc.out) (fun h0_2 => ?_)
      clear hK K h0_1
      try simp only [List.set_cons_succ]
      try simp only [List.set_cons_zero]
      refine wpAnyH_done (by kernel_rfl) ?_ _
      have HN := Lib.hid (show w2.grownBy wc (some c) ∧ Bx wc c (chC ry1.1 ry1.2) from ⟨grown_trans G6.out Gc.out, by rw [HST.out]; exact CX.out⟩)
      go_wp2_with fail
      go_roundw
      case rel => exact ⟨t + 1, by omega, by go_num, by rw [← HRY.out]; exact HN⟩
      case measure => simp [intOf]; omega
    case neg =>
      obtain rfl : t = n := by omega
      have TB : decide ((t : Int) + 1 ≤ (t : Int)) = false := by simp; omega
      have CX := Lib.hid HX.out.2
      have RW := Lib.hid (Drow_grown RB.out HX.out.1 (by omega))
      have HOKt := Lib.hid (HOK.out t)
      have TD := Lib.hid (fun W bd h => told_any (ryX t l ps t).1 bd c W (HOK.out t) h)
      generalize ryX t l ps t = ry at *
      obtain ⟨x, bd⟩ := ry
      obtain ⟨y, hy⟩ : ∃ y, y = tdX x := ⟨_, rfl⟩
      obtain ⟨ye, hye⟩ : ∃ y, y = tdE x := ⟨_, rfl⟩
      have TD2 := Lib.hid (show ∀ W, Bx W c (chC x bd) → Calls Tryz.prog 36 #[.pointer (some ⟨c, 0, none⟩)] W (Made (.tuple #[.agg #[.int .i64 y.ln, .int .i64 y.ld, .int .i64 y.hn, .int .i64 y.hd, .bool y.lo, .bool y.ho, .bool y.nh], .int .i64 ye]) W) from fun W h => by
        rw [hye, hy]; exact TD.out W bd h)
      have HRS2 := Lib.hid (show rr = if bd then (Dl.zero, 7) else if mtH t 1 l ps then (y, ye) else (Dl.zero, 4) by rw [HRS.out, hy, hye])
      clear hy hye TD HRS HSU HZ0 BWc ABc NG HOK HOKt
      have c7 := CX.out.cell 7
      simp [chC] at c7
      cases bd
      case true =>
        have HR := Lib.hid (show rr = (Dl.zero, 7) by rw [HRS2.out]; rfl)
        obtain ⟨r0, r1, r2, r3, r4, r5, r6⟩ := RW.out.facts
        obtain ⟨y0, y1, y2, y3, y4, y5, y6⟩ := RW.out.frees
        go_wp2_with fail
        refine bodyPost_ret (v := .tuple #[.agg Dl.zero.cs, .int .i64 7]) (by simp [results, Tryz.results9, go_sem, Dl.cs, Dl.zero, r0, r1, r2, r3, r4, r5, r6]) rfl ⟨by rw [HR.out], ?_⟩
        exact below_seven QW.out (by omega) _ _ _ _ _ _ _
      case false =>
        have HRS3 := Lib.hid (show rr = if mtH t 1 l ps then (y, ye) else (Dl.zero, 4) by rw [HRS2.out]; rfl)
        clear HRS2 HX
        go_wp2_with fail
        clear z0 z1 c7
        obtain ⟨w1', hw1'⟩ : ∃ w1', w1' = wr := ⟨_, rfl⟩
        rw [← hw1'] at PW RW CX QW ⊢
        clear hw1'
        go_loopw [11] (fun s wx => ∃ u : Nat, u ≤ t ∧ s = .int .i64 ((u : Int) + 1) ∧ Hid (∀ i, 1 ≤ i → i < u + 1 → ∀ j, 1 ≤ j → j < t + 1 → hsM t l ps i j = true) ∧ Hid (Below w1'.heap.size w1' wx)) (fun s _ => t + 1 - (intOf s).toNat)
        case atStart => exact ⟨0, by omega, rfl, Lib.hid (fun k hk hk2 => by omega), Lib.hid (Below.refl _ _)⟩
        case round =>
          obtain ⟨i, hi, rfl, HS, HB⟩ := hrel
          obtain ⟨b0, b1, _, _⟩ := (PW.out.kept HB.out).facts
          by_cases hin : i < t
          · have TI : decide ((i : Int) + 1 ≤ (t : Int)) = true := by simp; omega
            have ti : (i : Int) < 10 := by omega
            have ti0 : 0 ≤ (i : Int) + 1 := by omega
            go_wp2_with fail
            clear b0 b1
            go_loopw [12] (fun s wx => ∃ u : Nat, u ≤ t ∧ s = .int .i64 ((u : Int) + 1) ∧ Hid (∀ j, 1 ≤ j → j < u + 1 → hsM t l ps (i + 1) j = true) ∧ Hid (Below w1'.heap.size w1' wx)) (fun s _ => t + 1 - (intOf s).toNat)
            case atStart => exact ⟨0, by omega, rfl, Lib.hid (fun k hk hk2 => by omega), HB⟩
            case round =>
              obtain ⟨j, hj, rfl, HJ, HBj⟩ := hrel
              obtain ⟨b0, b1, _, _⟩ := (PW.out.kept HBj.out).facts
              by_cases hjn : j < t
              · have TJ : decide ((j : Int) + 1 ≤ (t : Int)) = true := by simp; omega
                have tj : (j : Int) < 10 := by omega
                have tj0 : 0 ≤ (j : Int) + 1 := by omega
                have CI := Lib.hid (show ∀ W, Below w.heap.size w W → Calls Tryz.prog 24 #[.slice po t pc, .int .i64 ((i : Int) + 1)] W (Made (.agg #[.int .i64 (clk ps (i + 1)).1, .int .i64 (clk ps (i + 1)).2]) W) from fun W h => CL.out (i + 1) W (by omega) h)
                have CJ := Lib.hid (show ∀ W, Below w.heap.size w W → Calls Tryz.prog 24 #[.slice po t pc, .int .i64 ((j : Int) + 1)] W (Made (.agg #[.int .i64 (clk ps (j + 1)).1, .int .i64 (clk ps (j + 1)).2]) W) from fun W h => CL.out (j + 1) W (by omega) h)
                have mt := fun W => MT.out (i + 1) (j + 1) W (by omega) (by omega)
                have sb := fun W => SB.out (i + 1) (j + 1) W (by omega) (by omega)
                have AT2 := Lib.hid (show ∀ W, Below w.heap.size w W → Calls Tryz.prog 26 #[.agg #[.int .i64 t, .slice (some a) len cap], .int .i64 ((i : Int) + 1), .int .i64 ((j : Int) + 1)] W (Made (.int .i64 (Zo.At t l (i + 1) (j + 1))) W) from fun W h => AT.out (i + 1) (j + 1) W (by omega) (by omega) h)
                have hM : hsM t l ps (i + 1) (j + 1) = meB (sbN ps (i + 1) (j + 1)) (sbD ps (i + 1) (j + 1)) (Zo.At t l (i + 1) (j + 1)) := rfl
                generalize meB (sbN ps (i + 1) (j + 1)) (sbD ps (i + 1) (j + 1)) (Zo.At t l (i + 1) (j + 1)) = mb at mt hM
                generalize meE (sbN ps (i + 1) (j + 1)) (sbD ps (i + 1) (j + 1)) (Zo.At t l (i + 1) (j + 1)) = me at mt
                generalize sbN ps (i + 1) (j + 1) = sn at *
                generalize sbD ps (i + 1) (j + 1) = sd at *
                generalize Zo.At t l (i + 1) (j + 1) = lv at *
                generalize clk ps (i + 1) = ci at *
                generalize clk ps (j + 1) = cj at *
                obtain ⟨cin, cid⟩ := ci
                obtain ⟨cjn, cjd⟩ := cj
                have MT2 := Lib.hid mt
                have SB2 := Lib.hid sb
                have HM := Lib.hid hM
                clear mt sb hM
                go_wp2_with fail
                refine (CI.out _ (below_on QW.out HBj.out)).mono ?_
                rintro e w3 ⟨rfl, hb3⟩
                have q3 := below_on HBj.out hb3
                clear hb3 b0 b1
                go_wp2_with fail
                refine (CJ.out _ (below_on QW.out q3)).mono ?_
                rintro e w4 ⟨rfl, hb4⟩
                have q4 := below_on q3 hb4
                clear hb4 q3
                go_wp2_with fail
                refine (SB2.out _).mono ?_
                rintro e w5 ⟨rfl, hb5⟩
                have q5 := below_on q4 hb5
                clear hb5 q4
                obtain ⟨w6, hw6⟩ : ∃ w6, w6 = w5.alloc (.cells #[.int .i64 sn, .int .i64 sd] 32) := ⟨_, rfl⟩
                have pD : Pair w6 w5.heap.size sn sd := by rw [hw6]; exact Pair.made _ _ _ _
                have q6 : Below w1'.heap.size w1' w6 := by rw [hw6]; exact q5.alloc q5.size _
                have bx6 := PW.out.kept q6
                have KS := Lib.hid (show ∀ W : World, Below w6.heap.size w6 W → (W.cell? ⟨w5.heap.size, 0, none⟩ = some (.int .i64 sn) ∧ W.cell? ⟨w5.heap.size, 1, none⟩ = some (.int .i64 sd)) ∧ (W.cell? ⟨w.heap.size, 0, none⟩ = some (.int .i64 t) ∧ W.cell? ⟨w.heap.size, 1, none⟩ = some (.slice (some a) len cap)) from
                  fun W h => ⟨⟨(pD.kept h).facts.1, (pD.kept h).facts.2.1⟩, (bx6.kept h).facts.1, (bx6.kept h).facts.2.1⟩)
                have Q6 := Lib.hid q6
                clear q5 q6 pD bx6
                go_upto_region 20 with (fail)
                rw [← hw6]
                clear hw6
                have s1 : Below w6.heap.size w6 w6.drew := (Below.refl _ _).drew
                go_region_held3 (fun w' => (w'.cell? ⟨w5.heap.size, 0, none⟩ = some (.int .i64 sn) ∧ w'.cell? ⟨w5.heap.size, 1, none⟩ = some (.int .i64 sd)) ∧ (w'.cell? ⟨w.heap.size, 0, none⟩ = some (.int .i64 t) ∧ w'.cell? ⟨w.heap.size, 1, none⟩ = some (.slice (some a) len cap))) (first | exact KS.out _ s1 | exact KS.out _ s7 | exact KS.out _ s8)
                  (first | (go_at_call 26; refine (AT2.out _ (below_on QW.out (below_on Q6.out s1))).mono ?_; rintro e w7 ⟨rfl, hb7⟩; have s7 := below_on s1 hb7) | (go_at_call 25; refine (MT2.out _).mono ?_; rintro e w8 ⟨rfl, hb8⟩; have s8 := below_on s7 hb8))
                have Q8 := Lib.hid (below_on Q6.out s8)
                clear s1 s7 s8 hb7 hb8
                cases mb
                · have HR := Lib.hid (show rr = (Dl.zero, 4) by
                    rw [HRS3.out, if_neg]
                    intro q
                    have := mtH_iff.1 q (i + 1) (by omega) (by omega) (j + 1) (by omega) (by omega)
                    rw [HM.out] at this; cases this)
                  have RX := RW.out.kept Q8.out
                  obtain ⟨r0, r1, r2, r3, r4, r5, r6⟩ := RX.facts
                  obtain ⟨y0, y1, y2, y3, y4, y5, y6⟩ := RX.frees
                  go_wp2_with fail
                  refine bodyPost_ret (v := .tuple #[.agg Dl.zero.cs, .int .i64 4]) (by simp [results, Tryz.results9, go_sem, Dl.cs, Dl.zero, r0, r1, r2, r3, r4, r5, r6]) rfl ⟨by rw [HR.out], ?_⟩
                  exact below_seven (below_on QW.out Q8.out) (by omega) _ _ _ _ _ _ _
                · go_wp2_with fail
                  go_roundw
                  case rel =>
                    refine ⟨j + 1, by omega, by go_num, Lib.hid (fun k hk hk2 => ?_), Q8⟩
                    by_cases e : k = j + 1
                    · rw [e]; exact HM.out
                    · exact HJ.out k hk (by omega)
                  case measure => simp [intOf]; omega
              · obtain rfl : j = t := by omega
                have TJ : decide ((j : Int) + 1 ≤ (j : Int)) = false := by simp; omega
                have HS3 := Lib.hid (show ∀ x, 1 ≤ x → x < i + 1 + 1 → ∀ k, 1 ≤ k → k < j + 1 → hsM j l ps x k = true from fun x hx1 hx y hy1 hy => by
                  by_cases e : x = i + 1
                  · rw [e]; exact HJ.out y hy1 hy
                  · exact HS.out x hx1 (by omega) y hy1 hy)
                go_wp2_with fail
                go_roundw
                case rel => exact ⟨i + 1, by omega, by go_num, HS3, HBj⟩
                case measure => simp [intOf]; omega
          · have HE := Lib.hid (show rr = (y, ye) by
              rw [HRS3.out, if_pos]
              exact mtH_iff.2 (fun u hu hu2 v hv hv2 => HS.out u hu (by omega) v hv hv2))
            have TI : decide ((i : Int) + 1 ≤ (t : Int)) = false := by simp; omega
            go_wp2_with fail
            refine (TD2.out _ (CX.out.kept HB.out)).mono ?_
            rintro e w9 ⟨rfl, hb9⟩
            have RX := RW.out.kept (below_on HB.out hb9)
            have Q9 := Lib.hid (below_on QW.out (below_on HB.out hb9))
            clear hb9
            obtain ⟨r0, r1, r2, r3, r4, r5, r6⟩ := RX.facts
            obtain ⟨y0, y1, y2, y3, y4, y5, y6⟩ := RX.frees
            go_wp2_with fail
            refine bodyPost_ret (v := .tuple #[.agg y.cs, .int .i64 ye]) (by simp [results, Tryz.results9, go_sem, Dl.cs, Dl.zero, r0, r1, r2, r3, r4, r5, r6]) rfl ⟨by rw [HE.out], ?_⟩
            exact below_seven Q9.out (by omega) _ _ _ _ _ _ _
end Go.Proofs.YtbnebinpemejlaaGreat
