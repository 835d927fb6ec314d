/- ZoneMembers, for whatever arguments. -/
import Derived.Test.YtbnebinpemejlaaHm2
import Derived.Test.YtbnebinpemejlaaHm5

namespace Go.Proofs.Ytbnebinpemejlaa
open Go.RowKit

theorem rd2_some {w : World} {a : Addr} {cs : List Pq} (h : Arg2 w (some a) cs) : Rd2 w a cs := by
  by_cases he : cs = []
  · subst he; intro j hj; simp at hj
  · obtain ⟨b, h1, h2⟩ := h he
    obtain rfl := Option.some.inj h1
    exact h2

theorem fits_set {ps : List Pq} {k : Nat} {c : Int} (h : Fits ps) (hk : k < ps.length) (h0 : 0 ≤ c) (h1 : c ≤ 1000) : Fits (ps.set k (c, 1)) := by
  intro m hm
  rw [List.length_set] at hm
  rw [gp_set _ hk]
  split
  · exact ⟨by unfold I64; omega, by unfold I64; omega⟩
  · exact h m hm

theorem hsR_no {N : Int} {l : List Int} {ps : List Pq} (h : rdE N l ps ≠ 0) : hsR N l ps = false := by unfold hsR; rw [decide_eq_false h]; rfl

set_option maxRecDepth 100000 in
/-- moved, where the point is in the zone's dimension and the clock and its value are good. -/
theorem moved_all (n i : Nat) (l : List Int) (ao : Option Addr) (cap : Nat) (j c : Int) (dao : Option Addr) (dl dc : Nat) (ps : List Pq) (po qo : Option Addr) (pc qc : Nat) (w : World)
    (hA : Arg w ao l) (hP : Arg2 w po ps) (hI : Fits ps) (hN : po = none → pc = 0) (hQ : Arg2 w qo (ps.set (i - 1) (c, 1))) (hr : rdE n l ps = 0) (h1 : 1 ≤ i) (hi : i ≤ n) (h0 : 0 ≤ c) (h2 : c ≤ 1000) :
    Calls Try.prog 48 #[.agg #[.int .i64 (n : Int), .slice ao l.length cap, .int .i64 (i : Int), .int .i64 j, .int .i64 c, .slice dao dl dc], .slice po ps.length pc, .slice qo ps.length qc, .bool (hsR n l ps)] w (Made (.bool true) w) := by
  obtain ⟨hc, hp, hv, _⟩ := rd_parts hr
  obtain ⟨e1, e2, e3, e4, e5, e6, m1, m2, m3⟩ := moved_math hr h1 hi h0 h2
  have hql : (ps.set (i - 1) (c, 1)).length = ps.length := by simp
  have hqf := fits_set (k := i - 1) (c := c) hI (by omega) h0 h2
  have hqn : qo = none → qc = 0 := fun e => by
    subst e
    obtain ⟨b, hb, _⟩ := hQ (fun q => by have := congrArg List.length q; rw [hql, hp] at this; simp at this; omega)
    cases hb
  generalize hqs : ps.set (i - 1) (c, 1) = qs at *
  have RE := Lib.hid (show ∀ W, Below w.heap.size w W → Calls Try.prog 30 #[.agg #[.int .i64 (n : Int), .slice ao l.length cap], .int .i64 (i : Int), .int .i64 c] W (ZV2 W n (reL n i c l) 0) from fun W hb => by
    have := zre_gen n l ao cap i c W (hA.on hb)
    rw [e1] at this
    exact this.mono fun e w' h => by simpa [zrN, zrL] using h.zv2)
  have FR := Lib.hid (show ∀ W, Below w.heap.size w W → Calls Try.prog 32 #[.agg #[.int .i64 (n : Int), .slice ao l.length cap], .int .i64 (i : Int)] W (ZV2 W n (Zo.clo n (frL n i l)) 0) from fun W hb => by
    have := zfr_gen n l ao cap i W (hA.on hb)
    rw [e2] at this
    exact this.mono fun e w' h => by simpa [zrN, zrL] using h.zv2)
  have BE := (show ∀ W, Below w.heap.size w W → Calls Try.prog 34 #[.agg #[.int .i64 (n : Int), .slice ao l.length cap], .int .i64 (i : Int), .int .i64 c] W (ZV2 W (zrN (beG n l i c) n) (zrL (beG n l i c) (beL n i c l)) (beG n l i c)) from fun W hb =>
    (zbe_gen n l ao cap i c W (hA.on hb)).mono fun e w' h => h.zv2)
  have H1 := (show ∀ W, Below w.heap.size w W → Calls Try.prog 46 #[.agg #[.int .i64 (n : Int), .slice ao l.length cap], .slice qo ps.length qc] W (Made (.tuple #[.bool (hsR n l qs), .int .i64 (rdE n l qs)]) W) from fun W hb => by
    have := zhas_gen n l ao cap qs qo qc W (hA.on hb) (hQ.on hb) hqf hqn
    rwa [hql] at this)
  have H2 := (show ∀ W a ca, Arg W a (reL n i c l) → Below w.heap.size w W → Calls Try.prog 46 #[.agg #[.int .i64 (n : Int), .slice a (reL n i c l).length ca], .slice qo ps.length qc] W (Made (.tuple #[.bool (hsR n (reL n i c l) qs), .int .i64 (rdE n l qs)]) W) from fun W a ca h hb => by
    have := zhas_gen n (reL n i c l) a ca qs qo qc W h (hQ.on hb) hqf hqn
    rwa [hql, e5] at this)
  have H3 := (show ∀ W a ca, Arg W a (Zo.clo n (frL n i l)) → Below w.heap.size w W → Calls Try.prog 46 #[.agg #[.int .i64 (n : Int), .slice a (Zo.clo n (frL n i l)).length ca], .slice qo ps.length qc] W (Made (.tuple #[.bool (hsR n (Zo.clo n (frL n i l)) qs), .int .i64 (rdE n l qs)]) W) from fun W a ca h hb => by
    have := zhas_gen n (Zo.clo n (frL n i l)) a ca qs qo qc W h (hQ.on hb) hqf hqn
    rwa [hql, e6] at this)
  have H4 := (show ∀ W a ca, Arg W a (beL n i c l) → Below w.heap.size w W → beG n l i c = 0 → Calls Try.prog 46 #[.agg #[.int .i64 (n : Int), .slice a (beL n i c l).length ca], .slice po ps.length pc] W (Made (.tuple #[.bool (hsR n (beL n i c l) ps), .int .i64 0]) W) from fun W a ca h hb e0 => by
    have := zhas_gen n (beL n i c l) a ca ps po pc W h (hP.on hb) hI hN
    rwa [(m2 e0).1] at this)
  rcases e4 with e4 | e4
  · rw [e4] at H1 H2 H3
    rcases e3 with e3 | e3 | e3 <;> rw [e3] at BE
    · have h4 := Lib.hid (fun W a ca h hb => H4 W a ca h hb e3)
      have hbq := (m2 e3).2 e4
      cases hin : hsR n l ps
      · exact moved_0_0f n i l _ _ _ ao cap j c dao dl dc po qo ps.length pc qc _ _ _ _ w RE FR (Lib.hid BE) (Lib.hid H1) (Lib.hid H2) (Lib.hid H3) h4 hbq
      · obtain ⟨t1, t2⟩ := m1 e4 hin
        exact moved_0_0t n i l _ _ _ ao cap j c dao dl dc po qo ps.length pc qc _ _ _ _ w RE FR (Lib.hid BE) (Lib.hid H1) (Lib.hid H2) (Lib.hid H3) h4 hbq t1 t2
    · have hbq := m3 e3 e4
      cases hin : hsR n l ps
      · exact moved_4_0f n i l _ _ _ ao cap j c dao dl dc po qo ps.length pc qc _ _ _ w RE FR (Lib.hid BE) (Lib.hid H1) (Lib.hid H2) (Lib.hid H3) hbq
      · obtain ⟨t1, t2⟩ := m1 e4 hin
        exact moved_4_0t n i l _ _ _ ao cap j c dao dl dc po qo ps.length pc qc _ _ _ w RE FR (Lib.hid BE) (Lib.hid H1) (Lib.hid H2) (Lib.hid H3) hbq t1 t2
    · cases hin : hsR n l ps
      · exact moved_7_0f n i l _ _ _ ao cap j c dao dl dc po qo ps.length pc qc _ _ _ w RE FR (Lib.hid BE) (Lib.hid H1) (Lib.hid H2) (Lib.hid H3)
      · obtain ⟨t1, t2⟩ := m1 e4 hin
        exact moved_7_0t n i l _ _ _ ao cap j c dao dl dc po qo ps.length pc qc _ _ _ w RE FR (Lib.hid BE) (Lib.hid H1) (Lib.hid H2) (Lib.hid H3) t1 t2
  · rw [e4] at H1 H2 H3
    rcases e3 with e3 | e3 | e3 <;> rw [e3] at BE
    · exact moved_0_7 n i l _ _ _ ao cap j c dao dl dc po qo ps.length pc qc _ _ _ _ w RE FR (Lib.hid BE) (Lib.hid H1) (Lib.hid H2) (Lib.hid H3)
    · exact moved_4_7 n i l _ _ _ ao cap j c dao dl dc po qo ps.length pc qc _ _ _ _ w RE FR (Lib.hid BE) (Lib.hid H1) (Lib.hid H2) (Lib.hid H3)
    · exact moved_7_7 n i l _ _ _ ao cap j c dao dl dc po qo ps.length pc qc _ _ _ _ w RE FR (Lib.hid BE) (Lib.hid H1) (Lib.hid H2) (Lib.hid H3)

set_option maxRecDepth 100000 in
theorem members_any (N : Int) (l : List Int) (ao : Option Addr) (cap : Nat) (i j c : Int) (dao : Option Addr) (dl dc : Nat) (M : Int) (m : List Int) (bo : Option Addr) (cb : Nat) (ps : List Pq) (po : Option Addr) (pc : Nat) (w : World)
    (hA : Arg w ao l) (hB : Arg w bo m) (hP : Arg2 w po ps) (hI : Fits ps) (hm : po = none → ps = [] ∧ pc = 0) :
    Calls Try.prog 6 #[.agg #[.int .i64 N, .slice ao l.length cap, .int .i64 i, .int .i64 j, .int .i64 c, .slice dao dl dc], .agg #[.int .i64 M, .slice bo m.length cb], .slice po ps.length pc] w (Made (.bool true) w) := by
  have hN : po = none → pc = 0 := fun e => (hm e).2
  by_cases g0 : 200 < l.length
  · exact members_long1 N M ao bo l.length cap m.length cb i j c dao dl dc po ps.length pc w g0
  by_cases g1 : 200 < m.length
  · exact members_long2 N M ao bo l.length cap m.length cb i j c dao dl dc po ps.length pc w g0 g1
  by_cases g2 : 100 < dl
  · exact members_long3 N M ao bo l.length cap m.length cb i j c dao dl dc po ps.length pc w g0 g1 g2
  by_cases g3 : 50 < ps.length
  · exact members_long4 N M ao bo l.length cap m.length cb i j c dao dl dc po ps.length pc w g0 g1 g2 g3
  have HZ := (show ∀ W, Below w.heap.size w W → Calls Try.prog 46 #[.agg #[.int .i64 N, .slice ao l.length cap], .slice po ps.length pc] W (Made (.tuple #[.bool (hsR N l ps), .int .i64 (rdE N l ps)]) W) from fun W hb => zhas_gen N l ao cap ps po pc W (hA.on hb) (hP.on hb) hI hN)
  by_cases hr' : rdE N l ps ≠ 0
  · have hr := hr'
    rw [hsR_no hr] at HZ
    exact members_bad (rdE N l ps) hr N M ao bo l.length cap m.length cb i j c dao dl dc po ps.length pc w g0 g1 g2 g3 (Lib.hid HZ)
  have hr : rdE N l ps = 0 := Decidable.not_not.1 hr'
  clear hr'
  rw [hr] at HZ
  obtain ⟨n, rfl, _, _, _⟩ := chk_ok (rd_ok hr).1
  obtain ⟨hc, hp, hv, hs⟩ := rd_parts hr
  have SE : Hid ((decide (1 ≤ i) && decide (i ≤ (ps.length : Int)) && decide (0 ≤ c) && decide (c ≤ 1000)) = true → ∀ W, Below w.heap.size w W → Calls Try.prog 47 #[.slice po ps.length pc, .int .i64 i, .agg #[.int .i64 c, .int .i64 1]] W (fun e w' => ∃ qo qc, e = .returned (.slice qo ps.length qc) ∧ Arg2 w' qo (ps.set (i.toNat - 1) (c, 1)) ∧ Below W.heap.size W w')) := Lib.hid fun hg W hb => by
    simp at hg
    obtain ⟨k, rfl⟩ : ∃ k : Nat, i = (k : Int) + 1 := ⟨(i - 1).toNat, by omega⟩
    rw [show ((k : Int) + 1).toNat - 1 = k by omega]
    cases po with
    | none => have := (hm rfl).1; subst this; simp at hg; omega
    | some pa => exact set_gen ps pa pc k c 1 W ((rd2_some hP).on hb) (by omega) (by omega)
  have MV : Hid ((decide (1 ≤ i) && decide (i ≤ (ps.length : Int)) && decide (0 ≤ c) && decide (c ≤ 1000)) = true → ∀ W qo qc, Arg2 W qo (ps.set (i.toNat - 1) (c, 1)) → Below w.heap.size w W → Calls Try.prog 48 #[.agg #[.int .i64 (n : Int), .slice ao l.length cap, .int .i64 i, .int .i64 j, .int .i64 c, .slice dao dl dc], .slice po ps.length pc, .slice qo ps.length qc, .bool (hsR n l ps)] W (Made (.bool true) W)) := Lib.hid fun hg W qo qc hq hb => by
    simp at hg
    obtain ⟨k, rfl⟩ : ∃ k : Nat, i = (k : Int) := ⟨i.toNat, by omega⟩
    exact moved_all n k l ao cap j c dao dl dc ps po qo pc qc W (hA.on hb) (hP.on hb) hI hN hq hr (by omega) (by omega) (by omega) (by omega)
  have ME := (show ∀ W, Below w.heap.size w W → Calls Try.prog 42 #[.agg #[.int .i64 (n : Int), .slice ao l.length cap], .agg #[.int .i64 M, .slice bo m.length cb]] W (ZV2 W (zrN (zmE n M l m) n) (zrL (zmE n M l m) (Zo.clo n (meL l m))) (zmE n M l m)) from fun W hb => (zme_gen n M l m ao bo cap cb W (hA.on hb) (hB.on hb)).mono fun e w' h => h.zv2)
  have HY := (show ∀ W, Below w.heap.size w W → Calls Try.prog 46 #[.agg #[.int .i64 M, .slice bo m.length cb], .slice po ps.length pc] W (Made (.tuple #[.bool (hsR M m ps), .int .i64 (rdE M m ps)]) W) from fun W hb => zhas_gen M m bo cb ps po pc W (hB.on hb) (hP.on hb) hI hN)
  by_cases hy' : rdE M m ps ≠ 0
  · have hy := hy'
    exact members_Y n M ao bo l.length cap m.length cb i j c dao dl dc po ps.length pc w g0 g1 g2 g3 (by omega) _ (Lib.hid rfl) _ _ _ _ _ hy _ (Lib.hid HZ) SE MV (Lib.hid ME) (Lib.hid HY)
  have hy : rdE M m ps = 0 := Decidable.not_not.1 hy'
  clear hy'
  rw [hy] at HY
  obtain ⟨n2, rfl, _, _, _⟩ := chk_ok (rd_ok hy).1
  obtain rfl : n2 = n := by have := (rd_parts hy).2.1; omega
  obtain ⟨z1, z2, z3⟩ := meet_math hr hy
  rcases z1 with z1 | z1 | z1 <;> rw [z1] at ME
  · obtain ⟨y1, y2⟩ := z2 z1
    have HM := (show ∀ W a ca, Arg W a (Zo.clo n2 (meL l m)) → Below w.heap.size w W → Calls Try.prog 46 #[.agg #[.int .i64 (n2 : Int), .slice a (Zo.clo n2 (meL l m)).length ca], .slice po ps.length pc] W (Made (.tuple #[.bool (hsR n2 (Zo.clo n2 (meL l m)) ps), .int .i64 0]) W) from fun W a ca h hb => by
      have := zhas_gen n2 (Zo.clo n2 (meL l m)) a ca ps po pc W h (hP.on hb) hI hN
      rwa [y1] at this)
    cases hin : hsR n2 l ps <;> rw [hin] at HZ MV y2
    · exact members_0f n2 n2 ao bo l.length cap m.length cb i j c dao dl dc po ps.length pc w g0 g1 g2 g3 (by omega) _ (Lib.hid rfl) _ _ _ (Lib.hid HZ) SE MV (Lib.hid ME) (Lib.hid HY) _ (Lib.hid HM) y2
    · exact members_0t n2 n2 ao bo l.length cap m.length cb i j c dao dl dc po ps.length pc w g0 g1 g2 g3 (by omega) _ (Lib.hid rfl) _ _ _ (Lib.hid HZ) SE MV (Lib.hid ME) (Lib.hid HY) _ (Lib.hid HM) y2
  · have y2 := z3 z1
    cases hin : hsR n2 l ps <;> rw [hin] at HZ MV y2
    · exact members_4f n2 n2 ao bo l.length cap m.length cb i j c dao dl dc po ps.length pc w g0 g1 g2 g3 (by omega) _ (Lib.hid rfl) _ _ _ (Lib.hid HZ) SE MV (Lib.hid ME) (Lib.hid HY) y2
    · exact members_4t n2 n2 ao bo l.length cap m.length cb i j c dao dl dc po ps.length pc w g0 g1 g2 g3 (by omega) _ (Lib.hid rfl) _ _ _ (Lib.hid HZ) SE MV (Lib.hid ME) (Lib.hid HY) y2
  · exact members_7 n2 n2 ao bo l.length cap m.length cb i j c dao dl dc po ps.length pc w g0 g1 g2 g3 (by omega) _ (Lib.hid rfl) _ _ _ _ (Lib.hid HZ) SE MV (Lib.hid ME) (Lib.hid HY)
end Go.Proofs.Ytbnebinpemejlaa
