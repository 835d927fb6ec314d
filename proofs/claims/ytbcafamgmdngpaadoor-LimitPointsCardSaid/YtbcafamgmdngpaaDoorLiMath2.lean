/- Plain mathematics of limits: sums are commutative, associative where they are in range, and grow with the limits; the opposite of the opposite is the limit. Nothing of the program is named here. -/
import Derived.Test.YtbcafamgmdngpaaDoorLiMath
namespace Go.Proofs.YtbcafamgmdngpaaDoor

theorem noB_iff {l : Int} : noB l = true ↔ l = 1099511627776 := by unfold noB; simp

theorem ad_comm (x y : Int) : adL x y = adL y x ∧ adE x y = adE y x := by
  unfold adL adE
  rw [Bool.and_comm (lvB x), Bool.or_comm (noB x), Int.add_comm (x / 2), Bool.or_comm (evB x)]
  exact ⟨rfl, rfl⟩

theorem lv_noL : lvB 1099511627776 = true := by decide

theorem no_noL : noB 1099511627776 = true := by decide

theorem lv_bd {l : Int} (h : lvB l = true) : -2147483648 ≤ l ∧ l ≤ 1099511627776 := by
  unfold lvB at h; simp at h; omega

theorem jn_zero {c : Int} (h : jnE c = 0) : -1073741824 ≤ c ∧ c ≤ 1073741824 := by
  unfold jnE at h; split at h
  · assumption
  · omega

theorem jn_val {c : Int} (s : Bool) (h1 : -1073741824 ≤ c) (h2 : c ≤ 1073741824) : jnL c s = 2 * c + (if s then 0 else 1) := by
  unfold jnL; rw [if_pos ⟨h1, h2⟩]; cases s <;> simp

/-- A sum of two limits that is in range. -/
theorem ad_ok {x y : Int} (vx : lvB x = true) (vy : lvB y = true) (nx : noB x = false) (ny : noB y = false) (e : adE x y = 0) :
    lvB (adL x y) = true ∧ noB (adL x y) = false ∧ adL x y / 2 = x / 2 + y / 2 ∧ evB (adL x y) = (evB x || evB y) ∧ adL x y = 2 * (x / 2 + y / 2) + (if evB x || evB y then 0 else 1) := by
  obtain ⟨hL, hE⟩ := ad_some vx vy nx ny
  rw [hE] at e
  obtain ⟨c1, c2⟩ := jn_zero e
  have hv := jn_val (evB x || evB y) c1 c2
  rw [← hL] at hv
  rw [hv]
  generalize x / 2 + y / 2 = c at *
  generalize (evB x || evB y) = s at *
  cases s
  · unfold lvB noB evB; simp; omega
  · unfold lvB noB evB; simp; omega

theorem ad_E {x y : Int} (vx : lvB x = true) (vy : lvB y = true) : adE x y = 0 ∨ adE x y = 7 := by
  cases nx : noB x
  · cases ny : noB y
    · rw [(ad_some vx vy nx ny).2]; unfold jnE; split <;> simp
    · exact Or.inl (ad_none vx vy (by simp [ny])).2
  · exact Or.inl (ad_none vx vy (by simp [nx])).2

theorem ad_lv {x y : Int} (vx : lvB x = true) (vy : lvB y = true) (e : adE x y = 0) : lvB (adL x y) = true := by
  cases nx : noB x
  · cases ny : noB y
    · exact (ad_ok vx vy nx ny e).1
    · rw [(ad_none vx vy (by simp [ny])).1]; exact lv_noL
  · rw [(ad_none vx vy (by simp [nx])).1]; exact lv_noL

theorem ad_bd (x y : Int) : -9223372036854775808 ≤ adL x y ∧ adL x y ≤ 9223372036854775807 := by
  unfold adL
  split
  · split
    · omega
    · unfold jnL; split
      · split <;> omega
      · omega
  · omega

theorem ad_assoc {x y z : Int} (vx : lvB x = true) (vy : lvB y = true) (vz : lvB z = true) (e : adE x y = 0) (g : adE y z = 0) :
    adL (adL x y) z = adL x (adL y z) ∧ adE (adL x y) z = adE x (adL y z) := by
  have vA := ad_lv vx vy e
  have vC := ad_lv vy vz g
  cases nx : noB x
  · cases ny : noB y
    · cases nz : noB z
      · obtain ⟨_, nA, dA, eA, _⟩ := ad_ok vx vy nx ny e
        obtain ⟨_, nC, dC, eC, _⟩ := ad_ok vy vz ny nz g
        obtain ⟨l1, l2⟩ := ad_some vA vz nA nz
        obtain ⟨r1, r2⟩ := ad_some vx vC nx nC
        rw [l1, l2, r1, r2, dA, dC, eA, eC, Int.add_assoc, Bool.or_assoc]
        exact ⟨rfl, rfl⟩
      · have hC := (ad_none vy vz (by simp [nz])).1
        rw [hC] at vC ⊢
        obtain ⟨l1, l2⟩ := ad_none vA vz (by simp [nz])
        obtain ⟨r1, r2⟩ := ad_none vx vC (by simp [no_noL])
        rw [l1, l2, r1, r2]; exact ⟨rfl, rfl⟩
    · have hC := (ad_none vy vz (by simp [ny])).1
      have hA := (ad_none vx vy (by simp [ny])).1
      rw [hC] at vC ⊢
      rw [hA] at vA ⊢
      obtain ⟨l1, l2⟩ := ad_none vA vz (by simp [no_noL])
      obtain ⟨r1, r2⟩ := ad_none vx vC (by simp [no_noL])
      rw [l1, l2, r1, r2]; exact ⟨rfl, rfl⟩
  · have hA := (ad_none vx vy (by simp [nx])).1
    rw [hA] at vA ⊢
    obtain ⟨l1, l2⟩ := ad_none vA vz (by simp [no_noL])
    obtain ⟨r1, r2⟩ := ad_none vx vC (by simp [nx])
    rw [l1, l2, r1, r2]; exact ⟨rfl, rfl⟩

theorem ad_mono {x y z : Int} (vx : lvB x = true) (vy : lvB y = true) (vz : lvB z = true) (e : adE x y = 0) (g : adE x z = 0) (h : y ≤ z) : adL x y ≤ adL x z := by
  have bA := lv_bd (ad_lv vx vy e)
  cases nx : noB x
  · cases nz : noB z
    · have ny : noB y = false := by
        unfold noB at nz ⊢; unfold lvB at vz; simp at nz vz ⊢; omega
      obtain ⟨_, _, _, _, hA⟩ := ad_ok vx vy nx ny e
      obtain ⟨_, _, _, _, hD⟩ := ad_ok vx vz nx nz g
      rw [hA, hD]
      unfold evB
      by_cases x2 : x % 2 = 0
      · simp [x2]; omega
      · by_cases y2 : y % 2 = 0
        · by_cases z2 : z % 2 = 0
          · simp [x2, y2, z2]; omega
          · simp [x2, y2, z2]; omega
        · by_cases z2 : z % 2 = 0
          · simp [x2, y2, z2]; omega
          · simp [x2, y2, z2]; omega
    · rw [(ad_none vx vz (by simp [nz])).1]; exact bA.2
  · rw [(ad_none vx vz (by simp [nx])).1]; exact bA.2

theorem nt_val {x : Int} (vx : lvB x = true) (nx : noB x = false) : ntL x = 1 - x ∧ spE x = 0 := by simp [ntL, spE, vx, nx]

theorem nt_lv {x : Int} (vx : lvB x = true) (nx : noB x = false) : lvB (1 - x) = true ∧ noB (1 - x) = false := by
  unfold lvB at vx ⊢; unfold noB at nx ⊢; simp at vx nx ⊢; omega

theorem nt_nt {x : Int} (vx : lvB x = true) (nx : noB x = false) : ntL (1 - x) = x ∧ spE (1 - x) = 0 := by
  obtain ⟨h, g⟩ := nt_lv vx nx
  have := nt_val h g
  refine ⟨by rw [this.1]; omega, this.2⟩
end Go.Proofs.YtbcafamgmdngpaaDoor
