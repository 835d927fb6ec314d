/- Plain mathematics of limits: what the functions of package limit return, as numbers. Nothing of the program is named here. -/
namespace Go.Proofs.YtbcafamgmdngpaaDoor

/-- A limit is 1099511627776 (none), or 2 c or 2 c + 1 for a constant c from -1073741824 to 1073741824. -/
def lvB (l : Int) : Bool := decide (l = 1099511627776 ∨ (-2147483648 ≤ l ∧ l ≤ 2147483649))

def noB (l : Int) : Bool := decide (l = 1099511627776)

def evB (l : Int) : Bool := decide (l % 2 = 0)

def jnL (c : Int) (s : Bool) : Int := if -1073741824 ≤ c ∧ c ≤ 1073741824 then (if s then 2 * c else 2 * c + 1) else 0

def jnE (c : Int) : Int := if -1073741824 ≤ c ∧ c ≤ 1073741824 then 0 else 7

def spC (l : Int) : Int := if lvB l && !noB l then l / 2 else 0

def spS (l : Int) : Bool := lvB l && !noB l && evB l

def spE (l : Int) : Int := if lvB l then (if noB l then 4 else 0) else 2

def adL (a b : Int) : Int := if lvB a && lvB b then (if noB a || noB b then 1099511627776 else jnL (a / 2 + b / 2) (evB a || evB b)) else 0

def adE (a b : Int) : Int := if lvB a && lvB b then (if noB a || noB b then 0 else jnE (a / 2 + b / 2)) else 2

def ntL (a : Int) : Int := if lvB a && !noB a then 1 - a else 0

theorem lvB_no {l : Int} (h : l ≠ 1099511627776) (g : l < -2147483648 ∨ 2147483649 < l) : lvB l = false := by unfold lvB; simp; omega

theorem lvB_yes {l : Int} (h : l = 1099511627776 ∨ (-2147483648 ≤ l ∧ l ≤ 2147483649)) : lvB l = true := by unfold lvB; simpa using h

theorem lvB_cases (l : Int) : (lvB l = false ∧ noB l = false ∧ l ≠ 1099511627776 ∧ (l < -2147483648 ∨ 2147483649 < l)) ∨ (l = 1099511627776 ∧ lvB l = true ∧ noB l = true) ∨ (lvB l = true ∧ noB l = false ∧ l ≠ 1099511627776 ∧ -2147483648 ≤ l ∧ l ≤ 2147483649) := by
  unfold lvB noB
  by_cases h : l = 1099511627776
  · simp [h]
  · simp [h]; omega

theorem ad_bad1 {a : Int} (b : Int) (h : lvB a = false) : adL a b = 0 ∧ adE a b = 2 := by simp [adL, adE, h]

theorem ad_bad2 (a : Int) {b : Int} (h : lvB b = false) : adL a b = 0 ∧ adE a b = 2 := by simp [adL, adE, h]

theorem ad_none {a b : Int} (h : lvB a = true) (g : lvB b = true) (k : (noB a || noB b) = true) : adL a b = 1099511627776 ∧ adE a b = 0 := by simp only [adL, adE, h, g, k]; simp

theorem ad_some {a b : Int} (h : lvB a = true) (g : lvB b = true) (k : noB a = false) (l : noB b = false) : adL a b = jnL (a / 2 + b / 2) (evB a || evB b) ∧ adE a b = jnE (a / 2 + b / 2) := by simp [adL, adE, h, g, k, l]

theorem nt_some {a : Int} (h : lvB a = true) (k : noB a = false) (a1 : -2147483648 ≤ a) (a2 : a ≤ 2147483649) : ntL a = jnL (-(a / 2)) (!evB a) ∧ spE a = jnE (-(a / 2)) := by
  rw [show ntL a = 1 - a by simp [ntL, h, k], show spE a = 0 by simp [spE, h, k]]
  unfold jnL jnE evB
  rw [if_pos (And.intro (by omega) (by omega)), if_pos (And.intro (by omega) (by omega))]
  by_cases e : a % 2 = 0
  · simp [e]; omega
  · simp [e]; omega
end Go.Proofs.YtbcafamgmdngpaaDoor
