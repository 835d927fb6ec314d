/- An argument that is an array of two ratios: opened, and shut again. -/
import Derived.Test.YtbcafamgmdngpaaDoorK
namespace Go.Proofs.YtbcafamgmdngpaaDoor
open Go.ChangeShapes Go.WideShapes Go.ChangeAt Go.RowKit Go.Joins

theorem Tryd.cells42 : Tryd.prog.cellsOf 42 = 4 := by kernel_rfl

theorem open_rr {H : Type} {enc : TypeId × Value → H} {W : World} {base : Nat} {sp : Nat → Bool} {held : Bool} {r : Reach} {b0 : Nat} {v : Value} {d : DataW H} {p : List MemPlace}
    (hv : Value.okWide Tryd.prog W r b0 42 v) (h : DataW.Trod enc Tryd.prog W base sp held 42 v d p) :
    ∃ a0 a1 a2 a3 : Int, v = .agg #[.int .i64 a0, .int .i64 a1, .int .i64 a2, .int .i64 a3] ∧ d = .agg [.agg [.lit (.int .i64 a0), .lit (.int .i64 a1)], .agg [.lit (.int .i64 a2), .lit (.int .i64 a3)]] ∧ p = [] ∧
      (Lit.int .i64 a0).wf = true ∧ (Lit.int .i64 a1).wf = true ∧ (Lit.int .i64 a2).wf = true ∧ (Lit.int .i64 a3).wf = true := by
  simp only [Value.okWide, Tryd.underlying42] at hv
  obtain ⟨cs, rfl, hsz, _⟩ := hv
  obtain ⟨c0, c1, c2, c3, rfl⟩ := array4 (hsz.trans Tryd.cells42)
  obtain ⟨fuel, hf⟩ := h
  cases fuel with
  | zero => simp [DataW.trod] at hf
  | succ n =>
    have hf' : DataW.trod enc Tryd.prog W base sp held (n + 1) 42 [c0, c1, c2, c3] = some (d, p) := by simpa [Value.cells] using hf
    unfold DataW.trod at hf'
    rw [Tryd.underlying42] at hf'
    have r2 : List.range 2 = [0, 1] := rfl
    simp [r2, Tryd.cells37, Tryd.cells42] at hf'
    cases h0 : DataW.trod enc Tryd.prog W base sp held n 37 [c0, c1] with
    | none => simp [h0] at hf'
    | some y0 =>
      cases h1 : DataW.trod enc Tryd.prog W base sp held n 37 [c2, c3] with
      | none => simp [h0, h1] at hf'
      | some y1 =>
        simp [h0, h1] at hf'
        obtain ⟨z0, z1, k, rfl, _, g0, g1⟩ := trod_struct2 Tryd.underlying37 h0
        obtain ⟨z2, z3, k', rfl, _, g2, g3⟩ := trod_struct2 Tryd.underlying37 h1
        simp [Tryd.cells2] at g0 g1 g2 g3
        obtain ⟨a0, e0, rfl, w0⟩ := DataW.trod_int Tryd.underlying2 g0
        obtain ⟨a1, e1, rfl, w1⟩ := DataW.trod_int Tryd.underlying2 g1
        obtain ⟨a2, e2, rfl, w2⟩ := DataW.trod_int Tryd.underlying2 g2
        obtain ⟨a3, e3, rfl, w3⟩ := DataW.trod_int Tryd.underlying2 g3
        simp at e0 e1 e2 e3
        subst e0 e1 e2 e3
        simp at hf'
        exact ⟨a0, a1, a2, a3, rfl, hf'.1.symm, hf'.2, w0, w1, w2, w3⟩

theorem shut_rr {H : Type} {enc : TypeId × Value → H} {W : World} {base : Nat} {sp : Nat → Bool} {held : Bool} {a0 a1 a2 a3 : Int}
    (w0 : (Lit.int .i64 a0).wf = true) (w1 : (Lit.int .i64 a1).wf = true) (w2 : (Lit.int .i64 a2).wf = true) (w3 : (Lit.int .i64 a3).wf = true) :
    DataW.Trod enc Tryd.prog W base sp held 42 (.agg #[.int .i64 a0, .int .i64 a1, .int .i64 a2, .int .i64 a3]) (.agg [.agg [.lit (.int .i64 a0), .lit (.int .i64 a1)], .agg [.lit (.int .i64 a2), .lit (.int .i64 a3)]]) [] := by
  refine ⟨3, ?_⟩
  have r2 : List.range 2 = [0, 1] := rfl
  simp [Value.cells, DataW.trod, Tryd.underlying42, Tryd.underlying37, Tryd.underlying2, r2, Tryd.cells37, Tryd.cells42, Tryd.cells2, w0, w1, w2, w3]
end Go.Proofs.YtbcafamgmdngpaaDoor
