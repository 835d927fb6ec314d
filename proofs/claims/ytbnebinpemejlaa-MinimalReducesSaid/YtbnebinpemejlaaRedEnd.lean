/- For every zone, valid or not, the law MinimalReduces of layer 4 returns true, and its argument reads afterwards as it read before. Conditions: none beyond the row's own. -/
import Derived.Test.YtbnebinpemejlaaRed1

namespace Go.Proofs.Ytbnebinpemejlaa
open Go.ChangeShapes Go.WideShapes Go.ChangeAt Go.RowKit

set_option maxRecDepth 100000 in
/-- A zone by value, and that nil has no capacity. -/
theorem open_zone0 {H : Type} {enc : TypeId × Value → H} {W : World} {base : Nat} {sp : Nat → Bool} {held : Bool} {r : Reach} {b0 : Nat} {v : Value} {d : DataW H} {p : List MemPlace}
    (hv : Value.okWide Try.prog W r b0 25 v) (h : DataW.Trod enc Try.prog W base sp held 25 v d p) :
    ∃ (N : Int) (ao : Option Addr) (l : List Int) (cap : Nat), v = .agg #[.int .i64 N, .slice ao l.length cap] ∧ I64 N ∧ Arg W ao l ∧ l.length ≤ maxLen ∧ (ao = none → l = [] ∧ cap = 0) := by
  obtain ⟨v0, v1, y0, y1, n, rfl, _, _, h0, h1⟩ := Joins.open_agg2 Try.underlying25 (by kernel_rfl) Try.cells25 hv h
  obtain ⟨N, e0, _, w0⟩ := DataW.trod_int Try.underlying3 h0
  simp at e0
  rcases open_ints Try.underlying22 Try.underlying43 Try.cells43 h1 with ⟨e, _⟩ | ⟨a, len, cap, zs, e, _, hl, hm, hz, _, hc, _⟩
  · simp at e
    exact ⟨N, none, [], 0, by rw [e0, e]; rfl, wf_i64 w0, fun q => absurd rfl q, by simp, fun _ => ⟨rfl, rfl⟩⟩
  · simp at e
    have hlen : len ≤ zs.length := by rw [hz]; split <;> omega
    refine ⟨N, some a, zs.take len, cap, by rw [e0, e]; simp [hlen], wf_i64 w0, fun _ => ⟨a, rfl, fun j hj => ?_⟩, by simp; omega, fun q => by cases q⟩
    simp at hj
    rw [hc j (by omega)]
    simp [Zo.gt, show j < len by omega]

theorem reduces_any (N : Int) (l : List Int) (ao : Option Addr) (cap : Nat) (w : World) (hA : Arg w ao l) (h0 : ao = none → l = [] ∧ cap = 0) :
    Calls Try.prog 9 #[.agg #[.int .i64 N, .slice ao l.length cap]] w (Made (.bool true) w) := by
  by_cases hl : 200 < l.length
  · exact reduces_long N ao l.length cap w hl
  · cases ao with
    | none =>
      obtain ⟨h1, rfl⟩ := h0 rfl
      exact reduces_nil N l h1 w
    | some a =>
      by_cases he : l = []
      · exact reduces_fit N l he a cap w
      · obtain ⟨b, h1, h2⟩ := hA he
        obtain rfl := Option.some.inj h1
        exact reduces_grow N l a cap w hA h2 (by omega) (List.length_pos_iff.2 he)

set_option maxRecDepth 100000 in
theorem reduces_lifted (os : Os) (started : os.Started) (H : Type) (enc : TypeId × Value → H) :
    ReturnsInHanded {} Try.checked os 9 .any (Rows.minimalReducesSpec.pre6 enc Try.prog Try.f9 Rows.minimalReducesRow.domain false) (Rows.minimalReducesSpec.post enc Try.prog Try.f9 false true false false) := by
  refine returnsInHanded_of_change (C := Try.checked) Try.own started (by kernel_rfl) Try.func9
    (ChangeSpec.witness6 (enc := enc) (C := Try.checked) false ⟨#[], #[.agg #[.int .i64 0, .slice none 0 0]], []⟩ 8 (by kernel_rfl) (by kernel_rfl) (by kernel_rfl) (by kernel_rfl)) ?_
  intro W base args ds gs before hval0 hW hcnd _
  have hval : ∀ (j : Nat) t v, Try.f9.params[j]? = some t → args[j]? = some v → Value.okWide Try.prog W .any base t v := hval0
  have hW' := hW
  obtain ⟨p, q, hA0, hV, rfl, hfz, hnd⟩ := hW
  have hA : DataW.TrodAll enc Try.prog W 0 (fun _ => true) true Try.f9.params.toList args.toList ds p := hA0
  rw [Try.params9] at hA hval
  obtain ⟨v0, d0, rfl, rfl, h0⟩ := trodAll_one hA
  obtain ⟨N, ao, l, cap, rfl, _, hD, _, hn⟩ := open_zone0 (hval 0 25 v0 rfl rfl) h0
  clear hA0 hval0
  obtain ⟨rfl, rfl⟩ := trodVars_none hV
  refine (reduces_any N l ao cap W hD hn).mono fun e W' ⟨he, hb⟩ => ?_
  subst he
  exact ⟨_, rfl, post_law hW' rfl hb (by decide +kernel) rfl rfl rfl rfl rfl rfl⟩

theorem reduces_holds : Rows.MinimalReducesSaid :=
  OpenClaim.holds_of_wide 9 Try.f9 rfl rfl rfl rfl rfl rfl rfl ⟨rfl, rfl, rfl, rfl, rfl⟩ rfl rfl rfl rfl rfl (by kernel_rfl) Try.func9 (by kernel_rfl)
    (of_decide_eq_true (by kernel_rfl)) (by unfold Func.isWrapper; first | (rw [if_pos (by decide +kernel)]; kernel_rfl) | (rw [if_neg (by decide +kernel)]; exact ⟨rfl, rfl⟩))
    (fun os started H enc _ => reduces_lifted os started H enc)

#print axioms reduces_holds
end Go.Proofs.Ytbnebinpemejlaa
