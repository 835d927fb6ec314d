/-
  No cell of these rows narrows 'for every input' (looked for: loops, veiled, ifaces, maps, wideKeys, modest, calm, conditions, laid).
  DERIVED. THE GIVEN ROWS OF THIS SEAT. 5 by the template 'for every input the law returns true; each argument reads behind the call as it read before'; 0 by the template 'total and deterministic' (their statements: YthjapmdfcbngmaaGreatTotals.lean).
  GIVEN WITH THE SEED: the statements are not yours to turn. If you find one false, say at which input.
  Laid BY PROGRAM, IN A SANDBOX (cutbox-rows.mjs): the forced cells as the released guide's own fill.sh prints them over the translation 089d51fa6973c253… (all of the seat's roots in one cut). By AI agents, Wed Nov 11 2026. No macro, syntax, notation, axiom, sorry.
-/
import Derived.Test.YthjapmdfcbngmaaGreatChecked
import GoSem.Claim
import GoSem.ClaimJoined
import GoSem.ClaimMapViews
import Derived.JoinedTies
import Derived.KernelRfl
namespace Go.Proofs.YthjapmdfcbngmaaGreat
/- THE CELL 'sum', in the pinned program and in every row, IS THE sha256 OF THE DUMP (.gsa) THAT YthjapmdfcbngmaaGreatProg.lean LOADS. Nothing in Lean hashes anything: it is a label: what it is worth is what the hold of that sum in a sandbox is worth. -/
noncomputable def Tryz.pinned : Pinned := { name := "ythjapmdfcbngmaagreat", sum := "089d51fa6973c253e919ec5ec82d3118157ddf3e27f8130056568e39eb7087de", checked := Tryz.checked }
namespace Rows
def none {H : Type} : Left H := { results := [], args := [] }

/-- 'foliotlaw05.FederationSets': WHATEVER THE INPUT: true; the input reads as it did. -/
def federationSetsSpec : ChangeSpec := { name := "federationSets", fn := fun _ => fun
  | [d1, d2] => { results := [.lit (.bool true)], args := [d1, d2] }
  | _ => none }
def federationSetsRow : OpenClaim := { program := "ythjapmdfcbngmaagreat", sum := "089d51fa6973c253e919ec5ec82d3118157ddf3e27f8130056568e39eb7087de", func := "foliot/foliotlaw05.FederationSets", spec := "federationSets", unfollowed := true, recurses := true, apart := false }
def FederationSetsSaid : Prop := federationSetsRow.holds Tryz.pinned (OpenSpec.ofChange federationSetsSpec)

/-- ITS FALSE NEIGHBOUR: 'it returns false'. Refute it at one input. -/
def federationSetsWrong : ChangeSpec := { name := "federationSets", fn := fun _ => fun
  | [d1, d2] => { results := [.lit (.bool false)], args := [d1, d2] }
  | _ => none }
def FederationSetsWrongFalsely : Prop := federationSetsRow.holds Tryz.pinned (OpenSpec.ofChange federationSetsWrong)

/-- 'foliotlaw05.FederationLists': WHATEVER THE INPUT: true; the input reads as it did. -/
def federationListsSpec : ChangeSpec := { name := "federationLists", fn := fun _ => fun
  | [d] => { results := [.lit (.bool true)], args := [d] }
  | _ => none }
def federationListsRow : OpenClaim := { program := "ythjapmdfcbngmaagreat", sum := "089d51fa6973c253e919ec5ec82d3118157ddf3e27f8130056568e39eb7087de", func := "foliot/foliotlaw05.FederationLists", spec := "federationLists", unfollowed := true, recurses := true, apart := false }
def FederationListsSaid : Prop := federationListsRow.holds Tryz.pinned (OpenSpec.ofChange federationListsSpec)

/-- ITS FALSE NEIGHBOUR: 'it returns false'. Refute it at one input. -/
def federationListsWrong : ChangeSpec := { name := "federationLists", fn := fun _ => fun
  | [d] => { results := [.lit (.bool false)], args := [d] }
  | _ => none }
def FederationListsWrongFalsely : Prop := federationListsRow.holds Tryz.pinned (OpenSpec.ofChange federationListsWrong)

/-- 'foliotlaw05.FederationWithins': WHATEVER THE INPUT: true; the input reads as it did. -/
def federationWithinsSpec : ChangeSpec := { name := "federationWithins", fn := fun _ => fun
  | [d1, d2] => { results := [.lit (.bool true)], args := [d1, d2] }
  | _ => none }
def federationWithinsRow : OpenClaim := { program := "ythjapmdfcbngmaagreat", sum := "089d51fa6973c253e919ec5ec82d3118157ddf3e27f8130056568e39eb7087de", func := "foliot/foliotlaw05.FederationWithins", spec := "federationWithins", unfollowed := true, recurses := true, apart := false }
def FederationWithinsSaid : Prop := federationWithinsRow.holds Tryz.pinned (OpenSpec.ofChange federationWithinsSpec)

/-- ITS FALSE NEIGHBOUR: 'it returns false'. Refute it at one input. -/
def federationWithinsWrong : ChangeSpec := { name := "federationWithins", fn := fun _ => fun
  | [d1, d2] => { results := [.lit (.bool false)], args := [d1, d2] }
  | _ => none }
def FederationWithinsWrongFalsely : Prop := federationWithinsRow.holds Tryz.pinned (OpenSpec.ofChange federationWithinsWrong)

/-- 'foliotlaw05.FederationPoints': WHATEVER THE INPUT: true; the input reads as it did. -/
def federationPointsSpec : ChangeSpec := { name := "federationPoints", fn := fun _ => fun
  | [d1, d2, d3] => { results := [.lit (.bool true)], args := [d1, d2, d3] }
  | _ => none }
def federationPointsRow : OpenClaim := { program := "ythjapmdfcbngmaagreat", sum := "089d51fa6973c253e919ec5ec82d3118157ddf3e27f8130056568e39eb7087de", func := "foliot/foliotlaw05.FederationPoints", spec := "federationPoints", unfollowed := true, recurses := true, apart := false }
def FederationPointsSaid : Prop := federationPointsRow.holds Tryz.pinned (OpenSpec.ofChange federationPointsSpec)

/-- ITS FALSE NEIGHBOUR: 'it returns false'. Refute it at one input. -/
def federationPointsWrong : ChangeSpec := { name := "federationPoints", fn := fun _ => fun
  | [d1, d2, d3] => { results := [.lit (.bool false)], args := [d1, d2, d3] }
  | _ => none }
def FederationPointsWrongFalsely : Prop := federationPointsRow.holds Tryz.pinned (OpenSpec.ofChange federationPointsWrong)

/-- 'foliotlaw05.FederationRaces': WHATEVER THE INPUT: true; the input reads as it did. -/
def federationRacesSpec : ChangeSpec := { name := "federationRaces", fn := fun _ => fun
  | [d1, d2, d3] => { results := [.lit (.bool true)], args := [d1, d2, d3] }
  | _ => none }
def federationRacesRow : OpenClaim := { program := "ythjapmdfcbngmaagreat", sum := "089d51fa6973c253e919ec5ec82d3118157ddf3e27f8130056568e39eb7087de", func := "foliot/foliotlaw05.FederationRaces", spec := "federationRaces", unfollowed := true, recurses := true, apart := false }
def FederationRacesSaid : Prop := federationRacesRow.holds Tryz.pinned (OpenSpec.ofChange federationRacesSpec)

/-- ITS FALSE NEIGHBOUR: 'it returns false'. Refute it at one input. -/
def federationRacesWrong : ChangeSpec := { name := "federationRaces", fn := fun _ => fun
  | [d1, d2, d3] => { results := [.lit (.bool false)], args := [d1, d2, d3] }
  | _ => none }
def FederationRacesWrongFalsely : Prop := federationRacesRow.holds Tryz.pinned (OpenSpec.ofChange federationRacesWrong)

/- THE SECOND FORM. 'bulk': how many values and letters a reading holds, each counted each time it is reached (what is shared counts as often as it is met; a slice's spare places count too). A statement '..UptoSaid' is the law's where the arguments, and the package variables that the reading takes, are together of bulk at most 1048576: NARROWER than '..Said'. Prove '..Said' where nothing that the law and all that it calls make is longer than what came in: it says more and counts as full. Else prove '..UptoSaid'. A law counts once. -/
mutual
def uptoBulk {H : Type} : DataW H → Nat
  | .lit (.string bytes) => bytes.length + 1
  | .lit _ => 1
  | .nil => 1
  | .ptr d => uptoBulk d + 1
  | .slice elems spare => uptoBulkAll elems + uptoBulkAll spare + 1
  | .agg parts => uptoBulkAll parts + 1
  | .iface _ d => uptoBulk d + 1
  | .map entries => uptoBulkEntries entries + 1
  | .held _ => 1
def uptoBulkAll {H : Type} : List (DataW H) → Nat
  | [] => 0
  | d :: r => uptoBulk d + uptoBulkAll r
def uptoBulkEntries {H : Type} : List (Lit × DataW H) → Nat
  | [] => 0
  | x :: r => uptoBulkEntry x + uptoBulkEntries r
def uptoBulkEntry {H : Type} : Lit × DataW H → Nat
  | (.string bytes, d) => bytes.length + uptoBulk d + 1
  | (_, d) => uptoBulk d + 1
 end
def uptoSmall : (H : Type) → List (DataW H) → Bool := fun _ ds => decide (uptoBulkAll ds ≤ 1048576)
def OpenSpec.upto (s : _root_.Go.ChangeSpec) : _root_.Go.OpenSpec := { _root_.Go.OpenSpec.ofChange s with cond := some uptoSmall }

/-- 'foliotlaw05.FederationSets', WHERE WHAT IT READS IS OF BULK AT MOST 1048576: true; the input reads as it did. -/
def federationSetsUptoRow : OpenClaim := { program := "ythjapmdfcbngmaagreat", sum := "089d51fa6973c253e919ec5ec82d3118157ddf3e27f8130056568e39eb7087de", func := "foliot/foliotlaw05.FederationSets", spec := "federationSets", unfollowed := true, recurses := true, apart := false, narrowed := true }
def FederationSetsUptoSaid : Prop := federationSetsUptoRow.holds Tryz.pinned (OpenSpec.upto federationSetsSpec)

/-- 'foliotlaw05.FederationLists', WHERE WHAT IT READS IS OF BULK AT MOST 1048576: true; the input reads as it did. -/
def federationListsUptoRow : OpenClaim := { program := "ythjapmdfcbngmaagreat", sum := "089d51fa6973c253e919ec5ec82d3118157ddf3e27f8130056568e39eb7087de", func := "foliot/foliotlaw05.FederationLists", spec := "federationLists", unfollowed := true, recurses := true, apart := false, narrowed := true }
def FederationListsUptoSaid : Prop := federationListsUptoRow.holds Tryz.pinned (OpenSpec.upto federationListsSpec)

/-- 'foliotlaw05.FederationWithins', WHERE WHAT IT READS IS OF BULK AT MOST 1048576: true; the input reads as it did. -/
def federationWithinsUptoRow : OpenClaim := { program := "ythjapmdfcbngmaagreat", sum := "089d51fa6973c253e919ec5ec82d3118157ddf3e27f8130056568e39eb7087de", func := "foliot/foliotlaw05.FederationWithins", spec := "federationWithins", unfollowed := true, recurses := true, apart := false, narrowed := true }
def FederationWithinsUptoSaid : Prop := federationWithinsUptoRow.holds Tryz.pinned (OpenSpec.upto federationWithinsSpec)

/-- 'foliotlaw05.FederationPoints', WHERE WHAT IT READS IS OF BULK AT MOST 1048576: true; the input reads as it did. -/
def federationPointsUptoRow : OpenClaim := { program := "ythjapmdfcbngmaagreat", sum := "089d51fa6973c253e919ec5ec82d3118157ddf3e27f8130056568e39eb7087de", func := "foliot/foliotlaw05.FederationPoints", spec := "federationPoints", unfollowed := true, recurses := true, apart := false, narrowed := true }
def FederationPointsUptoSaid : Prop := federationPointsUptoRow.holds Tryz.pinned (OpenSpec.upto federationPointsSpec)

/-- 'foliotlaw05.FederationRaces', WHERE WHAT IT READS IS OF BULK AT MOST 1048576: true; the input reads as it did. -/
def federationRacesUptoRow : OpenClaim := { program := "ythjapmdfcbngmaagreat", sum := "089d51fa6973c253e919ec5ec82d3118157ddf3e27f8130056568e39eb7087de", func := "foliot/foliotlaw05.FederationRaces", spec := "federationRaces", unfollowed := true, recurses := true, apart := false, narrowed := true }
def FederationRacesUptoSaid : Prop := federationRacesUptoRow.holds Tryz.pinned (OpenSpec.upto federationRacesSpec)

end Rows
end Go.Proofs.YthjapmdfcbngmaaGreat
