/-
  No cell of these rows narrows 'for every input' (looked for: loops, veiled, ifaces, maps, wideKeys, modest, calm, conditions, laid).
  DERIVED. THE GIVEN ROWS OF THIS SEAT. 4 by the template 'for every input the law returns true; each argument reads behind the call as it read before'; 0 by the template 'total and deterministic' (their statements: YtjfhjckacfkpoaaTotals.lean).
  GIVEN WITH THE SEED: the statements are not yours to turn. If you find one false, say at which input.
  Laid BY PROGRAM, IN A SANDBOX (cutbox-rows.mjs): the forced cells as the released guide's own fill.sh prints them over the translation 6b82926fb16035bb… (all of the seat's roots in one cut). By AI agents, Wed Nov 11 2026. No macro, syntax, notation, axiom, sorry.
-/
import Derived.Test.YtjfhjckacfkpoaaChecked
import GoSem.Claim
import GoSem.ClaimJoined
import GoSem.ClaimMapViews
import Derived.JoinedTies
import Derived.KernelRfl
namespace Go.Proofs.Ytjfhjckacfkpoaa
/- THE CELL 'sum', in the pinned program and in every row, IS THE sha256 OF THE DUMP (.gsa) THAT YtjfhjckacfkpoaaProg.lean LOADS. Nothing in Lean hashes anything: it is a label: what it is worth is what the hold of that sum in a sandbox is worth. -/
noncomputable def Try.pinned : Pinned := { name := "ytjfhjckacfkpoaa", sum := "6b82926fb16035bb58e46e12718d5f2ab801ca9643a9305fbe904702faf7dbd4", checked := Try.checked }
namespace Rows
def none {H : Type} : Left H := { results := [], args := [] }

/-- 'foliotlaw06.WidenBounds': WHATEVER THE INPUT: true; the input reads as it did. -/
def widenBoundsSpec : ChangeSpec := { name := "widenBounds", fn := fun _ => fun
  | [d1, d2, d3] => { results := [.lit (.bool true)], args := [d1, d2, d3] }
  | _ => none }
def widenBoundsRow : OpenClaim := { program := "ytjfhjckacfkpoaa", sum := "6b82926fb16035bb58e46e12718d5f2ab801ca9643a9305fbe904702faf7dbd4", func := "foliot/foliotlaw06.WidenBounds", spec := "widenBounds", unfollowed := true, recurses := true, apart := false }
def WidenBoundsSaid : Prop := widenBoundsRow.holds Try.pinned (OpenSpec.ofChange widenBoundsSpec)

/-- ITS FALSE NEIGHBOUR: 'it returns false'. Refute it at one input. -/
def widenBoundsWrong : ChangeSpec := { name := "widenBounds", fn := fun _ => fun
  | [d1, d2, d3] => { results := [.lit (.bool false)], args := [d1, d2, d3] }
  | _ => none }
def WidenBoundsWrongFalsely : Prop := widenBoundsRow.holds Try.pinned (OpenSpec.ofChange widenBoundsWrong)

/-- 'foliotlaw06.WidenGrows': WHATEVER THE INPUT: true; the input reads as it did. -/
def widenGrowsSpec : ChangeSpec := { name := "widenGrows", fn := fun _ => fun
  | [d1, d2, d3] => { results := [.lit (.bool true)], args := [d1, d2, d3] }
  | _ => none }
def widenGrowsRow : OpenClaim := { program := "ytjfhjckacfkpoaa", sum := "6b82926fb16035bb58e46e12718d5f2ab801ca9643a9305fbe904702faf7dbd4", func := "foliot/foliotlaw06.WidenGrows", spec := "widenGrows", unfollowed := true, recurses := true, apart := false }
def WidenGrowsSaid : Prop := widenGrowsRow.holds Try.pinned (OpenSpec.ofChange widenGrowsSpec)

/-- ITS FALSE NEIGHBOUR: 'it returns false'. Refute it at one input. -/
def widenGrowsWrong : ChangeSpec := { name := "widenGrows", fn := fun _ => fun
  | [d1, d2, d3] => { results := [.lit (.bool false)], args := [d1, d2, d3] }
  | _ => none }
def WidenGrowsWrongFalsely : Prop := widenGrowsRow.holds Try.pinned (OpenSpec.ofChange widenGrowsWrong)

/-- 'foliotlaw06.WidenCovers': WHATEVER THE INPUT: true; the input reads as it did. -/
def widenCoversSpec : ChangeSpec := { name := "widenCovers", fn := fun _ => fun
  | [d1, d2, d3] => { results := [.lit (.bool true)], args := [d1, d2, d3] }
  | _ => none }
def widenCoversRow : OpenClaim := { program := "ytjfhjckacfkpoaa", sum := "6b82926fb16035bb58e46e12718d5f2ab801ca9643a9305fbe904702faf7dbd4", func := "foliot/foliotlaw06.WidenCovers", spec := "widenCovers", unfollowed := true, recurses := true, apart := false }
def WidenCoversSaid : Prop := widenCoversRow.holds Try.pinned (OpenSpec.ofChange widenCoversSpec)

/-- ITS FALSE NEIGHBOUR: 'it returns false'. Refute it at one input. -/
def widenCoversWrong : ChangeSpec := { name := "widenCovers", fn := fun _ => fun
  | [d1, d2, d3] => { results := [.lit (.bool false)], args := [d1, d2, d3] }
  | _ => none }
def WidenCoversWrongFalsely : Prop := widenCoversRow.holds Try.pinned (OpenSpec.ofChange widenCoversWrong)

/-- 'foliotlaw06.WidenAlike': WHATEVER THE INPUT: true; the input reads as it did. -/
def widenAlikeSpec : ChangeSpec := { name := "widenAlike", fn := fun _ => fun
  | [d1, d2, d3] => { results := [.lit (.bool true)], args := [d1, d2, d3] }
  | _ => none }
def widenAlikeRow : OpenClaim := { program := "ytjfhjckacfkpoaa", sum := "6b82926fb16035bb58e46e12718d5f2ab801ca9643a9305fbe904702faf7dbd4", func := "foliot/foliotlaw06.WidenAlike", spec := "widenAlike", unfollowed := true, recurses := true, apart := false }
def WidenAlikeSaid : Prop := widenAlikeRow.holds Try.pinned (OpenSpec.ofChange widenAlikeSpec)

/-- ITS FALSE NEIGHBOUR: 'it returns false'. Refute it at one input. -/
def widenAlikeWrong : ChangeSpec := { name := "widenAlike", fn := fun _ => fun
  | [d1, d2, d3] => { results := [.lit (.bool false)], args := [d1, d2, d3] }
  | _ => none }
def WidenAlikeWrongFalsely : Prop := widenAlikeRow.holds Try.pinned (OpenSpec.ofChange widenAlikeWrong)

/- THE SECOND FORM. 'bulk': how many values and letters a reading holds, each counted each time it is reached (what is shared counts as often as it is met; a slice's spare places count too). A statement '..UptoSaid' is the law's where the arguments, and the package variables that the reading takes, are together of bulk at most 1048576: NARROWER than '..Said'. Prove '..Said' where nothing that the law and all that it calls make is longer than what came in: it says more and counts as full. Else prove '..UptoSaid'. A law counts once. -/
mutual
def uptoBulk {H : Type} : DataW H → Nat
  | .lit (.string bytes) => bytes.length + 1
  | .lit _ => 1
  | .nil => 1
  | .ptr d => uptoBulk d + 1
  | .slice elems spare => uptoBulkAll elems + uptoBulkAll spare + 1
  | .agg parts => uptoBulkAll parts + 1
  | .iface _ d => uptoBulk d + 1
  | .map entries => uptoBulkEntries entries + 1
  | .held _ => 1
def uptoBulkAll {H : Type} : List (DataW H) → Nat
  | [] => 0
  | d :: r => uptoBulk d + uptoBulkAll r
def uptoBulkEntries {H : Type} : List (Lit × DataW H) → Nat
  | [] => 0
  | x :: r => uptoBulkEntry x + uptoBulkEntries r
def uptoBulkEntry {H : Type} : Lit × DataW H → Nat
  | (.string bytes, d) => bytes.length + uptoBulk d + 1
  | (_, d) => uptoBulk d + 1
 end
def uptoSmall : (H : Type) → List (DataW H) → Bool := fun _ ds => decide (uptoBulkAll ds ≤ 1048576)
def OpenSpec.upto (s : _root_.Go.ChangeSpec) : _root_.Go.OpenSpec := { _root_.Go.OpenSpec.ofChange s with cond := some uptoSmall }

/-- 'foliotlaw06.WidenBounds', WHERE WHAT IT READS IS OF BULK AT MOST 1048576: true; the input reads as it did. -/
def widenBoundsUptoRow : OpenClaim := { program := "ytjfhjckacfkpoaa", sum := "6b82926fb16035bb58e46e12718d5f2ab801ca9643a9305fbe904702faf7dbd4", func := "foliot/foliotlaw06.WidenBounds", spec := "widenBounds", unfollowed := true, recurses := true, apart := false, narrowed := true }
def WidenBoundsUptoSaid : Prop := widenBoundsUptoRow.holds Try.pinned (OpenSpec.upto widenBoundsSpec)

/-- 'foliotlaw06.WidenGrows', WHERE WHAT IT READS IS OF BULK AT MOST 1048576: true; the input reads as it did. -/
def widenGrowsUptoRow : OpenClaim := { program := "ytjfhjckacfkpoaa", sum := "6b82926fb16035bb58e46e12718d5f2ab801ca9643a9305fbe904702faf7dbd4", func := "foliot/foliotlaw06.WidenGrows", spec := "widenGrows", unfollowed := true, recurses := true, apart := false, narrowed := true }
def WidenGrowsUptoSaid : Prop := widenGrowsUptoRow.holds Try.pinned (OpenSpec.upto widenGrowsSpec)

/-- 'foliotlaw06.WidenCovers', WHERE WHAT IT READS IS OF BULK AT MOST 1048576: true; the input reads as it did. -/
def widenCoversUptoRow : OpenClaim := { program := "ytjfhjckacfkpoaa", sum := "6b82926fb16035bb58e46e12718d5f2ab801ca9643a9305fbe904702faf7dbd4", func := "foliot/foliotlaw06.WidenCovers", spec := "widenCovers", unfollowed := true, recurses := true, apart := false, narrowed := true }
def WidenCoversUptoSaid : Prop := widenCoversUptoRow.holds Try.pinned (OpenSpec.upto widenCoversSpec)

/-- 'foliotlaw06.WidenAlike', WHERE WHAT IT READS IS OF BULK AT MOST 1048576: true; the input reads as it did. -/
def widenAlikeUptoRow : OpenClaim := { program := "ytjfhjckacfkpoaa", sum := "6b82926fb16035bb58e46e12718d5f2ab801ca9643a9305fbe904702faf7dbd4", func := "foliot/foliotlaw06.WidenAlike", spec := "widenAlike", unfollowed := true, recurses := true, apart := false, narrowed := true }
def WidenAlikeUptoSaid : Prop := widenAlikeUptoRow.holds Try.pinned (OpenSpec.upto widenAlikeSpec)

end Rows
end Go.Proofs.Ytjfhjckacfkpoaa
