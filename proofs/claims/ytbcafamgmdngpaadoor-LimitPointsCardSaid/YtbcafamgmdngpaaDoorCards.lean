/-
  DERIVED. GIVEN WITH THE SEED: THE CARDS: each row of YtbcafamgmdngpaaDoorRows.lean that lists a variable, with what it lists TIED to the program's text (the seventh form; the later family's looks); each row that meets fmt, with fmt's text TOLD by the authors' own Lean function (tested against real Go, not proved from fmt's source: count such statements apart). THE CARD IS WHAT COUNTS. Prove the row's statement (the work); the ties are given (YtbcafamgmdngpaaDoorTie.lean); close each card by the builder's one call (the guide's Derived/Test/ToyasCard.lean, 'card_holds'). Laid BY PROGRAM, IN A SANDBOX (cutbox-door.mjs). By AI agents, Wed Nov 11 2026. No macro, syntax, notation, axiom, sorry.
-/
import Derived.Test.YtbcafamgmdngpaaDoorRows
import GoSem.ClaimSeven
namespace Go.Proofs.YtbcafamgmdngpaaDoor
namespace Rows

/-- THE TIED CARD OF 'foliotlaw02.LimitForms'. -/
def limitFormsCard : Claim7 := { stood := { row := limitFormsRow, standIns := [], harness := (true, "4ac88df0ca6c9a3c6b754f126be577545796e3b4e23f935dfd43c51c38490d2d"), looks := false }, kinds := [], alts := [], laidByText := true, laidKinds := [.data, .data, .data], laidTests := true, laidLooks := .later }
def LimitFormsCardSaid : Prop := Claim7.holds Tryd.pinned (.plain (OpenSpec.ofChange limitFormsSpec)) limitFormsCard

/-- THE TIED CARD OF 'foliotlaw02.LimitSums'. -/
def limitSumsCard : Claim7 := { stood := { row := limitSumsRow, standIns := [], harness := (true, "4ac88df0ca6c9a3c6b754f126be577545796e3b4e23f935dfd43c51c38490d2d"), looks := false }, kinds := [], alts := [], laidByText := true, laidKinds := [.data, .data, .data], laidTests := true, laidLooks := .later }
def LimitSumsCardSaid : Prop := Claim7.holds Tryd.pinned (.plain (OpenSpec.ofChange limitSumsSpec)) limitSumsCard

/-- THE TIED CARD OF 'foliotlaw02.LimitMeets'. -/
def limitMeetsCard : Claim7 := { stood := { row := limitMeetsRow, standIns := [], harness := (true, "4ac88df0ca6c9a3c6b754f126be577545796e3b4e23f935dfd43c51c38490d2d"), looks := false }, kinds := [], alts := [], laidByText := true, laidKinds := [.data, .data, .data], laidTests := true, laidLooks := .later }
def LimitMeetsCardSaid : Prop := Claim7.holds Tryd.pinned (.plain (OpenSpec.ofChange limitMeetsSpec)) limitMeetsCard

/-- THE TIED CARD OF 'foliotlaw02.LimitLaws'. -/
def limitLawsCard : Claim7 := { stood := { row := limitLawsRow, standIns := [], harness := (true, "4ac88df0ca6c9a3c6b754f126be577545796e3b4e23f935dfd43c51c38490d2d"), looks := false }, kinds := [], alts := [], laidByText := true, laidKinds := [.data, .data, .data], laidTests := true, laidLooks := .later }
def LimitLawsCardSaid : Prop := Claim7.holds Tryd.pinned (.plain (OpenSpec.ofChange limitLawsSpec)) limitLawsCard

/-- THE TIED CARD OF 'foliotlaw02.LimitPoints'. -/
def limitPointsCard : Claim7 := { stood := { row := limitPointsRow, standIns := [], harness := (true, "4ac88df0ca6c9a3c6b754f126be577545796e3b4e23f935dfd43c51c38490d2d"), looks := false }, kinds := [], alts := [], laidByText := true, laidKinds := [.data, .data, .data], laidTests := true, laidLooks := .later }
def LimitPointsCardSaid : Prop := Claim7.holds Tryd.pinned (.plain (OpenSpec.ofChange limitPointsSpec)) limitPointsCard

/-- THE SECOND FORM's CARD OF 'foliotlaw02.LimitForms'. -/
def limitFormsUptoCard : Claim7 := { stood := { row := limitFormsUptoRow, standIns := [], harness := (true, "4ac88df0ca6c9a3c6b754f126be577545796e3b4e23f935dfd43c51c38490d2d"), looks := false }, kinds := [], alts := [], laidByText := true, laidKinds := [.data, .data, .data], laidTests := true, laidLooks := .later }
def LimitFormsUptoCardSaid : Prop := Claim7.holds Tryd.pinned (.plain (OpenSpec.upto limitFormsSpec)) limitFormsUptoCard

/-- THE SECOND FORM's CARD OF 'foliotlaw02.LimitSums'. -/
def limitSumsUptoCard : Claim7 := { stood := { row := limitSumsUptoRow, standIns := [], harness := (true, "4ac88df0ca6c9a3c6b754f126be577545796e3b4e23f935dfd43c51c38490d2d"), looks := false }, kinds := [], alts := [], laidByText := true, laidKinds := [.data, .data, .data], laidTests := true, laidLooks := .later }
def LimitSumsUptoCardSaid : Prop := Claim7.holds Tryd.pinned (.plain (OpenSpec.upto limitSumsSpec)) limitSumsUptoCard

/-- THE SECOND FORM's CARD OF 'foliotlaw02.LimitMeets'. -/
def limitMeetsUptoCard : Claim7 := { stood := { row := limitMeetsUptoRow, standIns := [], harness := (true, "4ac88df0ca6c9a3c6b754f126be577545796e3b4e23f935dfd43c51c38490d2d"), looks := false }, kinds := [], alts := [], laidByText := true, laidKinds := [.data, .data, .data], laidTests := true, laidLooks := .later }
def LimitMeetsUptoCardSaid : Prop := Claim7.holds Tryd.pinned (.plain (OpenSpec.upto limitMeetsSpec)) limitMeetsUptoCard

/-- THE SECOND FORM's CARD OF 'foliotlaw02.LimitLaws'. -/
def limitLawsUptoCard : Claim7 := { stood := { row := limitLawsUptoRow, standIns := [], harness := (true, "4ac88df0ca6c9a3c6b754f126be577545796e3b4e23f935dfd43c51c38490d2d"), looks := false }, kinds := [], alts := [], laidByText := true, laidKinds := [.data, .data, .data], laidTests := true, laidLooks := .later }
def LimitLawsUptoCardSaid : Prop := Claim7.holds Tryd.pinned (.plain (OpenSpec.upto limitLawsSpec)) limitLawsUptoCard

/-- THE SECOND FORM's CARD OF 'foliotlaw02.LimitPoints'. -/
def limitPointsUptoCard : Claim7 := { stood := { row := limitPointsUptoRow, standIns := [], harness := (true, "4ac88df0ca6c9a3c6b754f126be577545796e3b4e23f935dfd43c51c38490d2d"), looks := false }, kinds := [], alts := [], laidByText := true, laidKinds := [.data, .data, .data], laidTests := true, laidLooks := .later }
def LimitPointsUptoCardSaid : Prop := Claim7.holds Tryd.pinned (.plain (OpenSpec.upto limitPointsSpec)) limitPointsUptoCard
end Rows
end Go.Proofs.YtbcafamgmdngpaaDoor
