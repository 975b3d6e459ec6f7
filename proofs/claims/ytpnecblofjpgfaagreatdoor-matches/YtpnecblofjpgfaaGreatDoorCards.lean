/-
  DERIVED. GIVEN WITH THE SEED: THE CARDS: each row of YtpnecblofjpgfaaGreatDoorRows.lean that lists a variable, with what it lists TIED to the program's text (the seventh form; the later family's looks); each row that meets fmt, with fmt's text TOLD by the authors' own Lean function (tested against real Go, not proved from fmt's source: count such statements apart). THE CARD IS WHAT COUNTS. Prove the row's statement (the work); the ties are given (YtpnecblofjpgfaaGreatDoorTie.lean); close each card by the builder's one call (the guide's Derived/Test/ToyasCard.lean, 'card_holds'). Laid BY PROGRAM, IN A SANDBOX (cutbox-door.mjs). By AI agents, Wed Nov 11 2026. No macro, syntax, notation, axiom, sorry.
-/
import Derived.Test.YtpnecblofjpgfaaGreatDoorRows
import GoSem.ClaimSeven
namespace Go.Proofs.YtpnecblofjpgfaaGreatDoor
namespace Rows

/-- THE TIED CARD OF 'psedlaw.Matches'. -/
def matchesCard : Claim7 := { stood := { row := matchesRow, standIns := [], harness := (true, "4f6d8ad373f8cc61756774755b0883155a4da4943cd7e2a4e55f57e95b567174"), looks := true }, kinds := [], alts := [], laidByText := true, laidKinds := [.data], laidTests := true, laidLooks := .later }
def MatchesCardSaid : Prop := Claim7.holds Tryz.pinned (.plain (OpenSpec.ofChange matchesSpec)) matchesCard

/-- THE TIED CARD OF 'psedlaw.Real'. -/
def realCard : Claim7 := { stood := { row := realRow, standIns := [], harness := (true, "4f6d8ad373f8cc61756774755b0883155a4da4943cd7e2a4e55f57e95b567174"), looks := true }, kinds := [], alts := [], laidByText := true, laidKinds := [.data], laidTests := true, laidLooks := .later }
def RealCardSaid : Prop := Claim7.holds Tryz.pinned (.plain (OpenSpec.ofChange realSpec)) realCard

/-- THE TIED CARD OF 'psedlaw.Longest'. -/
def longestCard : Claim7 := { stood := { row := longestRow, standIns := [], harness := (true, "4f6d8ad373f8cc61756774755b0883155a4da4943cd7e2a4e55f57e95b567174"), looks := true }, kinds := [], alts := [], laidByText := true, laidKinds := [.data], laidTests := true, laidLooks := .later }
def LongestCardSaid : Prop := Claim7.holds Tryz.pinned (.plain (OpenSpec.ofChange longestSpec)) longestCard

/-- THE SECOND FORM's CARD OF 'psedlaw.Matches'. -/
def matchesUptoCard : Claim7 := { stood := { row := matchesUptoRow, standIns := [], harness := (true, "4f6d8ad373f8cc61756774755b0883155a4da4943cd7e2a4e55f57e95b567174"), looks := true }, kinds := [], alts := [], laidByText := true, laidKinds := [.data], laidTests := true, laidLooks := .later }
def MatchesUptoCardSaid : Prop := Claim7.holds Tryz.pinned (.plain (OpenSpec.upto matchesSpec)) matchesUptoCard

/-- THE SECOND FORM's CARD OF 'psedlaw.Real'. -/
def realUptoCard : Claim7 := { stood := { row := realUptoRow, standIns := [], harness := (true, "4f6d8ad373f8cc61756774755b0883155a4da4943cd7e2a4e55f57e95b567174"), looks := true }, kinds := [], alts := [], laidByText := true, laidKinds := [.data], laidTests := true, laidLooks := .later }
def RealUptoCardSaid : Prop := Claim7.holds Tryz.pinned (.plain (OpenSpec.upto realSpec)) realUptoCard

/-- THE SECOND FORM's CARD OF 'psedlaw.Longest'. -/
def longestUptoCard : Claim7 := { stood := { row := longestUptoRow, standIns := [], harness := (true, "4f6d8ad373f8cc61756774755b0883155a4da4943cd7e2a4e55f57e95b567174"), looks := true }, kinds := [], alts := [], laidByText := true, laidKinds := [.data], laidTests := true, laidLooks := .later }
def LongestUptoCardSaid : Prop := Claim7.holds Tryz.pinned (.plain (OpenSpec.upto longestSpec)) longestUptoCard
end Rows
end Go.Proofs.YtpnecblofjpgfaaGreatDoor
