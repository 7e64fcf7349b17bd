/-
  DERIVED. GIVEN WITH THE SEED: THE CARDS: each row of YtlpmjpmefdpcmaaGreatDoorRows.lean that lists a variable, with what it lists TIED to the program's text (the seventh form; the later family's looks); each row that meets fmt, with fmt's text TOLD by the authors' own Lean function (tested against real Go, not proved from fmt's source: count such statements apart). THE CARD IS WHAT COUNTS. Prove the row's statement (the work); the ties are given (YtlpmjpmefdpcmaaGreatDoorTie.lean); close each card by the builder's one call (the guide's Derived/Test/ToyasCard.lean, 'card_holds'). Laid BY PROGRAM, IN A SANDBOX (cutbox-door.mjs). By AI agents, Wed Nov 11 2026. No macro, syntax, notation, axiom, sorry.
-/
import Derived.Test.YtlpmjpmefdpcmaaGreatDoorRows
import GoSem.ClaimSeven
namespace Go.Proofs.YtlpmjpmefdpcmaaGreatDoor
namespace Rows

/-- THE TIED CARD OF 'scrublaw.Parses'. -/
def parsesCard : Claim7 := { stood := { row := parsesRow, standIns := [], harness := (true, "999c4e114642fcabc16590a2214c8fa62e553947fd2b4e198960b809513b195b"), looks := false }, kinds := [], alts := [], goes := true, laidByText := true, laidKinds := [.data, .data], laidTests := true, laidLooks := .later }
def ParsesCardSaid : Prop := Claim7.holds Tryz.pinned (.plain (OpenSpec.ofChange parsesSpec)) parsesCard

/-- THE TIED CARD OF 'scrublaw.Writes'. -/
def writesCard : Claim7 := { stood := { row := writesRow, standIns := [], harness := (true, "999c4e114642fcabc16590a2214c8fa62e553947fd2b4e198960b809513b195b"), looks := false }, kinds := [], alts := [], goes := true, laidByText := true, laidKinds := [.data, .data], laidTests := true, laidLooks := .later }
def WritesCardSaid : Prop := Claim7.holds Tryz.pinned (.plain (OpenSpec.ofChange writesSpec)) writesCard

/-- THE TIED CARD OF 'scrublaw.Cleans'. -/
def cleansCard : Claim7 := { stood := { row := cleansRow, standIns := [], harness := (true, "999c4e114642fcabc16590a2214c8fa62e553947fd2b4e198960b809513b195b"), looks := false }, kinds := [], alts := [], goes := true, laidByText := true, laidKinds := [.data, .data], laidTests := true, laidLooks := .later }
def CleansCardSaid : Prop := Claim7.holds Tryz.pinned (.plain (OpenSpec.ofChange cleansSpec)) cleansCard

/-- THE TIED CARD OF 'scrublaw.All'. -/
def allCard : Claim7 := { stood := { row := allRow, standIns := [], harness := (true, "999c4e114642fcabc16590a2214c8fa62e553947fd2b4e198960b809513b195b"), looks := false }, kinds := [], alts := [], goes := true, laidByText := true, laidKinds := [.data, .data], laidTests := true, laidLooks := .later }
def AllCardSaid : Prop := Claim7.holds Tryz.pinned (.plain (OpenSpec.ofChange allSpec)) allCard

/-- THE TIED CARD OF 'scrubkeep.Stays'. -/
def staysCard : Claim7 := { stood := { row := staysRow, standIns := [], harness := (true, "999c4e114642fcabc16590a2214c8fa62e553947fd2b4e198960b809513b195b"), looks := false }, kinds := [], alts := [], goes := true, laidByText := true, laidKinds := [.data, .data], laidTests := true, laidLooks := .later }
def StaysCardSaid : Prop := Claim7.holds Tryz.pinned (.plain (OpenSpec.ofChange staysSpec)) staysCard

/-- THE TIED CARD OF 'scrubkeep.Only'. -/
def onlyCard : Claim7 := { stood := { row := onlyRow, standIns := [], harness := (true, "999c4e114642fcabc16590a2214c8fa62e553947fd2b4e198960b809513b195b"), looks := false }, kinds := [], alts := [], goes := true, laidByText := true, laidKinds := [.data, .data], laidTests := true, laidLooks := .later }
def OnlyCardSaid : Prop := Claim7.holds Tryz.pinned (.plain (OpenSpec.ofChange onlySpec)) onlyCard

/-- THE TIED CARD OF 'scrubkeep.Nothing'. -/
def nothingCard : Claim7 := { stood := { row := nothingRow, standIns := [], harness := (true, "999c4e114642fcabc16590a2214c8fa62e553947fd2b4e198960b809513b195b"), looks := false }, kinds := [], alts := [], goes := true, laidByText := true, laidKinds := [.data, .data], laidTests := true, laidLooks := .later }
def NothingCardSaid : Prop := Claim7.holds Tryz.pinned (.plain (OpenSpec.ofChange nothingSpec)) nothingCard

/-- THE TIED CARD OF 'scrubkeep.Kept'. -/
def keptCard : Claim7 := { stood := { row := keptRow, standIns := [], harness := (true, "999c4e114642fcabc16590a2214c8fa62e553947fd2b4e198960b809513b195b"), looks := false }, kinds := [], alts := [], goes := true, laidByText := true, laidKinds := [.data, .data], laidTests := true, laidLooks := .later }
def KeptCardSaid : Prop := Claim7.holds Tryz.pinned (.plain (OpenSpec.ofChange keptSpec)) keptCard

/-- THE TIED CARD OF 'scrubkeep.Together'. -/
def togetherCard : Claim7 := { stood := { row := togetherRow, standIns := [], harness := (true, "999c4e114642fcabc16590a2214c8fa62e553947fd2b4e198960b809513b195b"), looks := false }, kinds := [], alts := [], goes := true, laidByText := true, laidKinds := [.data, .data], laidTests := true, laidLooks := .later }
def TogetherCardSaid : Prop := Claim7.holds Tryz.pinned (.plain (OpenSpec.ofChange togetherSpec)) togetherCard

/-- THE TIED CARD OF 'scrubkeep.Refused'. -/
def refusedCard : Claim7 := { stood := { row := refusedRow, standIns := [], harness := (true, "999c4e114642fcabc16590a2214c8fa62e553947fd2b4e198960b809513b195b"), looks := false }, kinds := [], alts := [], goes := true, laidByText := true, laidKinds := [.data, .data], laidTests := true, laidLooks := .later }
def RefusedCardSaid : Prop := Claim7.holds Tryz.pinned (.plain (OpenSpec.ofChange refusedSpec)) refusedCard

/-- THE SECOND FORM's CARD OF 'scrublaw.Parses'. -/
def parsesUptoCard : Claim7 := { stood := { row := parsesUptoRow, standIns := [], harness := (true, "999c4e114642fcabc16590a2214c8fa62e553947fd2b4e198960b809513b195b"), looks := false }, kinds := [], alts := [], goes := true, laidByText := true, laidKinds := [.data, .data], laidTests := true, laidLooks := .later }
def ParsesUptoCardSaid : Prop := Claim7.holds Tryz.pinned (.plain (OpenSpec.upto parsesSpec)) parsesUptoCard

/-- THE SECOND FORM's CARD OF 'scrublaw.Writes'. -/
def writesUptoCard : Claim7 := { stood := { row := writesUptoRow, standIns := [], harness := (true, "999c4e114642fcabc16590a2214c8fa62e553947fd2b4e198960b809513b195b"), looks := false }, kinds := [], alts := [], goes := true, laidByText := true, laidKinds := [.data, .data], laidTests := true, laidLooks := .later }
def WritesUptoCardSaid : Prop := Claim7.holds Tryz.pinned (.plain (OpenSpec.upto writesSpec)) writesUptoCard

/-- THE SECOND FORM's CARD OF 'scrublaw.Cleans'. -/
def cleansUptoCard : Claim7 := { stood := { row := cleansUptoRow, standIns := [], harness := (true, "999c4e114642fcabc16590a2214c8fa62e553947fd2b4e198960b809513b195b"), looks := false }, kinds := [], alts := [], goes := true, laidByText := true, laidKinds := [.data, .data], laidTests := true, laidLooks := .later }
def CleansUptoCardSaid : Prop := Claim7.holds Tryz.pinned (.plain (OpenSpec.upto cleansSpec)) cleansUptoCard

/-- THE SECOND FORM's CARD OF 'scrublaw.All'. -/
def allUptoCard : Claim7 := { stood := { row := allUptoRow, standIns := [], harness := (true, "999c4e114642fcabc16590a2214c8fa62e553947fd2b4e198960b809513b195b"), looks := false }, kinds := [], alts := [], goes := true, laidByText := true, laidKinds := [.data, .data], laidTests := true, laidLooks := .later }
def AllUptoCardSaid : Prop := Claim7.holds Tryz.pinned (.plain (OpenSpec.upto allSpec)) allUptoCard

/-- THE SECOND FORM's CARD OF 'scrubkeep.Stays'. -/
def staysUptoCard : Claim7 := { stood := { row := staysUptoRow, standIns := [], harness := (true, "999c4e114642fcabc16590a2214c8fa62e553947fd2b4e198960b809513b195b"), looks := false }, kinds := [], alts := [], goes := true, laidByText := true, laidKinds := [.data, .data], laidTests := true, laidLooks := .later }
def StaysUptoCardSaid : Prop := Claim7.holds Tryz.pinned (.plain (OpenSpec.upto staysSpec)) staysUptoCard

/-- THE SECOND FORM's CARD OF 'scrubkeep.Only'. -/
def onlyUptoCard : Claim7 := { stood := { row := onlyUptoRow, standIns := [], harness := (true, "999c4e114642fcabc16590a2214c8fa62e553947fd2b4e198960b809513b195b"), looks := false }, kinds := [], alts := [], goes := true, laidByText := true, laidKinds := [.data, .data], laidTests := true, laidLooks := .later }
def OnlyUptoCardSaid : Prop := Claim7.holds Tryz.pinned (.plain (OpenSpec.upto onlySpec)) onlyUptoCard

/-- THE SECOND FORM's CARD OF 'scrubkeep.Nothing'. -/
def nothingUptoCard : Claim7 := { stood := { row := nothingUptoRow, standIns := [], harness := (true, "999c4e114642fcabc16590a2214c8fa62e553947fd2b4e198960b809513b195b"), looks := false }, kinds := [], alts := [], goes := true, laidByText := true, laidKinds := [.data, .data], laidTests := true, laidLooks := .later }
def NothingUptoCardSaid : Prop := Claim7.holds Tryz.pinned (.plain (OpenSpec.upto nothingSpec)) nothingUptoCard

/-- THE SECOND FORM's CARD OF 'scrubkeep.Kept'. -/
def keptUptoCard : Claim7 := { stood := { row := keptUptoRow, standIns := [], harness := (true, "999c4e114642fcabc16590a2214c8fa62e553947fd2b4e198960b809513b195b"), looks := false }, kinds := [], alts := [], goes := true, laidByText := true, laidKinds := [.data, .data], laidTests := true, laidLooks := .later }
def KeptUptoCardSaid : Prop := Claim7.holds Tryz.pinned (.plain (OpenSpec.upto keptSpec)) keptUptoCard

/-- THE SECOND FORM's CARD OF 'scrubkeep.Together'. -/
def togetherUptoCard : Claim7 := { stood := { row := togetherUptoRow, standIns := [], harness := (true, "999c4e114642fcabc16590a2214c8fa62e553947fd2b4e198960b809513b195b"), looks := false }, kinds := [], alts := [], goes := true, laidByText := true, laidKinds := [.data, .data], laidTests := true, laidLooks := .later }
def TogetherUptoCardSaid : Prop := Claim7.holds Tryz.pinned (.plain (OpenSpec.upto togetherSpec)) togetherUptoCard

/-- THE SECOND FORM's CARD OF 'scrubkeep.Refused'. -/
def refusedUptoCard : Claim7 := { stood := { row := refusedUptoRow, standIns := [], harness := (true, "999c4e114642fcabc16590a2214c8fa62e553947fd2b4e198960b809513b195b"), looks := false }, kinds := [], alts := [], goes := true, laidByText := true, laidKinds := [.data, .data], laidTests := true, laidLooks := .later }
def RefusedUptoCardSaid : Prop := Claim7.holds Tryz.pinned (.plain (OpenSpec.upto refusedSpec)) refusedUptoCard
end Rows
end Go.Proofs.YtlpmjpmefdpcmaaGreatDoor
