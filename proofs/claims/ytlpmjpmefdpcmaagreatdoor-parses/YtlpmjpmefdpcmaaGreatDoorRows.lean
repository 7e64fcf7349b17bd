/-
  NARROWER THAN 'FOR EVERY INPUT', by the rows' own cells (each row's printed sentence says how): Parses: laid · Writes: loops, laid · Cleans: laid · All: loops, laid · Stays: laid · Only: laid · Nothing: laid · Kept: laid · Together: laid · Refused: laid.
  DERIVED. THE GIVEN ROWS OF THIS SEAT. 10 by the template 'for every input the law returns true; each argument reads behind the call as it read before'; 0 by the template 'total and deterministic' (their statements: YtlpmjpmefdpcmaaGreatDoorTotals.lean).
  GIVEN WITH THE SEED: the statements are not yours to turn. If you find one false, say at which input.
  Laid BY PROGRAM, IN A SANDBOX (cutbox-rows.mjs): the forced cells as the released guide's own fill.sh prints them over the translation 467d3148e7121b4d… (all of the seat's roots in one cut). By AI agents, Wed Nov 11 2026. No macro, syntax, notation, axiom, sorry.
-/
import Derived.Test.YtlpmjpmefdpcmaaGreatDoorChecked
import GoSem.Claim
import GoSem.ClaimJoined
import GoSem.ClaimMapViews
import Derived.JoinedTies
import Derived.KernelRfl
namespace Go.Proofs.YtlpmjpmefdpcmaaGreatDoor
/- THE CELL 'sum', in the pinned program and in every row, IS THE sha256 OF THE DUMP (.gsa) THAT YtlpmjpmefdpcmaaGreatDoorProg.lean LOADS. Nothing in Lean hashes anything: it is a label: what it is worth is what the hold of that sum in a sandbox is worth. -/
noncomputable def Tryz.pinned : Pinned := { name := "ytlpmjpmefdpcmaagreatdoor", sum := "467d3148e7121b4ddd971c15ac9e633e91831bc1d9ce39d900b898e1b07704f2", checked := Tryz.checked }
namespace Rows
def none {H : Type} : Left H := { results := [], args := [] }

/- WHAT THE LISTED PACKAGE-LEVEL VARIABLES READ AS WHEN THE CALL BEGINS. Each datum BY PROGRAM (the guide's laid-datum.mjs) off the statement by which the dump's own 'gosem.cut.vars' lays the variable. In a bare row this is a premise. The card (YtlpmjpmefdpcmaaGreatDoorCards.lean) ties it to the program's text. -/
def laid_scrub_token_signs {H : Type} : DataW H := .agg [.agg [.lit (.string [38, 97, 109, 112, 59]), .lit (.int .u8 38)], .agg [.lit (.string [38, 108, 116, 59]), .lit (.int .u8 60)], .agg [.lit (.string [38, 103, 116, 59]), .lit (.int .u8 62)], .agg [.lit (.string [38, 113, 117, 111, 116, 59]), .lit (.int .u8 34)]]
def laid_scrub_clean_beginnings {H : Type} : DataW H := .agg [.lit (.string [104, 116, 116, 112, 58]), .lit (.string [104, 116, 116, 112, 115, 58]), .lit (.string [47]), .lit (.string [35])]

/-- 'scrublaw.Parses': WHATEVER THE INPUT: true; the input reads as it did. -/
def parsesSpec : ChangeSpec := { name := "parses", fn := fun _ => fun
  | [d] => { results := [.lit (.bool true)], args := [d] }
  | _ => none }
def parsesRow : OpenClaim := { program := "ytlpmjpmefdpcmaagreatdoor", sum := "467d3148e7121b4ddd971c15ac9e633e91831bc1d9ce39d900b898e1b07704f2", func := "scrub/scrublaw.Parses", spec := "parses", inPlace := ["internal/bytealg.IndexByteString", "internal/bytealg.IndexString", "internal/abi.NoEscape", "(*sync.WaitGroup).Add", "internal/race.ReleaseMerge", "internal/race.Disable", "internal/race.Enable", "internal/synctest.IsInBubble", "internal/synctest.Associate[sync.WaitGroup]", "sync.fatal", "sync/atomic.OrUint64", "sync/atomic.AddUint64", "internal/race.Read", "sync/atomic.LoadUint64", "sync/atomic.StoreUint64", "internal/synctest.Disassociate[sync.WaitGroup]", "sync.runtime_Semrelease", "(*sync.WaitGroup).Done", "(*sync.WaitGroup).Wait", "internal/race.Acquire", "internal/synctest.IsAssociated[sync.WaitGroup]", "sync/atomic.CompareAndSwapUint64", "internal/race.Write", "sync.runtime_SemacquireWaitGroup"], unfollowed := true, recurses := true, named := ["internal/bytealg.MaxLen", "scrub/token.signs", "scrub/clean.beginnings"], leaving := true, apart := false, laid := [("scrub/token.signs", laid_scrub_token_signs), ("scrub/clean.beginnings", laid_scrub_clean_beginnings)] }
def ParsesSaid : Prop := parsesRow.holds Tryz.pinned (OpenSpec.ofChange parsesSpec)

/-- ITS FALSE NEIGHBOUR: 'it returns false'. Refute it at one input. -/
def parsesWrong : ChangeSpec := { name := "parses", fn := fun _ => fun
  | [d] => { results := [.lit (.bool false)], args := [d] }
  | _ => none }
def ParsesWrongFalsely : Prop := parsesRow.holds Tryz.pinned (OpenSpec.ofChange parsesWrong)

/-- 'scrublaw.Writes': WHATEVER THE INPUT: true; the input reads as it did. -/
def writesSpec : ChangeSpec := { name := "writes", fn := fun _ => fun
  | [d] => { results := [.lit (.bool true)], args := [d] }
  | _ => none }
def writesRow : OpenClaim := { program := "ytlpmjpmefdpcmaagreatdoor", sum := "467d3148e7121b4ddd971c15ac9e633e91831bc1d9ce39d900b898e1b07704f2", func := "scrub/scrublaw.Writes", spec := "writes", inPlace := ["internal/bytealg.IndexByteString", "internal/abi.NoEscape", "internal/bytealg.IndexString", "(*sync.WaitGroup).Add", "internal/race.ReleaseMerge", "internal/race.Disable", "internal/race.Enable", "internal/synctest.IsInBubble", "internal/synctest.Associate[sync.WaitGroup]", "sync.fatal", "sync/atomic.OrUint64", "sync/atomic.AddUint64", "internal/race.Read", "sync/atomic.LoadUint64", "sync/atomic.StoreUint64", "internal/synctest.Disassociate[sync.WaitGroup]", "sync.runtime_Semrelease", "(*sync.WaitGroup).Done", "(*sync.WaitGroup).Wait", "internal/race.Acquire", "internal/synctest.IsAssociated[sync.WaitGroup]", "sync/atomic.CompareAndSwapUint64", "internal/race.Write", "sync.runtime_SemacquireWaitGroup"], unfollowed := true, recurses := true, named := ["scrub/token.signs", "internal/bytealg.MaxLen", "scrub/clean.beginnings"], loops := true, leaving := true, apart := false, laid := [("scrub/token.signs", laid_scrub_token_signs), ("scrub/clean.beginnings", laid_scrub_clean_beginnings)] }
def WritesSaid : Prop := writesRow.holds Tryz.pinned (OpenSpec.ofChange writesSpec)

/-- ITS FALSE NEIGHBOUR: 'it returns false'. Refute it at one input. -/
def writesWrong : ChangeSpec := { name := "writes", fn := fun _ => fun
  | [d] => { results := [.lit (.bool false)], args := [d] }
  | _ => none }
def WritesWrongFalsely : Prop := writesRow.holds Tryz.pinned (OpenSpec.ofChange writesWrong)

/-- 'scrublaw.Cleans': WHATEVER THE INPUT: true; the input reads as it did. -/
def cleansSpec : ChangeSpec := { name := "cleans", fn := fun _ => fun
  | [d1, d2] => { results := [.lit (.bool true)], args := [d1, d2] }
  | _ => none }
def cleansRow : OpenClaim := { program := "ytlpmjpmefdpcmaagreatdoor", sum := "467d3148e7121b4ddd971c15ac9e633e91831bc1d9ce39d900b898e1b07704f2", func := "scrub/scrublaw.Cleans", spec := "cleans", inPlace := ["internal/bytealg.IndexByteString", "internal/bytealg.IndexString", "internal/abi.NoEscape", "(*sync.WaitGroup).Add", "internal/race.ReleaseMerge", "internal/race.Disable", "internal/race.Enable", "internal/synctest.IsInBubble", "internal/synctest.Associate[sync.WaitGroup]", "sync.fatal", "sync/atomic.OrUint64", "sync/atomic.AddUint64", "internal/race.Read", "sync/atomic.LoadUint64", "sync/atomic.StoreUint64", "internal/synctest.Disassociate[sync.WaitGroup]", "sync.runtime_Semrelease", "(*sync.WaitGroup).Done", "(*sync.WaitGroup).Wait", "internal/race.Acquire", "internal/synctest.IsAssociated[sync.WaitGroup]", "sync/atomic.CompareAndSwapUint64", "internal/race.Write", "sync.runtime_SemacquireWaitGroup"], unfollowed := true, recurses := true, named := ["internal/bytealg.MaxLen", "scrub/token.signs", "scrub/clean.beginnings"], leaving := true, apart := false, laid := [("scrub/token.signs", laid_scrub_token_signs), ("scrub/clean.beginnings", laid_scrub_clean_beginnings)] }
def CleansSaid : Prop := cleansRow.holds Tryz.pinned (OpenSpec.ofChange cleansSpec)

/-- ITS FALSE NEIGHBOUR: 'it returns false'. Refute it at one input. -/
def cleansWrong : ChangeSpec := { name := "cleans", fn := fun _ => fun
  | [d1, d2] => { results := [.lit (.bool false)], args := [d1, d2] }
  | _ => none }
def CleansWrongFalsely : Prop := cleansRow.holds Tryz.pinned (OpenSpec.ofChange cleansWrong)

/-- 'scrublaw.All': WHATEVER THE INPUT: true; the input reads as it did. -/
def allSpec : ChangeSpec := { name := "all", fn := fun _ => fun
  | [d] => { results := [.lit (.bool true)], args := [d] }
  | _ => none }
def allRow : OpenClaim := { program := "ytlpmjpmefdpcmaagreatdoor", sum := "467d3148e7121b4ddd971c15ac9e633e91831bc1d9ce39d900b898e1b07704f2", func := "scrub/scrublaw.All", spec := "all", inPlace := ["internal/bytealg.IndexByteString", "internal/bytealg.IndexString", "internal/abi.NoEscape", "(*sync.WaitGroup).Add", "internal/race.ReleaseMerge", "internal/race.Disable", "internal/race.Enable", "internal/synctest.IsInBubble", "internal/synctest.Associate[sync.WaitGroup]", "sync.fatal", "sync/atomic.OrUint64", "sync/atomic.AddUint64", "internal/race.Read", "sync/atomic.LoadUint64", "sync/atomic.StoreUint64", "internal/synctest.Disassociate[sync.WaitGroup]", "sync.runtime_Semrelease", "(*sync.WaitGroup).Done", "(*sync.WaitGroup).Wait", "internal/race.Acquire", "internal/synctest.IsAssociated[sync.WaitGroup]", "sync/atomic.CompareAndSwapUint64", "internal/race.Write", "sync.runtime_SemacquireWaitGroup"], unfollowed := true, recurses := true, named := ["internal/bytealg.MaxLen", "scrub/token.signs", "scrub/clean.beginnings"], loops := true, leaving := true, apart := false, laid := [("scrub/token.signs", laid_scrub_token_signs), ("scrub/clean.beginnings", laid_scrub_clean_beginnings)] }
def AllSaid : Prop := allRow.holds Tryz.pinned (OpenSpec.ofChange allSpec)

/-- ITS FALSE NEIGHBOUR: 'it returns false'. Refute it at one input. -/
def allWrong : ChangeSpec := { name := "all", fn := fun _ => fun
  | [d] => { results := [.lit (.bool false)], args := [d] }
  | _ => none }
def AllWrongFalsely : Prop := allRow.holds Tryz.pinned (OpenSpec.ofChange allWrong)

/-- 'scrubkeep.Stays': WHATEVER THE INPUT: true; the input reads as it did. -/
def staysSpec : ChangeSpec := { name := "stays", fn := fun _ => fun
  | [d1, d2, d3] => { results := [.lit (.bool true)], args := [d1, d2, d3] }
  | _ => none }
def staysRow : OpenClaim := { program := "ytlpmjpmefdpcmaagreatdoor", sum := "467d3148e7121b4ddd971c15ac9e633e91831bc1d9ce39d900b898e1b07704f2", func := "scrub/scrubkeep.Stays", spec := "stays", inPlace := ["internal/bytealg.IndexByteString", "internal/bytealg.IndexString", "internal/abi.NoEscape"], unfollowed := true, recurses := true, named := ["internal/bytealg.MaxLen", "scrub/token.signs", "scrub/clean.beginnings"], leaving := true, apart := false, laid := [("scrub/token.signs", laid_scrub_token_signs), ("scrub/clean.beginnings", laid_scrub_clean_beginnings)] }
def StaysSaid : Prop := staysRow.holds Tryz.pinned (OpenSpec.ofChange staysSpec)

/-- ITS FALSE NEIGHBOUR: 'it returns false'. Refute it at one input. -/
def staysWrong : ChangeSpec := { name := "stays", fn := fun _ => fun
  | [d1, d2, d3] => { results := [.lit (.bool false)], args := [d1, d2, d3] }
  | _ => none }
def StaysWrongFalsely : Prop := staysRow.holds Tryz.pinned (OpenSpec.ofChange staysWrong)

/-- 'scrubkeep.Only': WHATEVER THE INPUT: true; the input reads as it did. -/
def onlySpec : ChangeSpec := { name := "only", fn := fun _ => fun
  | [d1, d2, d3] => { results := [.lit (.bool true)], args := [d1, d2, d3] }
  | _ => none }
def onlyRow : OpenClaim := { program := "ytlpmjpmefdpcmaagreatdoor", sum := "467d3148e7121b4ddd971c15ac9e633e91831bc1d9ce39d900b898e1b07704f2", func := "scrub/scrubkeep.Only", spec := "only", inPlace := ["internal/bytealg.IndexByteString", "internal/bytealg.IndexString", "internal/abi.NoEscape"], unfollowed := true, recurses := true, named := ["internal/bytealg.MaxLen", "scrub/token.signs", "scrub/clean.beginnings"], leaving := true, apart := false, laid := [("scrub/token.signs", laid_scrub_token_signs), ("scrub/clean.beginnings", laid_scrub_clean_beginnings)] }
def OnlySaid : Prop := onlyRow.holds Tryz.pinned (OpenSpec.ofChange onlySpec)

/-- ITS FALSE NEIGHBOUR: 'it returns false'. Refute it at one input. -/
def onlyWrong : ChangeSpec := { name := "only", fn := fun _ => fun
  | [d1, d2, d3] => { results := [.lit (.bool false)], args := [d1, d2, d3] }
  | _ => none }
def OnlyWrongFalsely : Prop := onlyRow.holds Tryz.pinned (OpenSpec.ofChange onlyWrong)

/-- 'scrubkeep.Nothing': WHATEVER THE INPUT: true; the input reads as it did. -/
def nothingSpec : ChangeSpec := { name := "nothing", fn := fun _ => fun
  | [d] => { results := [.lit (.bool true)], args := [d] }
  | _ => none }
def nothingRow : OpenClaim := { program := "ytlpmjpmefdpcmaagreatdoor", sum := "467d3148e7121b4ddd971c15ac9e633e91831bc1d9ce39d900b898e1b07704f2", func := "scrub/scrubkeep.Nothing", spec := "nothing", inPlace := ["internal/bytealg.IndexByteString", "internal/bytealg.IndexString", "internal/abi.NoEscape"], unfollowed := true, recurses := true, named := ["internal/bytealg.MaxLen", "scrub/token.signs", "scrub/clean.beginnings"], leaving := true, apart := false, laid := [("scrub/token.signs", laid_scrub_token_signs), ("scrub/clean.beginnings", laid_scrub_clean_beginnings)] }
def NothingSaid : Prop := nothingRow.holds Tryz.pinned (OpenSpec.ofChange nothingSpec)

/-- ITS FALSE NEIGHBOUR: 'it returns false'. Refute it at one input. -/
def nothingWrong : ChangeSpec := { name := "nothing", fn := fun _ => fun
  | [d] => { results := [.lit (.bool false)], args := [d] }
  | _ => none }
def NothingWrongFalsely : Prop := nothingRow.holds Tryz.pinned (OpenSpec.ofChange nothingWrong)

/-- 'scrubkeep.Kept': WHATEVER THE INPUT: true; the input reads as it did. -/
def keptSpec : ChangeSpec := { name := "kept", fn := fun _ => fun
  | [d] => { results := [.lit (.bool true)], args := [d] }
  | _ => none }
def keptRow : OpenClaim := { program := "ytlpmjpmefdpcmaagreatdoor", sum := "467d3148e7121b4ddd971c15ac9e633e91831bc1d9ce39d900b898e1b07704f2", func := "scrub/scrubkeep.Kept", spec := "kept", inPlace := ["internal/bytealg.IndexByteString", "internal/bytealg.IndexString", "internal/abi.NoEscape"], unfollowed := true, recurses := true, named := ["internal/bytealg.MaxLen", "scrub/token.signs", "scrub/clean.beginnings"], leaving := true, apart := false, laid := [("scrub/token.signs", laid_scrub_token_signs), ("scrub/clean.beginnings", laid_scrub_clean_beginnings)] }
def KeptSaid : Prop := keptRow.holds Tryz.pinned (OpenSpec.ofChange keptSpec)

/-- ITS FALSE NEIGHBOUR: 'it returns false'. Refute it at one input. -/
def keptWrong : ChangeSpec := { name := "kept", fn := fun _ => fun
  | [d] => { results := [.lit (.bool false)], args := [d] }
  | _ => none }
def KeptWrongFalsely : Prop := keptRow.holds Tryz.pinned (OpenSpec.ofChange keptWrong)

/-- 'scrubkeep.Together': WHATEVER THE INPUT: true; the input reads as it did. -/
def togetherSpec : ChangeSpec := { name := "together", fn := fun _ => fun
  | [d1, d2, d3] => { results := [.lit (.bool true)], args := [d1, d2, d3] }
  | _ => none }
def togetherRow : OpenClaim := { program := "ytlpmjpmefdpcmaagreatdoor", sum := "467d3148e7121b4ddd971c15ac9e633e91831bc1d9ce39d900b898e1b07704f2", func := "scrub/scrubkeep.Together", spec := "together", inPlace := ["internal/bytealg.IndexByteString", "internal/bytealg.IndexString", "internal/abi.NoEscape", "(*sync.WaitGroup).Add", "internal/race.ReleaseMerge", "internal/race.Disable", "internal/race.Enable", "internal/synctest.IsInBubble", "internal/synctest.Associate[sync.WaitGroup]", "sync.fatal", "sync/atomic.OrUint64", "sync/atomic.AddUint64", "internal/race.Read", "sync/atomic.LoadUint64", "sync/atomic.StoreUint64", "internal/synctest.Disassociate[sync.WaitGroup]", "sync.runtime_Semrelease", "(*sync.WaitGroup).Done", "(*sync.WaitGroup).Wait", "internal/race.Acquire", "internal/synctest.IsAssociated[sync.WaitGroup]", "sync/atomic.CompareAndSwapUint64", "internal/race.Write", "sync.runtime_SemacquireWaitGroup"], unfollowed := true, recurses := true, named := ["internal/bytealg.MaxLen", "scrub/token.signs", "scrub/clean.beginnings"], leaving := true, apart := false, laid := [("scrub/token.signs", laid_scrub_token_signs), ("scrub/clean.beginnings", laid_scrub_clean_beginnings)] }
def TogetherSaid : Prop := togetherRow.holds Tryz.pinned (OpenSpec.ofChange togetherSpec)

/-- ITS FALSE NEIGHBOUR: 'it returns false'. Refute it at one input. -/
def togetherWrong : ChangeSpec := { name := "together", fn := fun _ => fun
  | [d1, d2, d3] => { results := [.lit (.bool false)], args := [d1, d2, d3] }
  | _ => none }
def TogetherWrongFalsely : Prop := togetherRow.holds Tryz.pinned (OpenSpec.ofChange togetherWrong)

/-- 'scrubkeep.Refused': WHATEVER THE INPUT: true; the input reads as it did. -/
def refusedSpec : ChangeSpec := { name := "refused", fn := fun _ => fun
  | [d1, d2] => { results := [.lit (.bool true)], args := [d1, d2] }
  | _ => none }
def refusedRow : OpenClaim := { program := "ytlpmjpmefdpcmaagreatdoor", sum := "467d3148e7121b4ddd971c15ac9e633e91831bc1d9ce39d900b898e1b07704f2", func := "scrub/scrubkeep.Refused", spec := "refused", inPlace := ["internal/bytealg.IndexByteString", "internal/bytealg.IndexString", "internal/abi.NoEscape", "(*sync.WaitGroup).Add", "internal/race.ReleaseMerge", "internal/race.Disable", "internal/race.Enable", "internal/synctest.IsInBubble", "internal/synctest.Associate[sync.WaitGroup]", "sync.fatal", "sync/atomic.OrUint64", "sync/atomic.AddUint64", "internal/race.Read", "sync/atomic.LoadUint64", "sync/atomic.StoreUint64", "internal/synctest.Disassociate[sync.WaitGroup]", "sync.runtime_Semrelease", "(*sync.WaitGroup).Done", "(*sync.WaitGroup).Wait", "internal/race.Acquire", "internal/synctest.IsAssociated[sync.WaitGroup]", "sync/atomic.CompareAndSwapUint64", "internal/race.Write", "sync.runtime_SemacquireWaitGroup"], unfollowed := true, recurses := true, named := ["internal/bytealg.MaxLen", "scrub/token.signs", "scrub/clean.beginnings"], leaving := true, apart := false, laid := [("scrub/token.signs", laid_scrub_token_signs), ("scrub/clean.beginnings", laid_scrub_clean_beginnings)] }
def RefusedSaid : Prop := refusedRow.holds Tryz.pinned (OpenSpec.ofChange refusedSpec)

/-- ITS FALSE NEIGHBOUR: 'it returns false'. Refute it at one input. -/
def refusedWrong : ChangeSpec := { name := "refused", fn := fun _ => fun
  | [d1, d2] => { results := [.lit (.bool false)], args := [d1, d2] }
  | _ => none }
def RefusedWrongFalsely : Prop := refusedRow.holds Tryz.pinned (OpenSpec.ofChange refusedWrong)

/- THE SECOND FORM. 'bulk': how many values and letters a reading holds, each counted each time it is reached (what is shared counts as often as it is met; a slice's spare places count too). A statement '..UptoSaid' is the law's where the arguments, and the package variables that the reading takes, are together of bulk at most 1048576: NARROWER than '..Said'. Prove '..Said' where nothing that the law and all that it calls make is longer than what came in: it says more and counts as full. Else prove '..UptoSaid'. A law counts once. -/
mutual
def uptoBulk {H : Type} : DataW H → Nat
  | .lit (.string bytes) => bytes.length + 1
  | .lit _ => 1
  | .nil => 1
  | .ptr d => uptoBulk d + 1
  | .slice elems spare => uptoBulkAll elems + uptoBulkAll spare + 1
  | .agg parts => uptoBulkAll parts + 1
  | .iface _ d => uptoBulk d + 1
  | .map entries => uptoBulkEntries entries + 1
  | .held _ => 1
def uptoBulkAll {H : Type} : List (DataW H) → Nat
  | [] => 0
  | d :: r => uptoBulk d + uptoBulkAll r
def uptoBulkEntries {H : Type} : List (Lit × DataW H) → Nat
  | [] => 0
  | x :: r => uptoBulkEntry x + uptoBulkEntries r
def uptoBulkEntry {H : Type} : Lit × DataW H → Nat
  | (.string bytes, d) => bytes.length + uptoBulk d + 1
  | (_, d) => uptoBulk d + 1
 end
def uptoSmall : (H : Type) → List (DataW H) → Bool := fun _ ds => decide (uptoBulkAll ds ≤ 1048576)
def OpenSpec.upto (s : _root_.Go.ChangeSpec) : _root_.Go.OpenSpec := { _root_.Go.OpenSpec.ofChange s with cond := some uptoSmall }

/-- 'scrublaw.Parses', WHERE WHAT IT READS IS OF BULK AT MOST 1048576: true; the input reads as it did. -/
def parsesUptoRow : OpenClaim := { program := "ytlpmjpmefdpcmaagreatdoor", sum := "467d3148e7121b4ddd971c15ac9e633e91831bc1d9ce39d900b898e1b07704f2", func := "scrub/scrublaw.Parses", spec := "parses", inPlace := ["internal/bytealg.IndexByteString", "internal/bytealg.IndexString", "internal/abi.NoEscape", "(*sync.WaitGroup).Add", "internal/race.ReleaseMerge", "internal/race.Disable", "internal/race.Enable", "internal/synctest.IsInBubble", "internal/synctest.Associate[sync.WaitGroup]", "sync.fatal", "sync/atomic.OrUint64", "sync/atomic.AddUint64", "internal/race.Read", "sync/atomic.LoadUint64", "sync/atomic.StoreUint64", "internal/synctest.Disassociate[sync.WaitGroup]", "sync.runtime_Semrelease", "(*sync.WaitGroup).Done", "(*sync.WaitGroup).Wait", "internal/race.Acquire", "internal/synctest.IsAssociated[sync.WaitGroup]", "sync/atomic.CompareAndSwapUint64", "internal/race.Write", "sync.runtime_SemacquireWaitGroup"], unfollowed := true, recurses := true, named := ["internal/bytealg.MaxLen", "scrub/token.signs", "scrub/clean.beginnings"], leaving := true, apart := false, laid := [("scrub/token.signs", laid_scrub_token_signs), ("scrub/clean.beginnings", laid_scrub_clean_beginnings)], narrowed := true }
def ParsesUptoSaid : Prop := parsesUptoRow.holds Tryz.pinned (OpenSpec.upto parsesSpec)

/-- 'scrublaw.Writes', WHERE WHAT IT READS IS OF BULK AT MOST 1048576: true; the input reads as it did. -/
def writesUptoRow : OpenClaim := { program := "ytlpmjpmefdpcmaagreatdoor", sum := "467d3148e7121b4ddd971c15ac9e633e91831bc1d9ce39d900b898e1b07704f2", func := "scrub/scrublaw.Writes", spec := "writes", inPlace := ["internal/bytealg.IndexByteString", "internal/abi.NoEscape", "internal/bytealg.IndexString", "(*sync.WaitGroup).Add", "internal/race.ReleaseMerge", "internal/race.Disable", "internal/race.Enable", "internal/synctest.IsInBubble", "internal/synctest.Associate[sync.WaitGroup]", "sync.fatal", "sync/atomic.OrUint64", "sync/atomic.AddUint64", "internal/race.Read", "sync/atomic.LoadUint64", "sync/atomic.StoreUint64", "internal/synctest.Disassociate[sync.WaitGroup]", "sync.runtime_Semrelease", "(*sync.WaitGroup).Done", "(*sync.WaitGroup).Wait", "internal/race.Acquire", "internal/synctest.IsAssociated[sync.WaitGroup]", "sync/atomic.CompareAndSwapUint64", "internal/race.Write", "sync.runtime_SemacquireWaitGroup"], unfollowed := true, recurses := true, named := ["scrub/token.signs", "internal/bytealg.MaxLen", "scrub/clean.beginnings"], loops := true, leaving := true, apart := false, laid := [("scrub/token.signs", laid_scrub_token_signs), ("scrub/clean.beginnings", laid_scrub_clean_beginnings)], narrowed := true }
def WritesUptoSaid : Prop := writesUptoRow.holds Tryz.pinned (OpenSpec.upto writesSpec)

/-- 'scrublaw.Cleans', WHERE WHAT IT READS IS OF BULK AT MOST 1048576: true; the input reads as it did. -/
def cleansUptoRow : OpenClaim := { program := "ytlpmjpmefdpcmaagreatdoor", sum := "467d3148e7121b4ddd971c15ac9e633e91831bc1d9ce39d900b898e1b07704f2", func := "scrub/scrublaw.Cleans", spec := "cleans", inPlace := ["internal/bytealg.IndexByteString", "internal/bytealg.IndexString", "internal/abi.NoEscape", "(*sync.WaitGroup).Add", "internal/race.ReleaseMerge", "internal/race.Disable", "internal/race.Enable", "internal/synctest.IsInBubble", "internal/synctest.Associate[sync.WaitGroup]", "sync.fatal", "sync/atomic.OrUint64", "sync/atomic.AddUint64", "internal/race.Read", "sync/atomic.LoadUint64", "sync/atomic.StoreUint64", "internal/synctest.Disassociate[sync.WaitGroup]", "sync.runtime_Semrelease", "(*sync.WaitGroup).Done", "(*sync.WaitGroup).Wait", "internal/race.Acquire", "internal/synctest.IsAssociated[sync.WaitGroup]", "sync/atomic.CompareAndSwapUint64", "internal/race.Write", "sync.runtime_SemacquireWaitGroup"], unfollowed := true, recurses := true, named := ["internal/bytealg.MaxLen", "scrub/token.signs", "scrub/clean.beginnings"], leaving := true, apart := false, laid := [("scrub/token.signs", laid_scrub_token_signs), ("scrub/clean.beginnings", laid_scrub_clean_beginnings)], narrowed := true }
def CleansUptoSaid : Prop := cleansUptoRow.holds Tryz.pinned (OpenSpec.upto cleansSpec)

/-- 'scrublaw.All', WHERE WHAT IT READS IS OF BULK AT MOST 1048576: true; the input reads as it did. -/
def allUptoRow : OpenClaim := { program := "ytlpmjpmefdpcmaagreatdoor", sum := "467d3148e7121b4ddd971c15ac9e633e91831bc1d9ce39d900b898e1b07704f2", func := "scrub/scrublaw.All", spec := "all", inPlace := ["internal/bytealg.IndexByteString", "internal/bytealg.IndexString", "internal/abi.NoEscape", "(*sync.WaitGroup).Add", "internal/race.ReleaseMerge", "internal/race.Disable", "internal/race.Enable", "internal/synctest.IsInBubble", "internal/synctest.Associate[sync.WaitGroup]", "sync.fatal", "sync/atomic.OrUint64", "sync/atomic.AddUint64", "internal/race.Read", "sync/atomic.LoadUint64", "sync/atomic.StoreUint64", "internal/synctest.Disassociate[sync.WaitGroup]", "sync.runtime_Semrelease", "(*sync.WaitGroup).Done", "(*sync.WaitGroup).Wait", "internal/race.Acquire", "internal/synctest.IsAssociated[sync.WaitGroup]", "sync/atomic.CompareAndSwapUint64", "internal/race.Write", "sync.runtime_SemacquireWaitGroup"], unfollowed := true, recurses := true, named := ["internal/bytealg.MaxLen", "scrub/token.signs", "scrub/clean.beginnings"], loops := true, leaving := true, apart := false, laid := [("scrub/token.signs", laid_scrub_token_signs), ("scrub/clean.beginnings", laid_scrub_clean_beginnings)], narrowed := true }
def AllUptoSaid : Prop := allUptoRow.holds Tryz.pinned (OpenSpec.upto allSpec)

/-- 'scrubkeep.Stays', WHERE WHAT IT READS IS OF BULK AT MOST 1048576: true; the input reads as it did. -/
def staysUptoRow : OpenClaim := { program := "ytlpmjpmefdpcmaagreatdoor", sum := "467d3148e7121b4ddd971c15ac9e633e91831bc1d9ce39d900b898e1b07704f2", func := "scrub/scrubkeep.Stays", spec := "stays", inPlace := ["internal/bytealg.IndexByteString", "internal/bytealg.IndexString", "internal/abi.NoEscape"], unfollowed := true, recurses := true, named := ["internal/bytealg.MaxLen", "scrub/token.signs", "scrub/clean.beginnings"], leaving := true, apart := false, laid := [("scrub/token.signs", laid_scrub_token_signs), ("scrub/clean.beginnings", laid_scrub_clean_beginnings)], narrowed := true }
def StaysUptoSaid : Prop := staysUptoRow.holds Tryz.pinned (OpenSpec.upto staysSpec)

/-- 'scrubkeep.Only', WHERE WHAT IT READS IS OF BULK AT MOST 1048576: true; the input reads as it did. -/
def onlyUptoRow : OpenClaim := { program := "ytlpmjpmefdpcmaagreatdoor", sum := "467d3148e7121b4ddd971c15ac9e633e91831bc1d9ce39d900b898e1b07704f2", func := "scrub/scrubkeep.Only", spec := "only", inPlace := ["internal/bytealg.IndexByteString", "internal/bytealg.IndexString", "internal/abi.NoEscape"], unfollowed := true, recurses := true, named := ["internal/bytealg.MaxLen", "scrub/token.signs", "scrub/clean.beginnings"], leaving := true, apart := false, laid := [("scrub/token.signs", laid_scrub_token_signs), ("scrub/clean.beginnings", laid_scrub_clean_beginnings)], narrowed := true }
def OnlyUptoSaid : Prop := onlyUptoRow.holds Tryz.pinned (OpenSpec.upto onlySpec)

/-- 'scrubkeep.Nothing', WHERE WHAT IT READS IS OF BULK AT MOST 1048576: true; the input reads as it did. -/
def nothingUptoRow : OpenClaim := { program := "ytlpmjpmefdpcmaagreatdoor", sum := "467d3148e7121b4ddd971c15ac9e633e91831bc1d9ce39d900b898e1b07704f2", func := "scrub/scrubkeep.Nothing", spec := "nothing", inPlace := ["internal/bytealg.IndexByteString", "internal/bytealg.IndexString", "internal/abi.NoEscape"], unfollowed := true, recurses := true, named := ["internal/bytealg.MaxLen", "scrub/token.signs", "scrub/clean.beginnings"], leaving := true, apart := false, laid := [("scrub/token.signs", laid_scrub_token_signs), ("scrub/clean.beginnings", laid_scrub_clean_beginnings)], narrowed := true }
def NothingUptoSaid : Prop := nothingUptoRow.holds Tryz.pinned (OpenSpec.upto nothingSpec)

/-- 'scrubkeep.Kept', WHERE WHAT IT READS IS OF BULK AT MOST 1048576: true; the input reads as it did. -/
def keptUptoRow : OpenClaim := { program := "ytlpmjpmefdpcmaagreatdoor", sum := "467d3148e7121b4ddd971c15ac9e633e91831bc1d9ce39d900b898e1b07704f2", func := "scrub/scrubkeep.Kept", spec := "kept", inPlace := ["internal/bytealg.IndexByteString", "internal/bytealg.IndexString", "internal/abi.NoEscape"], unfollowed := true, recurses := true, named := ["internal/bytealg.MaxLen", "scrub/token.signs", "scrub/clean.beginnings"], leaving := true, apart := false, laid := [("scrub/token.signs", laid_scrub_token_signs), ("scrub/clean.beginnings", laid_scrub_clean_beginnings)], narrowed := true }
def KeptUptoSaid : Prop := keptUptoRow.holds Tryz.pinned (OpenSpec.upto keptSpec)

/-- 'scrubkeep.Together', WHERE WHAT IT READS IS OF BULK AT MOST 1048576: true; the input reads as it did. -/
def togetherUptoRow : OpenClaim := { program := "ytlpmjpmefdpcmaagreatdoor", sum := "467d3148e7121b4ddd971c15ac9e633e91831bc1d9ce39d900b898e1b07704f2", func := "scrub/scrubkeep.Together", spec := "together", inPlace := ["internal/bytealg.IndexByteString", "internal/bytealg.IndexString", "internal/abi.NoEscape", "(*sync.WaitGroup).Add", "internal/race.ReleaseMerge", "internal/race.Disable", "internal/race.Enable", "internal/synctest.IsInBubble", "internal/synctest.Associate[sync.WaitGroup]", "sync.fatal", "sync/atomic.OrUint64", "sync/atomic.AddUint64", "internal/race.Read", "sync/atomic.LoadUint64", "sync/atomic.StoreUint64", "internal/synctest.Disassociate[sync.WaitGroup]", "sync.runtime_Semrelease", "(*sync.WaitGroup).Done", "(*sync.WaitGroup).Wait", "internal/race.Acquire", "internal/synctest.IsAssociated[sync.WaitGroup]", "sync/atomic.CompareAndSwapUint64", "internal/race.Write", "sync.runtime_SemacquireWaitGroup"], unfollowed := true, recurses := true, named := ["internal/bytealg.MaxLen", "scrub/token.signs", "scrub/clean.beginnings"], leaving := true, apart := false, laid := [("scrub/token.signs", laid_scrub_token_signs), ("scrub/clean.beginnings", laid_scrub_clean_beginnings)], narrowed := true }
def TogetherUptoSaid : Prop := togetherUptoRow.holds Tryz.pinned (OpenSpec.upto togetherSpec)

/-- 'scrubkeep.Refused', WHERE WHAT IT READS IS OF BULK AT MOST 1048576: true; the input reads as it did. -/
def refusedUptoRow : OpenClaim := { program := "ytlpmjpmefdpcmaagreatdoor", sum := "467d3148e7121b4ddd971c15ac9e633e91831bc1d9ce39d900b898e1b07704f2", func := "scrub/scrubkeep.Refused", spec := "refused", inPlace := ["internal/bytealg.IndexByteString", "internal/bytealg.IndexString", "internal/abi.NoEscape", "(*sync.WaitGroup).Add", "internal/race.ReleaseMerge", "internal/race.Disable", "internal/race.Enable", "internal/synctest.IsInBubble", "internal/synctest.Associate[sync.WaitGroup]", "sync.fatal", "sync/atomic.OrUint64", "sync/atomic.AddUint64", "internal/race.Read", "sync/atomic.LoadUint64", "sync/atomic.StoreUint64", "internal/synctest.Disassociate[sync.WaitGroup]", "sync.runtime_Semrelease", "(*sync.WaitGroup).Done", "(*sync.WaitGroup).Wait", "internal/race.Acquire", "internal/synctest.IsAssociated[sync.WaitGroup]", "sync/atomic.CompareAndSwapUint64", "internal/race.Write", "sync.runtime_SemacquireWaitGroup"], unfollowed := true, recurses := true, named := ["internal/bytealg.MaxLen", "scrub/token.signs", "scrub/clean.beginnings"], leaving := true, apart := false, laid := [("scrub/token.signs", laid_scrub_token_signs), ("scrub/clean.beginnings", laid_scrub_clean_beginnings)], narrowed := true }
def RefusedUptoSaid : Prop := refusedUptoRow.holds Tryz.pinned (OpenSpec.upto refusedSpec)

end Rows
end Go.Proofs.YtlpmjpmefdpcmaaGreatDoor
