import Derived.Test.YtlpmjpmefdpcmaaGreatDoorQLies
/- A policy, as plain data. No function of the program in it. -/
namespace Go.Proofs.YtlpmjpmefdpcmaaGreatDoor
open Go.RowKit Scrub Go.Shelf
/-- A policy: names of elements, names of attributes. -/
abbrev Pol := List (List UInt8) × List (List UInt8)
def beginsWellP (v : List UInt8) : Bool := [[104, 116, 116, 112, 58], [104, 116, 116, 112, 115, 58], [47], [35]].any (fun b => b.isPrefixOf v)
def leadsP (n : List UInt8) : Bool := n == [104, 114, 101, 102] || n == [115, 114, 99]
def letsAP (p : Pol) (a : List UInt8 × List UInt8) : Bool := p.2.contains a.1 && (!leadsP a.1 || beginsWellP a.2)
end Go.Proofs.YtlpmjpmefdpcmaaGreatDoor
