import Derived.Test.YtlpmjpmefdpcmaaGreatDoorQBld4
namespace Go.Proofs.YtlpmjpmefdpcmaaGreatDoor
open Go.RowKit Scrub Go.Shelf
theorem infoNode : (Tryz.prog.info? 42).map (fun i => (i.zero, i.size, i.bytes)) = some (some (.agg #[.string ⟨#[]⟩, .slice none 0 0, .slice none 0 0, .string ⟨#[]⟩]), 4, 80) := by kernel_rfl
set_option maxHeartbeats 1000000 in
theorem list_top (bb : Nat) (tv ov : Value) (ts : List NodeR) (F : List Nat) (w : World) (h : BAt w bb tv ov ts [] F) :
    Calls Tryz.prog 117 #[.pointer (some ⟨bb, 0, none⟩)] w fun e w' => e = .returned (.pointer (some ⟨bb, 0, none⟩)) ∧ ∃ n, w' = w.drewN n := by
  obtain ⟨c0, c1, c2, c3⟩ := h.cells
  obtain ⟨oa, oc, rfl⟩ := ownsRow_form h.2.2.1.1
  clear h
  go_enter Tryz.func117, Tryz.ntmps117
  go_wp2
  go_ret
  exact ⟨rfl, 0, rfl⟩
set_option maxHeartbeats 1000000 in
theorem list_kid (bb g cap : Nat) (tv : Value) (ts os : List NodeR) (y : NodeR) (F : List Nat) (w : World) (h : BAt w bb tv (.slice (some ⟨g, 0, none⟩) (os.length + 1) cap) ts (os ++ [y]) F) (hl : os.length ≤ 1000) :
    Calls Tryz.prog 117 #[.pointer (some ⟨bb, 0, none⟩)] w fun e w' => e = .returned (.pointer (some ⟨g, os.length * 4 + 2, none⟩)) ∧ ∃ n, w' = w.drewN n := by
  obtain ⟨c0, c1, c2, c3⟩ := h.cells
  have hne : (((os.length : Int) + 1) == 0) = false := by rw [beq_eq_false_iff_ne]; omega
  clear h
  go_enter Tryz.func117, Tryz.ntmps117
  go_wp2
  go_quiet (fail)
  go_wp2
  go_ret
  exact ⟨rfl, _, rfl⟩
end Go.Proofs.YtlpmjpmefdpcmaaGreatDoor
