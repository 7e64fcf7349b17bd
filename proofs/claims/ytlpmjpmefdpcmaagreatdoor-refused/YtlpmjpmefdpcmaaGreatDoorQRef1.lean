import Derived.Test.YtlpmjpmefdpcmaaGreatDoorQCln
import Derived.Test.YtlpmjpmefdpcmaaGreatDoorQTok2
import Derived.Test.YtlpmjpmefdpcmaaGreatDoorQBld4
import Derived.Test.YtlpmjpmefdpcmaaGreatDoorQPlD
import Derived.Laws.OwnMore
/- What Refused asks: pick of any number; bytes that are made; CleanAll where it refuses. -/
namespace Go.Proofs.YtlpmjpmefdpcmaaGreatDoor
open Go.RowKit Scrub Go.Shelf
set_option maxHeartbeats 1000000 in
theorem pick_neg (c : Int) (n : Nat) (w : World) (hc : c < 0) (hc2 : -9223372036854775808 ≤ c) (hn : 0 < n) (hn2 : n ≤ 1000) :
    Calls Tryz.prog 27 #[.int .i64 c, .int .i64 (n : Int)] w fun e w' => (∃ m : Nat, m < n ∧ e = .returned (.int .i64 (m : Int))) ∧ w' = w := by
  have hnz : ((n : Int) = 0) = False := eq_false (by omega)
  go_enter Tryz.func27, Tryz.ntmps27
  go_wp2_with fail
  go_ret
  obtain ⟨k, hk⟩ : ∃ k : Nat, c + 1 = -(k : Int) := ⟨(-(c + 1)).toNat, by omega⟩
  refine ⟨⟨k % n, Nat.mod_lt _ hn, ?_⟩, rfl⟩
  show Ending.returned (.int .i64 (-(c + 1).tmod (n : Int))) = _
  rw [hk, Int.neg_tmod, Int.neg_neg]
  congr 2
theorem pick_int (c : Int) (n : Nat) (w : World) (hc1 : -9223372036854775808 ≤ c) (hc2 : c ≤ 9223372036854775807) (hn : 0 < n) (hn2 : n ≤ 1000) :
    Calls Tryz.prog 27 #[.int .i64 c, .int .i64 (n : Int)] w fun e w' => (∃ m : Nat, m < n ∧ e = .returned (.int .i64 (m : Int))) ∧ w' = w := by
  by_cases hc : c < 0
  · exact pick_neg c n w hc hc1 hn hn2
  · obtain ⟨k, rfl⟩ : ∃ k : Nat, c = (k : Int) := ⟨c.toNat, by omega⟩
    refine (pick_any k n w (by omega) hn hn2).mono ?_
    rintro e w' ⟨h1, h2⟩
    exact ⟨⟨k % n, Nat.mod_lt _ hn, h1⟩, h2⟩
/-- Some bytes that were made. -/
theorem infoU8 : (Tryz.prog.info? 5).map (fun i => (i.zero, i.size, i.bytes)) = some (some (.int .u8 0), 1, 1) := by kernel_rfl
theorem make_bytes (n : Nat) (w : World) (hn : n ≤ 1000) : ∃ w', (Instr.makeSlice 60 (.int .i64 (n : Int)) (.int .i64 (n : Int))).run Tryz.prog w = .ok (.slice (some ⟨w.heap.size, 0, none⟩) n n) w' ∧ Kept [] w w' ∧ BytesAt w' w.heap.size (List.replicate n 0) := by
  obtain ⟨i0, hi, hz0, hz1, hz2⟩ := info_parts infoU8
  obtain ⟨w', h1, h2, h3⟩ := run_makeSlice_full w 0 60 5 i0 (.int .u8 0) 1 Tryz.underlying60 hi hz0 hz1 .i64 .i64 n (by omega) (by rw [hz2]; omega) (by unfold maxLen; omega) (Nat.zero_le _)
  refine ⟨w', h1, (Kept.grown h3 (by simp)), ?_⟩
  intro k hk
  have hk' : k < n := by simpa using hk
  have e : (madeCells (Value.int .u8 0).cells (n * 1)).toList = List.replicate n (.int .u8 0) := by
    rw [Nat.mul_one]
    exact toList_madeCells_one _ n
  rw [e] at h2
  have hcell := row_cell h2 (j := k) (u := .int .u8 0) (by simp [hk'])
  refine ⟨?_, row_free h2 k⟩
  rw [hcell]
  simp
theorem make_strs (n : Nat) (w : World) (hn : n ≤ 1000) : ∃ w', (Instr.makeSlice 22 (.int .i64 (n : Int)) (.int .i64 (n : Int))).run Tryz.prog w = .ok (.slice (some ⟨w.heap.size, 0, none⟩) n n) w' ∧ Kept [] w w' ∧ SOwn w' (.slice (some ⟨w.heap.size, 0, none⟩) n n) (List.replicate n []) := by
  obtain ⟨i0, hi, hz0, hz1, hz2⟩ := info_parts infoStr
  obtain ⟨w', h1, h2, h3⟩ := run_makeSlice_full w 0 22 9 i0 (.string ⟨#[]⟩) 1 Tryz.underlying22 hi hz0 hz1 .i64 .i64 n (by omega) (by rw [hz2]; omega) (by unfold maxLen; omega) (Nat.zero_le _)
  refine ⟨w', h1, (Kept.grown h3 (by simp)), ?_⟩
  have e : (madeCells (Value.string ⟨#[]⟩).cells (n * 1)).toList = List.replicate n (.string ⟨#[]⟩) := by
    rw [Nat.mul_one]
    exact toList_madeCells_one _ n
  rw [e] at h2
  unfold SOwn
  have e2 : (List.replicate n ([] : List UInt8)).length = n := by simp
  have e3 : strCells (List.replicate n ([] : List UInt8)) = List.replicate n (.string ⟨#[]⟩) := by simp [strCells]
  rw [e2, e3]
  exact h2
end Go.Proofs.YtlpmjpmefdpcmaaGreatDoor
