import Derived.Test.YtlpmjpmefdpcmaaGreatDoorQParse
import Derived.Test.YtlpmjpmefdpcmaaGreatDoorQLies
namespace Go.Proofs.YtlpmjpmefdpcmaaGreatDoor
open Go.RowKit Scrub Go.Shelf
set_option maxHeartbeats 1000000 in
theorem short_any (s : ByteArray) (n : Nat) (w : World) (hn : n ≤ 1000) :
    Calls Tryz.prog 21 #[.string s, .int .i64 (n : Int)] w fun e w' => ∃ t : ByteArray, e = .returned (.string t) ∧ t.data.toList = s.data.toList.take n ∧ t.size ≤ n ∧ w' = w := by
  by_cases h : n < s.size
  · have hgt : (n : Int) < (s.size : Int) := by omega
    have hle : (n : Int) ≤ (s.size : Int) := by omega
    have h0 : (0 : Int) ≤ (n : Int) := by omega
    have HT : Hid ((s.extract 0 n).data.toList = s.data.toList.take n) := by show _ = _; simp
    have HS : Hid ((s.extract 0 n).size ≤ n) := by show _ ≤ _; simp; omega
    go_enter Tryz.func21, Tryz.ntmps21
    go_wp2_with fail
    go_ret
    exact ⟨_, rfl, HT.out, HS.out, rfl⟩
  · have hgt : ((n : Int) < (s.size : Int)) = False := by simp; omega
    have HT : Hid (s.data.toList = s.data.toList.take n) := by show _ = _; rw [List.take_of_length_le (by simp; omega)]
    have HS : Hid (s.size ≤ n) := by show _ ≤ _; omega
    go_enter Tryz.func21, Tryz.ntmps21
    go_wp2_with fail
    go_ret
    exact ⟨_, rfl, HT.out, HS.out, rfl⟩
/-- A tree that was made, as plain data. -/
theorem NewTree.lies {w w' : World} {v : Value} {ev : List Ev} (h : NewTree w w' v ev) : ∃ (d : Nat) (f : GF d), Lies d w' v f ∧ evF d f = ev ∧ niceF d f := by
  obtain ⟨fp, ⟨d, hr⟩, _⟩ := h
  obtain ⟨f, h1, h2, h3⟩ := Rep.lies d hr
  exact ⟨d, f, h1, h2, h3⟩
theorem NewTree.kept {w w' : World} {v : Value} {ev : List Ev} (h : NewTree w w' v ev) : Kept [] w w' := by
  obtain ⟨fp, _, _, _, h4⟩ := h
  exact h4
end Go.Proofs.YtlpmjpmefdpcmaaGreatDoor
