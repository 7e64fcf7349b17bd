import Derived.Test.YtlpmjpmefdpcmaaGreatDoorQParse
import Derived.Test.YtlpmjpmefdpcmaaGreatDoorQLies
import Derived.Test.YtlpmjpmefdpcmaaGreatDoorQCl3
import Derived.Test.YtlpmjpmefdpcmaaGreatDoorQLiesH
import Derived.Deep.LoopGhost
import Derived.Test.YtlpmjpmefdpcmaaGreatDoorQCl9
namespace Go.Proofs.YtlpmjpmefdpcmaaGreatDoor
open Go.RowKit Scrub Go.Shelf
set_option maxHeartbeats 1000000 in
theorem short_any (s : ByteArray) (n : Nat) (w : World) (hn : n ≤ 1000) :
    Calls Tryz.prog 21 #[.string s, .int .i64 (n : Int)] w fun e w' => ∃ t : ByteArray, e = .returned (.string t) ∧ t.data.toList = s.data.toList.take n ∧ t.size ≤ n ∧ w' = w := by
  by_cases h : n < s.size
  · have hgt : (n : Int) < (s.size : Int) := by omega
    have hle : (n : Int) ≤ (s.size : Int) := by omega
    have h0 : (0 : Int) ≤ (n : Int) := by omega
    have HT : Hid ((s.extract 0 n).data.toList = s.data.toList.take n) := by show _ = _; simp
    have HS : Hid ((s.extract 0 n).size ≤ n) := by show _ ≤ _; simp; omega
    go_enter Tryz.func21, Tryz.ntmps21
    go_wp2_with fail
    go_ret
    exact ⟨_, rfl, HT.out, HS.out, rfl⟩
  · have hgt : ((n : Int) < (s.size : Int)) = False := by simp; omega
    have HT : Hid (s.data.toList = s.data.toList.take n) := by show _ = _; rw [List.take_of_length_le (by simp; omega)]
    have HS : Hid (s.size ≤ n) := by show _ ≤ _; omega
    go_enter Tryz.func21, Tryz.ntmps21
    go_wp2_with fail
    go_ret
    exact ⟨_, rfl, HT.out, HS.out, rfl⟩
/-- A tree that was made, as plain data. -/
theorem NewTree.lies {w w' : World} {v : Value} {ev : List Ev} (h : NewTree w w' v ev) : ∃ (d : Nat) (f : GF d), Lies d w' v f ∧ evF d f = ev ∧ niceF d f := by
  obtain ⟨fp, ⟨d, hr⟩, _⟩ := h
  obtain ⟨f, h1, h2, h3⟩ := Rep.lies d hr
  exact ⟨d, f, h1, h2, h3⟩
theorem NewTree.kept {w w' : World} {v : Value} {ev : List Ev} (h : NewTree w w' v ev) : Kept [] w w' := by
  obtain ⟨fp, _, _, _, h4⟩ := h
  exact h4
end Go.Proofs.YtlpmjpmefdpcmaaGreatDoor
/- scrubkeep: pick, has, begins. -/
namespace Go.Proofs.YtlpmjpmefdpcmaaGreatDoor
open Go.RowKit Scrub Go.Shelf
set_option maxHeartbeats 1000000 in
theorem pick_any (c n : Nat) (w : World) (hc : c ≤ 9223372036854775807) (hn : 0 < n) (hn2 : n ≤ 1000) :
    Calls Tryz.prog 27 #[.int .i64 (c : Int), .int .i64 (n : Int)] w fun e w' => e = .returned (.int .i64 ((c % n : Nat) : Int)) ∧ w' = w := by
  have h0 : ((c : Int) < 0) = False := eq_false (by omega)
  have hnz : ((n : Int) = 0) = False := eq_false (by omega)
  go_enter Tryz.func27, Tryz.ntmps27
  go_wp2_with fail
  go_ret
  exact ⟨by simp, rfl⟩
set_option maxHeartbeats 1000000 in
theorem has_any (v : Value) (l : List (List UInt8)) (s : List UInt8) (w : World) (h : StrsAt w v l) (hl : l.length ≤ 1099511627776) :
    Calls Tryz.prog 54 #[v, .string ⟨s.toArray⟩] w fun e w' => e = .returned (.bool (l.contains s)) ∧ w' = w := by
  obtain ⟨a, c, rfl, hc⟩ := h
  have HC : Hid _ := hc
  clear hc
  go_enter Tryz.func54, Tryz.ntmps54
  go_wp2_with fail
  go_loopg [5] l.length (fun g x wr => ∃ k : Nat, k ≤ l.length ∧ g = l.length - k ∧ x = .int .i64 (k : Int) ∧ wr = w ∧ s ∉ l.take k)
  case atStart => exact ⟨0, by omega, rfl, rfl, rfl, by simp⟩
  case round =>
    obtain ⟨k, hk, hgk, rfl, rfl, hno⟩ := hrel
    have HG : Hid _ := hgk
    have HNO : Hid _ := hno
    clear hgk hno
    by_cases hlt : k < l.length
    · have hlt' : (k : Int) < (l.length : Int) := by omega
      have hge : (0 : Int) ≤ (k : Int) := by omega
      obtain ⟨g, o, rfl, c0⟩ := HC.out k hlt
      by_cases heq : s = l[k]
      · have hmem : s ∈ l := heq ▸ List.getElem_mem hlt
        rw [← heq] at c0
        go_wp2_with fail
        go_ret
        exact ⟨by simp [hmem], rfl⟩
      · have hstep := not_mem_take hlt HNO.out heq
        have HST : Hid _ := hstep
        clear hstep
        go_wp2_with fail
        · rename_i h
          exact absurd (by simpa using h : l[k] = s).symm heq
        · go_roundg (l.length - (k + 1))
          case measure => rw [HG.out]; omega
          case rel => exact ⟨k + 1, by omega, rfl, rfl, rfl, HST.out⟩
    · have hlt' : ((k : Int) < (l.length : Int)) = False := by simp; omega
      go_wp2_with fail
      go_ret
      have e : l.take k = l := List.take_of_length_le (by omega)
      have h := HNO.out
      rw [e] at h
      exact ⟨by simp; exact h, rfl⟩
theorem prefix_long {b s : List UInt8} (h : ¬ b.length ≤ s.length) : b.isPrefixOf s = false := by
  cases hb : b.isPrefixOf s with
  | false => rfl
  | true =>
    rw [List.isPrefixOf_iff_prefix] at hb
    exact absurd hb.length_le h
theorem prefix_take {b s : List UInt8} : b.isPrefixOf s = decide (s.take b.length = b) := by
  rw [Bool.eq_iff_iff, List.isPrefixOf_iff_prefix, decide_eq_true_eq, List.prefix_iff_eq_take]
  exact ⟨fun h => h.symm, fun h => h.symm⟩
theorem any_take {l : List (List UInt8)} {s : List UInt8} {k : Nat} (hk : k < l.length) (h : (l.take k).any (fun b => b.isPrefixOf s) = false) (he : (l[k]).isPrefixOf s = false) : (l.take (k + 1)).any (fun b => b.isPrefixOf s) = false := by
  rw [List.take_succ_eq_append_getElem hk, List.any_append, h]
  simpa using he
theorem any_mem {l : List (List UInt8)} {s : List UInt8} {k : Nat} (hk : k < l.length) (he : (l[k]).isPrefixOf s = true) : l.any (fun b => b.isPrefixOf s) = true := List.any_eq_true.2 ⟨l[k], List.getElem_mem hk, he⟩
set_option maxHeartbeats 1000000 in
theorem kbegins_any (v : Value) (l : List (List UInt8)) (s : List UInt8) (w : World) (h : StrsAt w v l) (hl : l.length ≤ 1099511627776) :
    Calls Tryz.prog 55 #[.string ⟨s.toArray⟩, v] w fun e w' => e = .returned (.bool (l.any (fun b => b.isPrefixOf s))) ∧ ∃ n, w' = w.drewN n := by
  obtain ⟨a, c, rfl, hc⟩ := h
  have HC : Hid _ := hc
  clear hc
  go_enter Tryz.func55, Tryz.ntmps55
  go_wp2_with fail
  go_loopg [5] l.length (fun g x wr => ∃ k n : Nat, k ≤ l.length ∧ g = l.length - k ∧ x = .int .i64 (k : Int) ∧ wr = w.drewN n ∧ (l.take k).any (fun b => b.isPrefixOf s) = false)
  case atStart => exact ⟨0, 0, by omega, rfl, rfl, rfl, by simp⟩
  case round =>
    obtain ⟨k, n, hk, hgk, rfl, rfl, hno⟩ := hrel
    have HG : Hid _ := hgk
    have HNO : Hid _ := hno
    clear hgk hno
    by_cases hlt : k < l.length
    · have hlt' : (k : Int) < (l.length : Int) := by omega
      have hge : (0 : Int) ≤ (k : Int) := by omega
      obtain ⟨g, o, rfl, c0⟩ := HC.out k hlt
      by_cases hle : (l[k]).length ≤ s.length
      · have hle' : ((l[k]).length : Int) ≤ (s.length : Int) := by omega
        have hl0 : (0 : Int) ≤ ((l[k]).length : Int) := by omega
        have hb := prefix_take (b := l[k]) (s := s)
        have HB : Hid _ := hb
        have HT : Hid _ := any_take (s := s) hlt HNO.out
        have HM : Hid _ := any_mem (s := s) hlt
        clear hb
        generalize l[k] = b at *
        have HX : Hid (((⟨s.toArray⟩ : ByteArray).extract 0 b.length).toList = s.take b.length) := by
          show _ = _
          rw [Go.ByteArray.toList_eq]
          simp
        by_cases heq : s.take b.length = b
        · have HEQ : Hid (s.take b.length = b) := heq
          have HP : Hid (b.isPrefixOf s = true) := by show _ = _; rw [HB.out]; exact decide_eq_true heq
          clear heq
          go_wp2_with fail
          go_quiet (fail)
          go_wp2_with fail
          · go_ret
            exact ⟨by rw [HM.out HP.out]; rfl, _, by first | rfl | exact drewN2 _ _ _⟩
          · rename_i h
            rw [HX.out, HEQ.out] at h
            simp at h
        · have HNE : Hid (¬ s.take b.length = b) := heq
          have HP : Hid (b.isPrefixOf s = false) := by show _ = _; rw [HB.out]; exact decide_eq_false heq
          clear heq
          go_wp2_with fail
          go_quiet (fail)
          go_wp2_with fail
          · rename_i h
            have h2 : ((⟨s.toArray⟩ : ByteArray).extract 0 b.length).toList = b := by simpa using h
            exact absurd (HX.out.symm.trans h2) HNE.out
          · go_roundg (l.length - (k + 1))
            case measure => rw [HG.out]; omega
            case rel => exact ⟨k + 1, _, by omega, rfl, rfl, by first | rfl | exact drewN2 _ _ _, HT.out HP.out⟩
      · have hle' : (((l[k]).length : Int) ≤ (s.length : Int)) = False := eq_false (by omega)
        have hst := any_take hlt HNO.out (prefix_long hle)
        have HST : Hid _ := hst
        clear hst hle
        generalize l[k] = b at *
        go_wp2_with fail
        go_quiet (fail)
        go_wp2_with fail
        go_roundg (l.length - (k + 1))
        case measure => rw [HG.out]; omega
        case rel => exact ⟨k + 1, _, by omega, rfl, rfl, by first | rfl | exact drewN2 _ _ _, HST.out⟩
    · have hlt' : ((k : Int) < (l.length : Int)) = False := by simp; omega
      go_wp2_with fail
      go_ret
      have e : l.take k = l := List.take_of_length_le (by omega)
      have h := HNO.out
      rw [e] at h
      exact ⟨by rw [h]; rfl, n, rfl⟩
end Go.Proofs.YtlpmjpmefdpcmaaGreatDoor
/- scrubkeep: the example that is cleaned. -/
namespace Go.Proofs.YtlpmjpmefdpcmaaGreatDoor
open Go.RowKit Scrub Go.Shelf
theorem ex_clean : cleanP ([[112]], []) [60, 112, 32, 120, 61, 49, 62, 97, 60, 98, 62, 99, 60, 47, 98, 62, 60, 47, 112, 62] = [60, 112, 62, 97, 99, 60, 47, 112, 62] := by rfl
theorem StrsAt.nil (w : World) (a : Option Addr) (c : Nat) : StrsAt w (.slice a 0 c) [] := ⟨a, c, rfl, fun i hi => absurd hi (by simp)⟩
/-- What a statement begins with: the tables are as they are laid. -/
def Tabs (w : World) : Prop := Glob w ∧ GlobB w
theorem Tabs.kept {w w' : World} (h : Tabs w) (hk : Kept [] w w') : Tabs w' := ⟨h.1.kept hk (by simp) (by simp), h.2.kept hk⟩
theorem clean_call (ev av : Value) (p : Pol) (s : List UInt8) (w : World) (hp : PolAt w ev av p) (ht : Tabs w) (hb : isPolP p = true) (hs : s.length ≤ 600) :
    Calls Tryz.prog 20 #[.agg #[ev, av], .string ⟨s.toArray⟩] w fun e w' => e = .returned (.tuple #[.string ⟨(cleanP p s).toArray⟩, .int .i64 0]) ∧ Kept [] w w' := by
  have h := clean_ok ev av p ⟨s.toArray⟩ w hp ht.1 ht.2 hb (by simpa [ByteArray.size] using hs)
  simpa using h
set_option maxRecDepth 100000 in
set_option maxHeartbeats 1000000 in
theorem cleanX_any (w : World) (ht : Tabs w) : Calls Tryz.prog 18 #[] w fun e w' => e = .returned (.bool true) ∧ Kept [] w w' := by
  have HC : Hid (∀ w' v, Kept [] w w' → StrsAt w' v [[112]] → Calls Tryz.prog 20 #[.agg #[v, .slice none 0 0], .string ⟨#[60, 112, 32, 120, 61, 49, 62, 97, 60, 98, 62, 99, 60, 47, 98, 62, 60, 47, 112, 62]⟩] w' fun e w'' => e = .returned (.tuple #[.string ⟨#[60, 112, 62, 97, 99, 60, 47, 112, 62]⟩, .int .i64 0]) ∧ Kept [] w' w'') := fun w' v hk hv => by
    have h := clean_call v (.slice none 0 0) ([[112]], []) [60, 112, 32, 120, 61, 49, 62, 97, 60, 98, 62, 99, 60, 47, 98, 62, 60, 47, 112, 62] w' ⟨hv, StrsAt.nil _ _ _⟩ (ht.kept hk) (by decide) (by decide)
    rw [ex_clean] at h
    exact h
  clear ht
  go_enter Tryz.func18, Tryz.ntmps18
  go_wp2_with fail
  refine (HC.out _ _ ((Kept.refl [] w).alloc _) ?_).mono ?_
  · refine ⟨_, _, rfl, fun i hi => ⟨w.heap.size, 0, rfl, ?_⟩⟩
    have hi' : i < 1 := hi
    obtain rfl : i = 0 := by omega
    unfold World.cell?
    rw [heap_alloc_new]
    rfl
  · rintro e w1 ⟨rfl, hk1⟩
    go_wp2_with fail
    go_ret
    exact ⟨rfl, ((Kept.refl [] w).alloc _).trans hk1⟩
end Go.Proofs.YtlpmjpmefdpcmaaGreatDoor
