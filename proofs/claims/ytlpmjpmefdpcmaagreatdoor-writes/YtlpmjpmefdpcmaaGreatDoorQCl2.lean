import Derived.Test.YtlpmjpmefdpcmaaGreatDoorQPol
import Derived.Test.YtlpmjpmefdpcmaaGreatDoorQSigns
/- Lists of strings; names; what a policy lets by. -/
namespace Go.Proofs.YtlpmjpmefdpcmaaGreatDoor
open Go.RowKit Scrub Go.Shelf
/-- A list of strings lies there. -/
def StrsAt (w : World) (v : Value) (l : List (List UInt8)) : Prop :=
  ∃ a c, v = .slice a l.length c ∧ ∀ i (h : i < l.length), ∃ g o, a = some ⟨g, o, none⟩ ∧ w.cell? ⟨g, o + i, none⟩ = some (.string ⟨(l[i]).toArray⟩)
theorem StrsAt.kept {w w' : World} {v : Value} {l : List (List UInt8)} (h : StrsAt w v l) (hk : Kept [] w w') : StrsAt w' v l := by
  obtain ⟨a, c, h1, h2⟩ := h
  refine ⟨a, c, h1, fun i hi => ?_⟩
  obtain ⟨g, o, e, c1⟩ := h2 i hi
  exact ⟨g, o, e, cell_kept hk c1⟩
def noNameP (s : List UInt8) : Bool := decide (s = []) || decide (20 < s.length)
set_option maxHeartbeats 1000000 in
theorem isNoName_any (s : List UInt8) (w : World) :
    Calls Tryz.prog 105 #[.string ⟨s.toArray⟩] w fun e w' => e = .returned (.bool (noNameP s)) ∧ w' = w := by
  go_enter Tryz.func105, Tryz.ntmps105
  go_wp2
  · go_ret
    rename_i h
    exact ⟨by simp [noNameP, h], rfl⟩
  · go_ret
    rename_i h
    refine ⟨?_, rfl⟩
    have e : (decide (20 < (s.length : Int))) = decide (20 < s.length) := by
      apply decide_eq_decide.2
      omega
    have e2 : s.isEmpty = decide (s = []) := by cases s <;> simp
    show Ending.returned (.bool (s.isEmpty || decide (20 < (s.length : Int)))) = _
    rw [e, e2]
    rfl
theorem not_mem_take {l : List (List UInt8)} {s : List UInt8} {k : Nat} (hk : k < l.length) (h : s ∉ l.take k) (he : ¬ s = l[k]) : s ∉ l.take (k + 1) := by
  intro hc
  rw [List.take_succ_eq_append_getElem hk] at hc
  rcases List.mem_append.1 hc with hc | hc
  · exact h hc
  · exact he (List.mem_singleton.1 hc)
set_option maxHeartbeats 1000000 in
theorem index_any (v : Value) (l : List (List UInt8)) (s : List UInt8) (w : World) (h : StrsAt w v l) (hl : l.length ≤ 1099511627776) :
    Calls Tryz.prog 225 #[v, .string ⟨s.toArray⟩] w fun e w' => (∃ k : Int, e = .returned (.int .i64 k) ∧ (decide (0 ≤ k) = l.contains s)) ∧ w' = w := by
  obtain ⟨a, c, rfl, hc⟩ := h
  have HC : Hid _ := hc
  clear hc
  go_enter Tryz.func225, Tryz.ntmps225
  go_wp2_with fail
  go_loopg [8] l.length (fun g x wr => ∃ k : Nat, k ≤ l.length ∧ g = l.length - k ∧ x = .int .i64 (k : Int) ∧ wr = w ∧ s ∉ l.take k)
  case atStart => exact ⟨0, by omega, rfl, rfl, rfl, by simp⟩
  case round =>
    obtain ⟨k, hk, hgk, rfl, rfl, hno⟩ := hrel
    have HG : Hid _ := hgk
    have HNO : Hid _ := hno
    clear hgk hno
    by_cases hlt : k < l.length
    · have hlt' : (k : Int) < (l.length : Int) := by omega
      have hge : (0 : Int) ≤ (k : Int) := by omega
      obtain ⟨g, o, rfl, c0⟩ := HC.out k hlt
      by_cases heq : s = l[k]
      · have hmem : s ∈ l := heq ▸ List.getElem_mem hlt
        rw [← heq] at c0
        go_wp2_with fail
        go_ret
        refine ⟨⟨_, rfl, ?_⟩, rfl⟩
        simp [hmem]
      · have hstep := not_mem_take hlt HNO.out heq
        have HST : Hid _ := hstep
        clear hstep
        go_wp2_with fail
        · rename_i h
          exact absurd (by simpa using h) heq
        · go_roundg (l.length - (k + 1))
          case measure => rw [HG.out]; omega
          case rel => exact ⟨k + 1, by omega, rfl, rfl, rfl, HST.out⟩
    · have hlt' : ((k : Int) < (l.length : Int)) = False := by simp; omega
      go_wp2_with fail
      go_ret
      refine ⟨⟨_, rfl, ?_⟩, rfl⟩
      have e : l.take k = l := List.take_of_length_le (by omega)
      have h := HNO.out
      rw [e] at h
      simp
      exact h
set_option maxHeartbeats 1000000 in
theorem contains_any (v : Value) (l : List (List UInt8)) (s : List UInt8) (w : World) (h : StrsAt w v l) (hl : l.length ≤ 1099511627776) :
    Calls Tryz.prog 209 #[v, .string ⟨s.toArray⟩] w fun e w' => e = .returned (.bool (l.contains s)) ∧ w' = w := by
  have HI := index_any v l s w h hl
  obtain ⟨a, c, rfl, _⟩ := h
  go_enter Tryz.func209, Tryz.ntmps209
  go_wp2_with (go_at_call 225; refine HI.mono ?_; rintro e w1 ⟨⟨k, rfl, hk⟩, rfl⟩; have HK : Hid _ := hk; clear hk)
  go_ret
  exact ⟨by rw [← HK.out]; rfl, rfl⟩
set_option maxHeartbeats 1000000 in
theorem indexFunc_any (v : Value) (l : List (List UInt8)) (w : World) (h : StrsAt w v l) (hl : l.length ≤ 1099511627776) :
    Calls Tryz.prog 82 #[v, .func (.func 105) #[] #[]] w fun e w' => (∃ k : Int, e = .returned (.int .i64 k) ∧ (decide (0 ≤ k) = l.any noNameP)) ∧ w' = w := by
  obtain ⟨a, c, rfl, hc⟩ := h
  have HC : Hid _ := hc
  clear hc
  go_enter Tryz.func82, Tryz.ntmps82
  go_wp2_with fail
  go_loopg [8] l.length (fun g x wr => ∃ k : Nat, k ≤ l.length ∧ g = l.length - k ∧ x = .int .i64 (k : Int) ∧ wr = w ∧ l.any noNameP = (l.drop k).any noNameP)
  case atStart => exact ⟨0, by omega, rfl, rfl, rfl, by simp⟩
  case round =>
    obtain ⟨k, hk, hgk, rfl, rfl, hno⟩ := hrel
    have HG : Hid _ := hgk
    have HNO : Hid _ := hno
    clear hgk hno
    by_cases hlt : k < l.length
    · have hlt' : (k : Int) < (l.length : Int) := by omega
      have hge : (0 : Int) ≤ (k : Int) := by omega
      obtain ⟨g, o, rfl, c0⟩ := HC.out k hlt
      have hd : (l.drop k).any noNameP = (noNameP l[k] || (l.drop (k + 1)).any noNameP) := by rw [List.drop_eq_getElem_cons hlt]; rfl
      have HD : Hid _ := hd
      have HF := isNoName_any l[k] wr
      clear hd
      cases hp : noNameP l[k] with
      | true =>
        rw [hp] at HF
        go_wp2_with fail
        refine HF.mono ?_
        rintro e w1 ⟨rfl, rfl⟩
        go_wp2_with fail
        go_ret
        refine ⟨⟨_, rfl, ?_⟩, rfl⟩
        rw [HNO.out, HD.out, hp]
        simp
      | false =>
        rw [hp] at HF
        go_wp2_with fail
        refine HF.mono ?_
        rintro e w1 ⟨rfl, rfl⟩
        go_wp2_with fail
        go_roundg (l.length - (k + 1))
        case measure => rw [HG.out]; omega
        case rel => exact ⟨k + 1, by omega, rfl, rfl, rfl, by rw [HNO.out, HD.out, hp]; rfl⟩
    · have hlt' : ((k : Int) < (l.length : Int)) = False := by simp; omega
      go_wp2_with fail
      go_ret
      refine ⟨⟨_, rfl, ?_⟩, rfl⟩
      rw [HNO.out, List.drop_eq_nil_of_le (by omega)]
      rfl
def areNamesP (l : List (List UInt8)) : Bool := decide (l.length ≤ 12) && !l.any noNameP
set_option maxHeartbeats 1000000 in
theorem containsFunc_any (v : Value) (l : List (List UInt8)) (w : World) (h : StrsAt w v l) (hl : l.length ≤ 1099511627776) :
    Calls Tryz.prog 56 #[v, .func (.func 105) #[] #[]] w fun e w' => e = .returned (.bool (l.any noNameP)) ∧ w' = w := by
  have HI := indexFunc_any v l w h hl
  obtain ⟨a, c, rfl, _⟩ := h
  go_enter Tryz.func56, Tryz.ntmps56
  go_wp2_with (go_at_call 82; refine HI.mono ?_; rintro e w1 ⟨⟨k, rfl, hk⟩, rfl⟩; have HK : Hid _ := hk; clear hk)
  go_ret
  exact ⟨by rw [← HK.out]; rfl, rfl⟩
set_option maxHeartbeats 1000000 in
theorem areNames_any (v : Value) (l : List (List UInt8)) (w : World) (h : StrsAt w v l) :
    Calls Tryz.prog 73 #[v] w fun e w' => e = .returned (.bool (areNamesP l)) ∧ w' = w := by
  by_cases hl : l.length ≤ 12
  · have HI := containsFunc_any v l w h (by omega)
    obtain ⟨a, c, rfl, _⟩ := h
    have hle : (l.length : Int) ≤ 12 := by omega
    go_enter Tryz.func73, Tryz.ntmps73
    go_wp2_with (go_at_call 56; refine HI.mono ?_; rintro e w1 ⟨rfl, rfl⟩)
    go_ret
    exact ⟨by simp [areNamesP, hl], rfl⟩
  · obtain ⟨a, c, rfl, _⟩ := h
    have hle : ((l.length : Int) ≤ 12) = False := by simp; omega
    go_enter Tryz.func73, Tryz.ntmps73
    go_wp2_with fail
    go_ret
    exact ⟨by simp [areNamesP, hl], rfl⟩
/-- The policy in memory: two lists of names. -/
def PolAt (w : World) (ev av : Value) (p : Pol) : Prop := StrsAt w ev p.1 ∧ StrsAt w av p.2
theorem PolAt.kept {w w' : World} {ev av : Value} {p : Pol} (h : PolAt w ev av p) (hk : Kept [] w w') : PolAt w' ev av p := ⟨h.1.kept hk, h.2.kept hk⟩
theorem StrsAt.form {w : World} {v : Value} {l : List (List UInt8)} (h : StrsAt w v l) : ∃ a c, v = .slice a l.length c := by
  obtain ⟨a, c, h1, _⟩ := h
  exact ⟨a, c, h1⟩
def isPolP (p : Pol) : Bool := areNamesP p.1 && areNamesP p.2
set_option maxHeartbeats 1000000 in
theorem isPolicy_any (ev av : Value) (p : Pol) (w : World) (h : PolAt w ev av p) :
    Calls Tryz.prog 50 #[.agg #[ev, av]] w fun e w' => e = .returned (.bool (isPolP p)) ∧ Kept [] w w' := by
  obtain ⟨h1, h2⟩ := h
  have H1 : Hid (∀ w', Kept [] w w' → Calls Tryz.prog 73 #[ev] w' fun e w'' => e = .returned (.bool (areNamesP p.1)) ∧ w'' = w') := fun w' hk => areNames_any ev p.1 w' (h1.kept hk)
  have H2 : Hid (∀ w', Kept [] w w' → Calls Tryz.prog 73 #[av] w' fun e w'' => e = .returned (.bool (areNamesP p.2)) ∧ w'' = w') := fun w' hk => areNames_any av p.2 w' (h2.kept hk)
  obtain ⟨a1, c1, rfl⟩ := h1.form
  obtain ⟨a2, c2, rfl⟩ := h2.form
  clear h1 h2
  have hk1 : Kept [] w (w.alloc (.cells #[.slice a1 p.1.length c1, .slice a2 p.2.length c2] 33)) := (Kept.refl [] w).alloc _
  have e : isPolP p = (areNamesP p.1 && areNamesP p.2) := rfl
  rw [e]
  go_enter Tryz.func50, Tryz.ntmps50
  cases hp : areNamesP p.1 with
  | true =>
    go_wp2_with fail
    refine (H1.out _ hk1).mono ?_
    rintro e w1 ⟨rfl, rfl⟩
    rw [hp]
    go_wp2_with fail
    refine (H2.out _ hk1).mono ?_
    rintro e w1 ⟨rfl, rfl⟩
    go_wp2_with fail
    go_ret
    exact ⟨by simp, hk1⟩
  | false =>
    go_wp2_with fail
    refine (H1.out _ hk1).mono ?_
    rintro e w1 ⟨rfl, rfl⟩
    rw [hp]
    go_wp2_with fail
    go_ret
    exact ⟨by simp, hk1⟩
set_option maxHeartbeats 1000000 in
theorem letsElement_any (ev av : Value) (p : Pol) (s : List UInt8) (w : World) (h : PolAt w ev av p) (hl : p.1.length ≤ 1099511627776) :
    Calls Tryz.prog 171 #[.agg #[ev, av], .string ⟨s.toArray⟩] w fun e w' => e = .returned (.bool (p.1.contains s)) ∧ Kept [] w w' := by
  obtain ⟨h1, h2⟩ := h
  have H1 : Hid (∀ w', Kept [] w w' → Calls Tryz.prog 209 #[ev, .string ⟨s.toArray⟩] w' fun e w'' => e = .returned (.bool (p.1.contains s)) ∧ w'' = w') := fun w' hk => contains_any ev p.1 s w' (h1.kept hk) hl
  obtain ⟨a1, c1, rfl⟩ := h1.form
  obtain ⟨a2, c2, rfl⟩ := h2.form
  clear h1 h2
  have hk1 : Kept [] w (w.alloc (.cells #[.slice a1 p.1.length c1, .slice a2 p.2.length c2] 33)) := (Kept.refl [] w).alloc _
  generalize p.1.contains s = b at H1 ⊢
  go_enter Tryz.func171, Tryz.ntmps171
  go_wp2_with fail
  refine (H1.out _ hk1).mono ?_
  rintro e w1 ⟨rfl, rfl⟩
  go_wp2_with fail
  go_ret
  exact ⟨rfl, hk1⟩
set_option maxHeartbeats 1000000 in
theorem leads_any (s : List UInt8) (w : World) :
    Calls Tryz.prog 226 #[.string ⟨s.toArray⟩] w fun e w' => e = .returned (.bool (leadsP s)) ∧ w' = w := by
  go_enter Tryz.func226, Tryz.ntmps226
  go_wp2
  · go_ret
    rename_i h
    exact ⟨by rw [h]; rfl, rfl⟩
  · go_ret
    exact ⟨rfl, rfl⟩
end Go.Proofs.YtlpmjpmefdpcmaaGreatDoor
namespace Go.Proofs.YtlpmjpmefdpcmaaGreatDoor
open Go.RowKit Scrub Go.Shelf
/-- The package variable that cleaning reads. -/
def GlobB (w : World) : Prop :=
  w.cell? ⟨2, 0, none⟩ = some (.string ⟨#[104, 116, 116, 112, 58]⟩) ∧ w.cell? ⟨2, 1, none⟩ = some (.string ⟨#[104, 116, 116, 112, 115, 58]⟩) ∧
  w.cell? ⟨2, 2, none⟩ = some (.string ⟨#[47]⟩) ∧ w.cell? ⟨2, 3, none⟩ = some (.string ⟨#[35]⟩)
theorem GlobB.kept {w w' : World} (h : GlobB w) (hk : Kept [] w w') : GlobB w' := ⟨cell_kept hk h.1, cell_kept hk h.2.1, cell_kept hk h.2.2.1, cell_kept hk h.2.2.2⟩
set_option maxHeartbeats 1000000 in
theorem beginsWell_any (s : List UInt8) (w : World) (hg : GlobB w) :
    Calls Tryz.prog 227 #[.string ⟨s.toArray⟩] w fun e w' => e = .returned (.bool (beginsWellP s)) ∧ w' = w := by
  obtain ⟨c0, c1, c2, c3⟩ := hg
  have hb : beginsWellP s = (Lib.hasPrefix s [104, 116, 116, 112, 58] || (Lib.hasPrefix s [104, 116, 116, 112, 115, 58] || (Lib.hasPrefix s [47] || (Lib.hasPrefix s [35] || false)))) := rfl
  have HB : Hid _ := hb
  clear hb
  go_enter Tryz.func227, Tryz.ntmps227
  have i0 : ∀ w, (Instr.index 221 (.agg #[.string ⟨#[104, 116, 116, 112, 58]⟩, .string ⟨#[104, 116, 116, 112, 115, 58]⟩, .string ⟨#[47]⟩, .string ⟨#[35]⟩]) (.int .i64 0)).run Tryz.prog w = .ok (.string ⟨#[104, 116, 116, 112, 58]⟩) w := fun _ => by kernel_rfl
  have i1 : ∀ w, (Instr.index 221 (.agg #[.string ⟨#[104, 116, 116, 112, 58]⟩, .string ⟨#[104, 116, 116, 112, 115, 58]⟩, .string ⟨#[47]⟩, .string ⟨#[35]⟩]) (.int .i64 1)).run Tryz.prog w = .ok (.string ⟨#[104, 116, 116, 112, 115, 58]⟩) w := fun _ => by kernel_rfl
  have i2 : ∀ w, (Instr.index 221 (.agg #[.string ⟨#[104, 116, 116, 112, 58]⟩, .string ⟨#[104, 116, 116, 112, 115, 58]⟩, .string ⟨#[47]⟩, .string ⟨#[35]⟩]) (.int .i64 2)).run Tryz.prog w = .ok (.string ⟨#[47]⟩) w := fun _ => by kernel_rfl
  have i3 : ∀ w, (Instr.index 221 (.agg #[.string ⟨#[104, 116, 116, 112, 58]⟩, .string ⟨#[104, 116, 116, 112, 115, 58]⟩, .string ⟨#[47]⟩, .string ⟨#[35]⟩]) (.int .i64 3)).run Tryz.prog w = .ok (.string ⟨#[35]⟩) w := fun _ => by kernel_rfl
  go_wp2
  go_loopg [6] 4 (fun g i wr => ∃ k : Nat, k ≤ 4 ∧ g = 4 - k ∧ i = .int .i64 (k : Int) ∧ wr = w ∧ (1 ≤ k → Lib.hasPrefix s [104, 116, 116, 112, 58] = false) ∧ (2 ≤ k → Lib.hasPrefix s [104, 116, 116, 112, 115, 58] = false) ∧ (3 ≤ k → Lib.hasPrefix s [47] = false) ∧ (4 ≤ k → Lib.hasPrefix s [35] = false))
  case atStart => exact ⟨0, by omega, by omega, rfl, rfl, by omega, by omega, by omega, by omega⟩
  case round =>
    obtain ⟨k, hk, hg, rfl, rfl, h1, h2, h3, h4⟩ := hrel
    have HG : Hid (gk = 4 - k) := hg
    have HN : Hid _ := And.intro h1 (And.intro h2 (And.intro h3 h4))
    clear hg c0 c1 c2 c3 h1 h2 h3 h4
    have hcase : k = 0 ∨ k = 1 ∨ k = 2 ∨ k = 3 ∨ k = 4 := by omega
    rcases hcase with rfl | rfl | rfl | rfl | rfl
    · cases hp : Lib.hasPrefix s [104, 116, 116, 112, 58] with
      | true =>
        go_wp2_with (go_at_call 175; refine (Tryz.strings_HasPrefix _ _ _).mono ?_; rintro e w' ⟨rfl, rfl⟩)
        go_ret
        exact ⟨by rw [HB.out, hp]; rfl, rfl⟩
      | false =>
        go_wp2_with (go_at_call 175; refine (Tryz.strings_HasPrefix _ _ _).mono ?_; rintro e w' ⟨rfl, rfl⟩)
        go_roundg 3
        case measure => rw [HG.out]; omega
        case rel => exact ⟨1, by omega, by omega, rfl, rfl, fun _ => hp, by omega, by omega, by omega⟩
    · cases hp : Lib.hasPrefix s [104, 116, 116, 112, 115, 58] with
      | true =>
        go_wp2_with (go_at_call 175; refine (Tryz.strings_HasPrefix _ _ _).mono ?_; rintro e w' ⟨rfl, rfl⟩)
        go_ret
        exact ⟨by rw [HB.out, hp]; simp, rfl⟩
      | false =>
        go_wp2_with (go_at_call 175; refine (Tryz.strings_HasPrefix _ _ _).mono ?_; rintro e w' ⟨rfl, rfl⟩)
        go_roundg 2
        case measure => rw [HG.out]; omega
        case rel => exact ⟨2, by omega, by omega, rfl, rfl, fun _ => HN.out.1 (by omega), fun _ => hp, by omega, by omega⟩
    · cases hp : Lib.hasPrefix s [47] with
      | true =>
        go_wp2_with (go_at_call 175; refine (Tryz.strings_HasPrefix _ _ _).mono ?_; rintro e w' ⟨rfl, rfl⟩)
        go_ret
        exact ⟨by rw [HB.out, hp]; simp, rfl⟩
      | false =>
        go_wp2_with (go_at_call 175; refine (Tryz.strings_HasPrefix _ _ _).mono ?_; rintro e w' ⟨rfl, rfl⟩)
        go_roundg 1
        case measure => rw [HG.out]; omega
        case rel => exact ⟨3, by omega, by omega, rfl, rfl, fun _ => HN.out.1 (by omega), fun _ => HN.out.2.1 (by omega), fun _ => hp, by omega⟩
    · cases hp : Lib.hasPrefix s [35] with
      | true =>
        go_wp2_with (go_at_call 175; refine (Tryz.strings_HasPrefix _ _ _).mono ?_; rintro e w' ⟨rfl, rfl⟩)
        go_ret
        exact ⟨by rw [HB.out, hp]; simp, rfl⟩
      | false =>
        go_wp2_with (go_at_call 175; refine (Tryz.strings_HasPrefix _ _ _).mono ?_; rintro e w' ⟨rfl, rfl⟩)
        go_roundg 0
        case measure => rw [HG.out]; omega
        case rel => exact ⟨4, by omega, by omega, rfl, rfl, fun _ => HN.out.1 (by omega), fun _ => HN.out.2.1 (by omega), fun _ => HN.out.2.2.1 (by omega), fun _ => hp⟩
    · go_wp2_with fail
      go_ret
      refine ⟨?_, rfl⟩
      rw [HB.out, HN.out.1 (by omega), HN.out.2.1 (by omega), HN.out.2.2.1 (by omega), HN.out.2.2.2 (by omega)]
      rfl
set_option maxHeartbeats 1000000 in
theorem letsAttr_any (ev av : Value) (p : Pol) (a : List UInt8 × List UInt8) (w : World) (h : PolAt w ev av p) (hl : p.2.length ≤ 1099511627776) (hg : GlobB w) :
    Calls Tryz.prog 210 #[.agg #[ev, av], .agg #[.string ⟨a.1.toArray⟩, .string ⟨a.2.toArray⟩]] w fun e w' => e = .returned (.bool (letsAP p a)) ∧ Kept [] w w' := by
  obtain ⟨h1, h2⟩ := h
  have H1 : Hid (∀ w', Kept [] w w' → Calls Tryz.prog 209 #[av, .string ⟨a.1.toArray⟩] w' fun e w'' => e = .returned (.bool (p.2.contains a.1)) ∧ w'' = w') := fun w' hk => contains_any av p.2 a.1 w' (h2.kept hk) hl
  have H2 : Hid (∀ w', Kept [] w w' → Calls Tryz.prog 227 #[.string ⟨a.2.toArray⟩] w' fun e w'' => e = .returned (.bool (beginsWellP a.2)) ∧ w'' = w') := fun w' hk => beginsWell_any a.2 w' (hg.kept hk)
  obtain ⟨a1, c1, rfl⟩ := h1.form
  obtain ⟨a2, c2, rfl⟩ := h2.form
  clear h1 h2 hg
  have e : letsAP p a = (p.2.contains a.1 && (!leadsP a.1 || beginsWellP a.2)) := rfl
  rw [e]
  have HLD := leads_any a.1
  generalize leadsP a.1 = ld at HLD ⊢
  generalize beginsWellP a.2 = bw at H2 ⊢
  generalize p.2.contains a.1 = cn at H1 ⊢
  generalize a.1 = an at *
  generalize a.2 = vl at *
  have hk1 : Kept [] w ((w.alloc (.cells #[.slice a1 p.1.length c1, .slice a2 p.2.length c2] 33)).alloc (.cells #[.string ⟨an.toArray⟩, .string ⟨vl.toArray⟩] 63)) := ((Kept.refl [] w).alloc _).alloc _
  go_enter Tryz.func210, Tryz.ntmps210
  cases cn with
  | false =>
    go_wp2_with fail
    refine (H1.out _ hk1).mono ?_
    rintro e w1 ⟨rfl, rfl⟩
    go_wp2_with fail
    go_ret
    exact ⟨rfl, hk1⟩
  | true =>
    go_wp2_with fail
    refine (H1.out _ hk1).mono ?_
    rintro e w1 ⟨rfl, rfl⟩
    go_wp2_with fail
    refine (HLD _).mono ?_
    rintro e w1 ⟨rfl, rfl⟩
    cases ld with
    | false =>
      go_wp2_with fail
      go_ret
      exact ⟨rfl, hk1⟩
    | true =>
      go_wp2_with fail
      refine (H2.out _ hk1).mono ?_
      rintro e w1 ⟨rfl, rfl⟩
      go_wp2_with fail
      go_ret
      exact ⟨rfl, hk1⟩
end Go.Proofs.YtlpmjpmefdpcmaaGreatDoor
