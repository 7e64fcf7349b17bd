import Derived.Test.YtlpmjpmefdpcmaaGreatDoorQBld4
namespace Scrub
/-- The place of the last that is such; -1: none. -/
def lastIdx (p : List UInt8 → Bool) : List (List UInt8) → Int
  | [] => -1
  | a :: t => if lastIdx p t = -1 then (if p a then 0 else -1) else lastIdx p t + 1
theorem lastIdx_ge (p : List UInt8 → Bool) : ∀ l, -1 ≤ lastIdx p l
  | [] => by simp [lastIdx]
  | a :: t => by
    have := lastIdx_ge p t
    unfold lastIdx
    repeat' split
    all_goals omega
theorem lastIdx_snoc (p : List UInt8 → Bool) (a : List UInt8) : ∀ l, lastIdx p (l ++ [a]) = if p a then (l.length : Int) else lastIdx p l
  | [] => by simp [lastIdx]
  | b :: t => by
    have ih := lastIdx_snoc p a t
    have hg := lastIdx_ge p t
    show lastIdx p (b :: (t ++ [a])) = _
    rw [lastIdx, ih]
    cases p a with
    | true => simp
    | false => simp [lastIdx]
theorem lastIdx_lt (p : List UInt8 → Bool) : ∀ l, lastIdx p l < (l.length : Int)
  | [] => by simp [lastIdx]
  | a :: t => by
    have := lastIdx_lt p t
    unfold lastIdx
    repeat' split
    all_goals simp
    all_goals omega
end Scrub
namespace Go.Proofs.YtlpmjpmefdpcmaaGreatDoor
open Go.RowKit Scrub Go.Shelf
set_option maxHeartbeats 1000000 in
theorem innermost_any (bb : Nat) (F : List Nat) (E : List Ev) (st : List (List UInt8)) (w : World) (h : Bld w bb F E st) (hst : st.length ≤ 12) (f : FuncId) (lb : Array Value) (p : List UInt8 → Bool)
    (eg : ∀ (args : Array Value) (w : World), (callFunc f args).run Tryz.prog w = .ok (.enter f args) w)
    (hf : Hid (∀ s : ByteArray, Calls Tryz.prog f (#[.string s] ++ lb) w fun e w' => e = .returned (.bool (p s.data.toList)) ∧ w' = w)) :
    Calls Tryz.prog 191 #[.pointer (some ⟨bb, 0, none⟩), .func (.func f) #[] lb] w
      fun e w' => e = .returned (.int .i64 (lastIdx p st)) ∧ w' = w := by
  obtain ⟨tv, ov, ts, os, hb, hE, hS⟩ := h
  have HS : Hid (st = os.map NodeR.name) := hS
  have hol : os.length ≤ 12 := by rw [hS] at hst; simpa using hst
  clear hE hS hst
  obtain ⟨c0, c1, c2, c3⟩ := hb.cells
  have hown := hb.2.2.1.1
  obtain ⟨oa, oc, rfl⟩ := ownsRow_form hown
  go_enter Tryz.func191, Tryz.ntmps191
  go_wp2_with fail
  go_loopg [5] os.length (fun g x wr => wr = w ∧ g ≤ os.length ∧ x = .int .i64 ((g : Int) - 1) ∧ lastIdx p st = lastIdx p ((os.take g).map NodeR.name))
  case atStart => exact ⟨rfl, Nat.le_refl _, rfl, by rw [HS.out]; simp⟩
  case round =>
    obtain ⟨rfl, hg, rfl, hl⟩ := hrel
    have HL : Hid _ := hl
    clear hl
    by_cases hpos : 0 < gk
    · obtain ⟨k, rfl⟩ : ∃ k, gk = k + 1 := ⟨gk - 1, by omega⟩
      have hk : k < os.length := by omega
      obtain ⟨n0, hn0⟩ : ∃ n0, os.length = n0 + 1 := ⟨os.length - 1, by omega⟩
      rcases hown.2 with ⟨_, h0⟩ | ⟨g, cap, cur, hv, _⟩
      · omega
      injection hv with v1 v2 v3
      subst v1 v3
      have r0 := row_cell hown (cellsOf_get os k hk).1
      have hsn : os.take (k + 1) = os.take k ++ [os[k]] := List.take_succ_eq_append_getElem hk
      have hsl : lastIdx p ((os.take (k + 1)).map NodeR.name) = if p os[k].name then (k : Int) else lastIdx p ((os.take k).map NodeR.name) := by
        rw [hsn, List.map_append]
        show lastIdx p ((os.take k).map NodeR.name ++ [os[k].name]) = _
        rw [lastIdx_snoc]
        simp [List.length_take, Nat.min_eq_left (Nat.le_of_lt hk)]
      have HSL : Hid _ := hsl
      clear hsl hsn hn0
      have hb1 : (0 : Int) ≤ (k : Int) := by omega
      have hb2 : (k : Int) < (os.length : Int) := by omega
      have hb3 : (-1 : Int) < (k : Int) := by omega
      cases hp : p os[k].name with
      | true =>
        go_wp2_with fail
        refine (hf.out ⟨os[k].name.toArray⟩).mono ?_
        have hks : (({ data := os[k].name.toArray } : ByteArray).data.toList) = os[k].name := by simp
        rw [hks, hp]
        clear hks
        rintro e w1 ⟨rfl, rfl⟩
        go_wp2_with fail
        go_ret
        refine ⟨ret_int ?_, rfl⟩
        rw [HL.out, HSL.out, hp]
        rfl
      | false =>
        go_wp2_with fail
        refine (hf.out ⟨os[k].name.toArray⟩).mono ?_
        have hks : (({ data := os[k].name.toArray } : ByteArray).data.toList) = os[k].name := by simp
        rw [hks, hp]
        clear hks
        rintro e w1 ⟨rfl, rfl⟩
        go_wp2_with fail
        go_roundg k
        case measure => omega
        case rel => exact ⟨rfl, by omega, by go_num, by rw [HL.out, HSL.out, hp]; rfl⟩
    · have h0 : gk = 0 := by omega
      subst h0
      go_wp2_with fail
      go_ret
      refine ⟨ret_int ?_, rfl⟩
      rw [HL.out]
      rfl
end Go.Proofs.YtlpmjpmefdpcmaaGreatDoor
namespace Go.Proofs.YtlpmjpmefdpcmaaGreatDoor
open Go.RowKit Scrub Go.Shelf
theorem infoNode : (Tryz.prog.info? 42).map (fun i => (i.zero, i.size, i.bytes)) = some (some (.agg #[.string ⟨#[]⟩, .slice none 0 0, .slice none 0 0, .string ⟨#[]⟩]), 4, 80) := by kernel_rfl
set_option maxHeartbeats 1000000 in
theorem list_top (bb : Nat) (tv ov : Value) (ts : List NodeR) (F : List Nat) (w : World) (h : BAt w bb tv ov ts [] F) :
    Calls Tryz.prog 117 #[.pointer (some ⟨bb, 0, none⟩)] w fun e w' => e = .returned (.pointer (some ⟨bb, 0, none⟩)) ∧ ∃ n, w' = w.drewN n := by
  obtain ⟨c0, c1, c2, c3⟩ := h.cells
  obtain ⟨oa, oc, rfl⟩ := ownsRow_form h.2.2.1.1
  clear h
  go_enter Tryz.func117, Tryz.ntmps117
  go_wp2
  go_ret
  exact ⟨rfl, 0, rfl⟩
set_option maxHeartbeats 1000000 in
theorem list_kid (bb g cap : Nat) (tv : Value) (ts os : List NodeR) (y : NodeR) (F : List Nat) (w : World) (h : BAt w bb tv (.slice (some ⟨g, 0, none⟩) (os.length + 1) cap) ts (os ++ [y]) F) (hl : os.length ≤ 1000) :
    Calls Tryz.prog 117 #[.pointer (some ⟨bb, 0, none⟩)] w fun e w' => e = .returned (.pointer (some ⟨g, os.length * 4 + 2, none⟩)) ∧ ∃ n, w' = w.drewN n := by
  obtain ⟨c0, c1, c2, c3⟩ := h.cells
  have hne : (((os.length : Int) + 1) == 0) = false := by rw [beq_eq_false_iff_ne]; omega
  clear h
  go_enter Tryz.func117, Tryz.ntmps117
  go_wp2
  go_quiet (fail)
  go_wp2
  go_ret
  exact ⟨rfl, _, rfl⟩
end Go.Proofs.YtlpmjpmefdpcmaaGreatDoor
