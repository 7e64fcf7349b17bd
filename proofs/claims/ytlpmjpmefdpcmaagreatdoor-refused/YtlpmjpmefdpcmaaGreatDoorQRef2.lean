import Derived.Test.YtlpmjpmefdpcmaaGreatDoorQCl9
/- CleanAll where it refuses. -/
namespace Go.Proofs.YtlpmjpmefdpcmaaGreatDoor
open Go.RowKit Scrub Go.Shelf
def longP (s : List UInt8) : Bool := decide (600 < s.length)
theorem isLong_list (s : List UInt8) (w : World) : Calls Tryz.prog 51 #[.string ⟨s.toArray⟩] w fun e w' => e = .returned (.bool (longP s)) ∧ w' = w := isLong_any ⟨s.toArray⟩ w
set_option maxHeartbeats 1000000 in
theorem indexLong_any (v : Value) (l : List (List UInt8)) (w : World) (h : StrsAt w v l) (hl : l.length ≤ 1099511627776) :
    Calls Tryz.prog 82 #[v, .func (.func 51) #[] #[]] w fun e w' => (∃ k : Int, e = .returned (.int .i64 k) ∧ (decide (0 ≤ k) = l.any longP)) ∧ w' = w := by
  obtain ⟨a, c, rfl, hc⟩ := h
  have HC : Hid _ := hc
  clear hc
  go_enter Tryz.func82, Tryz.ntmps82
  go_wp2_with fail
  go_loopg [8] l.length (fun g x wr => ∃ k : Nat, k ≤ l.length ∧ g = l.length - k ∧ x = .int .i64 (k : Int) ∧ wr = w ∧ l.any longP = (l.drop k).any longP)
  case atStart => exact ⟨0, by omega, rfl, rfl, rfl, by simp⟩
  case round =>
    obtain ⟨k, hk, hgk, rfl, rfl, hno⟩ := hrel
    have HG : Hid _ := hgk
    have HNO : Hid _ := hno
    clear hgk hno
    by_cases hlt : k < l.length
    · have hlt' : (k : Int) < (l.length : Int) := by omega
      have hge : (0 : Int) ≤ (k : Int) := by omega
      obtain ⟨g, o, rfl, c0⟩ := HC.out k hlt
      have hd : (l.drop k).any longP = (longP l[k] || (l.drop (k + 1)).any longP) := by rw [List.drop_eq_getElem_cons hlt]; rfl
      have HD : Hid _ := hd
      have HF := isLong_list l[k] wr
      clear hd
      cases hp : longP l[k] with
      | true =>
        rw [hp] at HF
        go_wp2_with fail
        refine HF.mono ?_
        rintro e w1 ⟨rfl, rfl⟩
        go_wp2_with fail
        go_ret
        refine ⟨⟨_, rfl, ?_⟩, rfl⟩
        rw [HNO.out, HD.out, hp]
        simp
      | false =>
        rw [hp] at HF
        go_wp2_with fail
        refine HF.mono ?_
        rintro e w1 ⟨rfl, rfl⟩
        go_wp2_with fail
        go_roundg (l.length - (k + 1))
        case measure => rw [HG.out]; omega
        case rel => exact ⟨k + 1, by omega, rfl, rfl, rfl, by rw [HNO.out, HD.out, hp]; rfl⟩
    · have hlt' : ((k : Int) < (l.length : Int)) = False := by simp; omega
      go_wp2_with fail
      go_ret
      refine ⟨⟨_, rfl, ?_⟩, rfl⟩
      rw [HNO.out, List.drop_eq_nil_of_le (by omega)]
      rfl
set_option maxHeartbeats 1000000 in
theorem containsLong_any (v : Value) (l : List (List UInt8)) (w : World) (h : StrsAt w v l) (hl : l.length ≤ 1099511627776) :
    Calls Tryz.prog 56 #[v, .func (.func 51) #[] #[]] w fun e w' => e = .returned (.bool (l.any longP)) ∧ w' = w := by
  have HI := indexLong_any v l w h hl
  obtain ⟨a, c, rfl, _⟩ := h
  go_enter Tryz.func56, Tryz.ntmps56
  go_wp2_with (go_at_call 82; refine HI.mono ?_; rintro e w1 ⟨⟨k, rfl, hk⟩, rfl⟩; have HK : Hid _ := hk; clear hk)
  go_ret
  exact ⟨by rw [← HK.out]; rfl, rfl⟩
set_option maxHeartbeats 1000000 in
theorem cleanAll_bad (ev av lv : Value) (p : Pol) (l : List (List UInt8)) (w : World) (hp : PolAt w ev av p) (hl : StrsAt w lv l) (hb : isPolP p = false) :
    Calls Tryz.prog 26 #[.agg #[ev, av], lv] w fun e w' => e = .returned (.tuple #[.slice none 0 0, .int .i64 4]) ∧ Kept [] w w' := by
  have HI : Hid (∀ w', Kept [] w w' → Calls Tryz.prog 50 #[.agg #[ev, av]] w' fun e w'' => e = .returned (.bool false) ∧ Kept [] w' w'') := fun w' hk => by
    have := isPolicy_any ev av p w' (hp.kept hk)
    rw [hb] at this
    exact this
  obtain ⟨a1, c1, rfl⟩ := hp.1.form
  obtain ⟨a2, c2, rfl⟩ := hp.2.form
  obtain ⟨a3, c3, rfl⟩ := hl.form
  clear hp hb hl
  generalize p.1.length = n1 at *
  generalize p.2.length = n2 at *
  have hk1 : Kept [] w (w.alloc (.cells #[.slice a1 n1 c1, .slice a2 n2 c2] 33)) := (Kept.refl [] w).alloc _
  go_enter Tryz.func26, Tryz.ntmps26
  go_wp2_with fail
  refine (HI.out _ hk1).mono ?_
  rintro e w1 ⟨rfl, hk2⟩
  go_wp2_with fail
  refine bodyPost_ret (v := .tuple #[.slice none 0 0, .int .i64 4]) (by simp [results, Tryz.results26, go_sem]) rfl ?_
  exact ⟨rfl, hk1.trans hk2⟩
set_option maxHeartbeats 1000000 in
theorem cleanAll_many (ev av lv : Value) (p : Pol) (l : List (List UInt8)) (w : World) (hp : PolAt w ev av p) (hl : StrsAt w lv l) (hb : isPolP p = true) (hm : 16 < l.length) :
    Calls Tryz.prog 26 #[.agg #[ev, av], lv] w fun e w' => e = .returned (.tuple #[.slice none 0 0, .int .i64 5]) ∧ Kept [] w w' := by
  have HI : Hid (∀ w', Kept [] w w' → Calls Tryz.prog 50 #[.agg #[ev, av]] w' fun e w'' => e = .returned (.bool true) ∧ Kept [] w' w'') := fun w' hk => by
    have := isPolicy_any ev av p w' (hp.kept hk)
    rw [hb] at this
    exact this
  have hm' : (16 : Int) < (l.length : Int) := by omega
  obtain ⟨a1, c1, rfl⟩ := hp.1.form
  obtain ⟨a2, c2, rfl⟩ := hp.2.form
  obtain ⟨a3, c3, rfl⟩ := hl.form
  clear hp hb hl
  generalize p.1.length = n1 at *
  generalize p.2.length = n2 at *
  have hk1 : Kept [] w (w.alloc (.cells #[.slice a1 n1 c1, .slice a2 n2 c2] 33)) := (Kept.refl [] w).alloc _
  go_enter Tryz.func26, Tryz.ntmps26
  go_wp2_with fail
  refine (HI.out _ hk1).mono ?_
  rintro e w1 ⟨rfl, hk2⟩
  go_wp2_with fail
  refine bodyPost_ret (v := .tuple #[.slice none 0 0, .int .i64 5]) (by simp [results, Tryz.results26, go_sem]) rfl ?_
  exact ⟨rfl, hk1.trans hk2⟩
set_option maxHeartbeats 1000000 in
theorem cleanAll_long (ev av lv : Value) (p : Pol) (l : List (List UInt8)) (w : World) (hp : PolAt w ev av p) (hl : StrsAt w lv l) (hb : isPolP p = true) (hm : l.length ≤ 16) (hg : l.any longP = true) :
    Calls Tryz.prog 26 #[.agg #[ev, av], lv] w fun e w' => e = .returned (.tuple #[.slice none 0 0, .int .i64 1]) ∧ Kept [] w w' := by
  have HI : Hid (∀ w', Kept [] w w' → Calls Tryz.prog 50 #[.agg #[ev, av]] w' fun e w'' => e = .returned (.bool true) ∧ Kept [] w' w'') := fun w' hk => by
    have := isPolicy_any ev av p w' (hp.kept hk)
    rw [hb] at this
    exact this
  have hm' : ((16 : Int) < (l.length : Int)) = False := eq_false (by omega)
  have HCF : Hid (∀ w', Kept [] w w' → Calls Tryz.prog 56 #[lv, .func (.func 51) #[] #[]] w' fun e w'' => e = .returned (.bool true) ∧ w'' = w') := fun w' hk => by
    have := containsLong_any lv l w' (hl.kept hk) (by omega)
    rw [hg] at this
    exact this
  obtain ⟨a1, c1, rfl⟩ := hp.1.form
  obtain ⟨a2, c2, rfl⟩ := hp.2.form
  obtain ⟨a3, c3, rfl⟩ := hl.form
  clear hp hb hl
  generalize p.1.length = n1 at *
  generalize p.2.length = n2 at *
  have hk1 : Kept [] w (w.alloc (.cells #[.slice a1 n1 c1, .slice a2 n2 c2] 33)) := (Kept.refl [] w).alloc _
  go_enter Tryz.func26, Tryz.ntmps26
  go_wp2_with fail
  refine (HI.out _ hk1).mono ?_
  rintro e w1 ⟨rfl, hk2⟩
  go_wp2_with fail
  refine (HCF.out _ (hk1.trans hk2)).mono ?_
  rintro e w2 ⟨rfl, rfl⟩
  go_wp2_with fail
  refine bodyPost_ret (v := .tuple #[.slice none 0 0, .int .i64 1]) (by simp [results, Tryz.results26, go_sem]) rfl ?_
  exact ⟨rfl, hk1.trans hk2⟩
end Go.Proofs.YtlpmjpmefdpcmaaGreatDoor
