import Derived.Test.YtlpmjpmefdpcmaaGreatDoorQUg
import Derived.Test.YtlpmjpmefdpcmaaGreatDoorQRSm
import Derived.Test.YtlpmjpmefdpcmaaGreatDoorQRm
import Derived.BigQuiet
/- The book is looked at: what waits, what was marked. -/
namespace Go.Proofs.YtlpmjpmefdpcmaaGreatDoor
open Go.RowKit Scrub Go.Shelf
set_option maxRecDepth 100000 in
set_option maxHeartbeats 4000000 in
theorem waits_any (bk : Nat) (nv av wv ev : Value) (W E : List Value) (w : World) (hB : BookAt w bk nv av wv ev) (hw : w.ownsRow 0 31 1 wv W.length W) (he : w.ownsRow 0 31 1 ev E.length E) (hl : W.length = E.length) (hWl : W.length ≤ 1099511627000)
    (hs : ∀ (k : Nat) (x y : Value), W[k]? = some x → E[k]? = some y → ∀ w', w'.heap = w.heap → Calls Tryz.prog 29 #[x, y] w' fun e w'' => e = .returned (.bool true) ∧ ∃ n, w'' = w'.drewN n) :
    Calls Tryz.prog 44 #[.pointer (some ⟨bk, 0, none⟩)] w fun e w' => e = .returned (.bool true) ∧ ∃ n, w' = w.drewN n := by
  obtain ⟨wa, wc, rfl⟩ := ownsRow_form hw
  obtain ⟨ea, ec, rfl⟩ := ownsRow_form he
  have q3 := hB.cell3
  have q4 := hB.cell4
  obtain ⟨_, q5, q6⟩ := hB.cellT
  have HW : Hid (w.ownsRow _ _ _ _ _ _) := hw
  have HE : Hid (w.ownsRow _ _ _ _ _ _) := he
  have HS : Hid _ := hs
  clear hB hw he hs
  rw [← hl] at q4 HE
  have HEL : Hid (E.length = W.length) := hl.symm
  clear hl
  generalize hwn : W.length = wn at *
  have HWN : Hid (W.length = wn) := hwn
  clear hwn
  go_enter Tryz.func44, Tryz.ntmps44
  go_wp2_with fail
  go_loopg [3, 4] wn (fun g ok x wr => ∃ k n : Nat, k ≤ wn ∧ g = wn - k ∧ ok = .bool true ∧ x = .int .i64 (k : Int) ∧ wr = w.drewN n)
  case atStart => exact ⟨0, 0, by omega, rfl, rfl, rfl, rfl⟩
  case round =>
    obtain ⟨k, n, hks, hgk, rfl, rfl, rfl⟩ := hrel
    have HG : Hid _ := hgk
    clear hgk
    have hge : (0 : Int) ≤ (k : Int) := by omega
    by_cases hlt : k < wn
    · have hlt' : (k : Int) < (wn : Int) := by omega
      have hkw : k < W.length := by rw [HWN.out]; exact hlt
      have hke : k < E.length := by rw [HEL.out]; exact hlt
      obtain ⟨g, rfl⟩ : ∃ g, wa = some ⟨g, 0, none⟩ := by
        rcases HW.out.2 with ⟨e, _⟩ | ⟨g, cap, cur, e, _⟩
        · injection e with e1 e2 e3
          omega
        · injection e with e1 e2 e3
          exact ⟨g, e1⟩
      obtain ⟨h, rfl⟩ : ∃ g, ea = some ⟨g, 0, none⟩ := by
        rcases HE.out.2 with ⟨e, _⟩ | ⟨g, cap, cur, e, _⟩
        · injection e with e1 e2 e3
          omega
        · injection e with e1 e2 e3
          exact ⟨g, e1⟩
      have c1 := row_cell HW.out (List.getElem?_eq_getElem hkw)
      have c2 := row_cell HE.out (List.getElem?_eq_getElem hke)
      have HI : Hid _ := HS.out k _ _ (List.getElem?_eq_getElem hkw) (List.getElem?_eq_getElem hke)
      generalize W[k] = x at *
      generalize E[k] = y at *
      go_wp2_with fail
      go_quiet (first | (go_at_call 29; refine Calls.mono (HI.out _ (by rfl)) ?_; rintro e w2 ⟨rfl, n', rfl⟩; exact ⟨rfl, _, by rw [drewN2, Nat.add_assoc]⟩))
      go_wp2_with fail
      go_roundg (wn - (k + 1))
      case measure => rw [HG.out]; omega
      case rel => exact ⟨k + 1, _, by omega, rfl, rfl, by first | rfl | congr 1, by first | rfl | exact drewN2 _ _ _⟩
    · obtain rfl : k = wn := by omega
      have hlt' : ((k : Int) < (k : Int)) = False := by simp
      go_wp2_with fail
      go_loopg [3, 6] 0 (fun g ok x wr => g = 0 ∧ ok = .bool true ∧ x = .int .i64 0 ∧ wr = w.drewN n)
      case atStart => exact ⟨rfl, rfl, rfl, rfl⟩
      case round =>
        obtain ⟨rfl, rfl, rfl, rfl⟩ := hrel
        go_wp2_with fail
        go_ret
        exact ⟨rfl, n, rfl⟩
end Go.Proofs.YtlpmjpmefdpcmaaGreatDoor
