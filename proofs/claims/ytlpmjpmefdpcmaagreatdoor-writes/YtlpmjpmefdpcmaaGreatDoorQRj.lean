import Derived.Test.YtlpmjpmefdpcmaaGreatDoorQRd
import Derived.Test.YtlpmjpmefdpcmaaGreatDoorQLies
/- The reference: signs are written. -/
namespace Go.Proofs.YtlpmjpmefdpcmaaGreatDoor
open Go.RowKit Scrub
theorem drewN_plus (w : World) (a b : Nat) : (w.drewN a).drewN b = w.drewN (a + b) := by simp [World.drewN, Nat.add_assoc]
def escB (these : List UInt8) (c : UInt8) : List UInt8 := if these.contains c then signOfP c else [c]
theorem escP_take (these s : List UInt8) (k : Nat) (h : k < s.length) : escP these (s.take (k + 1)) = escP these (s.take k) ++ escB these s[k] := by
  rw [List.take_succ_eq_append_getElem h]
  unfold escP escB
  rw [List.flatMap_append]
  simp
theorem escB_take (these : List UInt8) (c : UInt8) (k : Nat) (h : k < these.length) : escB (these.take (k + 1)) c = if c = these[k] then signOfP c else escB (these.take k) c := by
  rw [List.take_succ_eq_append_getElem h]
  unfold escB
  by_cases e : c = these[k]
  · rw [if_pos e, if_pos]
    rw [← e]
    simp
  · rw [if_neg e]
    have : ∀ (x : List UInt8) (y : UInt8), ¬ c = y → (x ++ [y]).contains c = x.contains c := by
      intro x y hy
      rw [Bool.eq_iff_iff]
      simp [hy]
    rw [this _ _ e]
theorem escB_len (these : List UInt8) (c : UInt8) : (escB these c).length ≤ 6 := by
  unfold escB signOfP
  repeat' split
  all_goals simp
theorem escP_len (these : List UInt8) : ∀ s : List UInt8, (escP these s).length ≤ 6 * s.length
  | [] => Nat.le_refl _
  | c :: t => by
    have h1 := escP_len these t
    have h2 := escB_len these c
    have e : escP these (c :: t) = escB these c ++ escP these t := by simp [escP, escB]
    rw [e, List.length_append, List.length_cons]
    omega
theorem sign_of (c : UInt8) : signOfP c = if c.toNat = 38 then [38, 97, 109, 112, 59] else if c.toNat = 60 then [38, 108, 116, 59] else if c.toNat = 62 then [38, 103, 116, 59] else if c.toNat = 34 then [38, 113, 117, 111, 116, 59] else [c] := by
  have e : ∀ n : Nat, n < 256 → ((c = UInt8.ofNat n) ↔ c.toNat = n) := by
    intro n hn
    constructor
    · intro h
      subst h
      simp
      omega
    · intro h
      apply UInt8.toNat_inj.1
      rw [h]
      simp
      omega
  unfold signOfP
  simp only [show (38 : UInt8) = UInt8.ofNat 38 from rfl, show (60 : UInt8) = UInt8.ofNat 60 from rfl, show (62 : UInt8) = UInt8.ofNat 62 from rfl, show (34 : UInt8) = UInt8.ofNat 34 from rfl, e 38 (by omega), e 60 (by omega), e 62 (by omega), e 34 (by omega)]
set_option maxHeartbeats 2000000 in
theorem rSigned (s which : ByteArray) (w : World) (hs : s.size ≤ 1099511627776) (hw : which.size ≤ 1000) :
    Calls Tryz.prog 98 #[.string s, .string which] w fun e w' => e = .returned (.string ⟨(escP which.data.toList s.data.toList).toArray⟩) ∧ ∃ n, w' = w.drewN n := by
  go_enter Tryz.func98, Tryz.ntmps98
  go_wp2_with fail
  go_loopg [5, 6] s.size (fun g x y wr => ∃ k n : Nat, k ≤ s.size ∧ g = s.size - k ∧ x = .string ⟨(escP which.data.toList (s.data.toList.take k)).toArray⟩ ∧ y = .int .i64 (k : Int) ∧ wr = w.drewN n)
  case atStart => exact ⟨0, 0, by omega, rfl, rfl, rfl, rfl⟩
  case round =>
    obtain ⟨k, n, hks, hgk, rfl, rfl, rfl⟩ := hrel
    have HG : Hid _ := hgk
    clear hgk
    by_cases hlt : k < s.size
    · have hlt' : (k : Int) < (s.size : Int) := by omega
      have hge : (0 : Int) ≤ (k : Int) := by omega
      have hle1 : (k : Int) ≤ (k : Int) + 1 := by omega
      have hle2 : (k : Int) + 1 ≤ (s.size : Int) := by omega
      have HS : Hid _ := escP_take which.data.toList s.data.toList k (by simpa using hlt)
      have hol : (escP which.data.toList (s.data.toList.take k)).length ≤ 6597069766656 := by
        have h1 := escP_len which.data.toList (s.data.toList.take k)
        have h2 : (s.data.toList.take k).length ≤ k := List.length_take_le _ _
        omega
      have hel := escB_len which.data.toList s[k]
      generalize escP which.data.toList (s.data.toList.take k) = out at *
      go_wp2_with fail
      go_loopg [7, 8] which.size (fun g x y wr => ∃ j n : Nat, j ≤ which.size ∧ g = which.size - j ∧ x = .string ⟨(escB (which.data.toList.take j) s[k]).toArray⟩ ∧ y = .int .i64 (j : Int) ∧ wr = w.drewN n)
      case atStart =>
        refine ⟨0, n, by omega, rfl, ?_, rfl, rfl⟩
        have : s.extract k (k + 1) = ⟨#[s[k]]⟩ := by
          apply ByteArray.ext
          apply Array.toList_inj.1
          have e := drop_get hlt
          simp
          rw [e]
          rfl
        rw [this]
        rfl
      case round =>
        obtain ⟨j, n2, hjs, hgj, rfl, rfl, rfl⟩ := hrel
        have HGJ : Hid _ := hgj
        clear hgj
        by_cases hjl : j < which.size
        · have hjl' : (j : Int) < (which.size : Int) := by omega
          have hj0 : (0 : Int) ≤ (j : Int) := by omega
          have HE : Hid _ := escB_take which.data.toList s[k] j (by simpa using hjl)
          have HSO : Hid _ := sign_of s[k]
          obtain ⟨q, hq⟩ : ∃ q, ((s[k].toNat : Int) == (which[j].toNat : Int)) = q := ⟨_, rfl⟩
          have HQ : Hid _ := hq
          cases q with
          | false =>
            have HE2 : Hid (escB (which.data.toList.take (j + 1)) s[k] = escB (which.data.toList.take j) s[k]) := by
              show _ = _
              rw [HE.out, if_neg]
              intro e
              have := HQ.out
              have e' : s[k] = which[j] := e
              rw [e'] at this
              simp at this
            clear HE HSO
            go_wp2_with fail
            go_quiet (fail)
            go_wp2_with fail
            go_roundg (which.size - (j + 1))
            case measure => rw [HGJ.out]; omega
            case rel => exact ⟨j + 1, _, by omega, rfl, by rw [HE2.out], by go_num, by first | rfl | exact drewN_plus _ _ _⟩
          | true =>
            have HE2 : Hid (escB (which.data.toList.take (j + 1)) s[k] = if s[k].toNat = 38 then [38, 97, 109, 112, 59] else if s[k].toNat = 60 then [38, 108, 116, 59] else if s[k].toNat = 62 then [38, 103, 116, 59] else if s[k].toNat = 34 then [38, 113, 117, 111, 116, 59] else [s[k]]) := by
              show _ = _
              rw [HE.out, if_pos, HSO.out]
              have := HQ.out
              have h2 : s[k].toNat = which[j].toNat := by
                have h3 : (s[k].toNat : Int) = (which[j].toNat : Int) := by simpa using this
                omega
              exact UInt8.toNat_inj.1 h2
            clear HE HSO
            obtain ⟨x1, h1⟩ : ∃ x, ((s[k].toNat : Int) == 38) = x := ⟨_, rfl⟩
            obtain ⟨x2, h2⟩ : ∃ x, ((s[k].toNat : Int) == 60) = x := ⟨_, rfl⟩
            obtain ⟨x3, h3⟩ : ∃ x, ((s[k].toNat : Int) == 62) = x := ⟨_, rfl⟩
            obtain ⟨x4, h4⟩ : ∃ x, ((s[k].toNat : Int) == 34) = x := ⟨_, rfl⟩
            cases x1 with
            | true =>
              have g1 : s[k].toNat = 38 := by simp at h1; omega
              have HX : Hid (escB (which.data.toList.take (j + 1)) s[k] = [38, 97, 109, 112, 59]) := by
                show _ = _
                rw [HE2.out, if_pos g1]
              clear HE2
              go_wp2_with fail
              go_quiet (fail)
              go_wp2_with fail
              go_roundg (which.size - (j + 1))
              case measure => rw [HGJ.out]; omega
              case rel => exact ⟨j + 1, _, by omega, rfl, by rw [HX.out], by go_num, by first | rfl | exact drewN_plus _ _ _⟩
            | false =>
              have g1 : ¬ s[k].toNat = 38 := by simp at h1; omega
              cases x2 with
              | true =>
                have g2 : s[k].toNat = 60 := by simp at h2; omega
                have HX : Hid (escB (which.data.toList.take (j + 1)) s[k] = [38, 108, 116, 59]) := by
                  show _ = _
                  rw [HE2.out, if_neg g1, if_pos g2]
                clear HE2
                go_wp2_with fail
                go_quiet (fail)
                go_wp2_with fail
                go_roundg (which.size - (j + 1))
                case measure => rw [HGJ.out]; omega
                case rel => exact ⟨j + 1, _, by omega, rfl, by rw [HX.out], by go_num, by first | rfl | exact drewN_plus _ _ _⟩
              | false =>
                have g2 : ¬ s[k].toNat = 60 := by simp at h2; omega
                cases x3 with
                | true =>
                  have g3 : s[k].toNat = 62 := by simp at h3; omega
                  have HX : Hid (escB (which.data.toList.take (j + 1)) s[k] = [38, 103, 116, 59]) := by
                    show _ = _
                    rw [HE2.out, if_neg g1, if_neg g2, if_pos g3]
                  clear HE2
                  go_wp2_with fail
                  go_quiet (fail)
                  go_wp2_with fail
                  go_roundg (which.size - (j + 1))
                  case measure => rw [HGJ.out]; omega
                  case rel => exact ⟨j + 1, _, by omega, rfl, by rw [HX.out], by go_num, by first | rfl | exact drewN_plus _ _ _⟩
                | false =>
                  have g3 : ¬ s[k].toNat = 62 := by simp at h3; omega
                  cases x4 with
                  | true =>
                    have g4 : s[k].toNat = 34 := by simp at h4; omega
                    have HX : Hid (escB (which.data.toList.take (j + 1)) s[k] = [38, 113, 117, 111, 116, 59]) := by
                      show _ = _
                      rw [HE2.out, if_neg g1, if_neg g2, if_neg g3, if_pos g4]
                    clear HE2
                    go_wp2_with fail
                    go_quiet (fail)
                    go_wp2_with fail
                    go_roundg (which.size - (j + 1))
                    case measure => rw [HGJ.out]; omega
                    case rel => exact ⟨j + 1, _, by omega, rfl, by rw [HX.out], by go_num, by first | rfl | exact drewN_plus _ _ _⟩
                  | false =>
                    have g4 : ¬ s[k].toNat = 34 := by simp at h4; omega
                    have HY : Hid (escB (which.data.toList.take j) s[k] = [s[k]]) := by
                      show _ = _
                      unfold escB
                      rw [sign_of, if_neg g1, if_neg g2, if_neg g3, if_neg g4]
                      split <;> rfl
                    rw [HY.out]
                    have HX : Hid (escB (which.data.toList.take (j + 1)) s[k] = [s[k]]) := by
                      show _ = _
                      rw [HE2.out, if_neg g1, if_neg g2, if_neg g3, if_neg g4]
                    clear HE2
                    go_wp2_with fail
                    go_quiet (fail)
                    go_wp2_with fail
                    go_roundg (which.size - (j + 1))
                    case measure => rw [HGJ.out]; omega
                    case rel => exact ⟨j + 1, _, by omega, rfl, by rw [HX.out], by go_num, by first | rfl | exact drewN_plus _ _ _⟩
        · have hjl' : ((j : Int) < (which.size : Int)) = False := eq_false (by omega)
          have HT : Hid (which.data.toList.take j = which.data.toList) := List.take_of_length_le (by simp; omega)
          rw [HT.out]
          go_wp2_with fail
          go_roundg (s.size - (k + 1))
          case measure => rw [HG.out]; omega
          case rel =>
            refine ⟨k + 1, _, by omega, rfl, ?_, by go_num, by first | rfl | exact drewN_plus _ _ _⟩
            have e : escP which.data.toList (s.data.toList.take (k + 1)) = out ++ escB which.data.toList s[k] := HS.out
            rw [e]
            congr 1
    · have hlt' : ((k : Int) < (s.size : Int)) = False := eq_false (by omega)
      go_wp2_with fail
      go_ret
      refine ⟨?_, n, rfl⟩
      rw [List.take_of_length_le (by simp; omega)]
      rfl
end Go.Proofs.YtlpmjpmefdpcmaaGreatDoor
