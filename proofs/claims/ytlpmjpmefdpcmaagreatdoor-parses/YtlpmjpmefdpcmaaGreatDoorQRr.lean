import Derived.Test.YtlpmjpmefdpcmaaGreatDoorQRd
/- The reference: letters, blanks. -/
namespace Go.Proofs.YtlpmjpmefdpcmaaGreatDoor
open Go.RowKit Scrub
set_option maxHeartbeats 1000000 in
theorem rLetter (s : ByteArray) (k : Nat) (w : World) :
    Calls Tryz.prog 143 #[.string s, .int .i64 (k : Int)] w fun e w' => e = .returned (.bool (decide (k < s.size) && letB (s.data.toList.getD k 0))) ∧ w' = w := by
  by_cases hlt : k < s.size
  · have hlt' : (k : Int) < (s.size : Int) := by omega
    have hge : (0 : Int) ≤ (k : Int) := by omega
    have HE : Hid (s.data.toList.getD k 0 = s[k]) := by
      show _ = _
      rw [List.getD_eq_getElem?_getD, List.getElem?_eq_getElem (by simpa using hlt)]
      rfl
    have hd : decide (k < s.size) = true := by simpa using hlt
    rw [HE.out, hd]
    clear hd
    go_enter Tryz.func143, Tryz.ntmps143
    go_wp2_with fail
    refine (rIsLetter s[k] _).mono ?_
    rintro e w1 ⟨rfl, rfl⟩
    go_wp2_with fail
    go_ret
    exact ⟨ret_b (by simp), rfl⟩
  · have hlt' : ((k : Int) < (s.size : Int)) = False := eq_false (by omega)
    have hd : decide (k < s.size) = false := by simpa using hlt
    rw [hd]
    clear hd
    go_enter Tryz.func143, Tryz.ntmps143
    go_wp2_with fail
    go_ret
    exact ⟨ret_b (by simp), rfl⟩
def skipB (sl : Bool) (c : UInt8) : Bool := blankB c || (sl && decide (c.toNat = 47))
theorem takeWhile_step (p : UInt8 → Bool) (l : List UInt8) (k : Nat) (h : k < l.length) (hp : p l[k] = true) : k + ((l.drop k).takeWhile p).length = k + 1 + ((l.drop (k + 1)).takeWhile p).length := by
  rw [List.drop_eq_getElem_cons h, List.takeWhile_cons, if_pos hp, List.length_cons]
  omega
theorem takeWhile_stop (p : UInt8 → Bool) (l : List UInt8) (k : Nat) (hp : ∀ h : k < l.length, p l[k] = false) : k + ((l.drop k).takeWhile p).length = k := by
  by_cases h : k < l.length
  · rw [List.drop_eq_getElem_cons h, List.takeWhile_cons, hp h]
    simp
  · rw [List.drop_eq_nil_of_le (by omega)]
    simp
set_option maxHeartbeats 1000000 in
theorem rSkip (s : ByteArray) (i : Nat) (sl : Bool) (w : World) (hs : s.size ≤ 1099511627776) (hi : i ≤ s.size) :
    Calls Tryz.prog 199 #[.string s, .int .i64 (i : Int), .bool sl] w fun e w' => e = .returned (.int .i64 ((i + ((s.data.toList.drop i).takeWhile (skipB sl)).length : Nat) : Int)) ∧ w' = w := by
  obtain ⟨R, hR⟩ : ∃ R, i + ((s.data.toList.drop i).takeWhile (skipB sl)).length = R := ⟨_, rfl⟩
  rw [hR]
  have HR : Hid _ := hR
  clear hR
  go_enter Tryz.func199, Tryz.ntmps199
  go_wp2_with fail
  go_loopg [1] (s.size - i) (fun g x wr => ∃ k : Nat, k ≤ s.size ∧ g = s.size - k ∧ x = .int .i64 (k : Int) ∧ R = k + ((s.data.toList.drop k).takeWhile (skipB sl)).length ∧ w = wr)
  case atStart => exact ⟨i, hi, rfl, rfl, HR.out.symm, rfl⟩
  case round =>
    obtain ⟨k, hks, hgk, rfl, hinv, rfl⟩ := hrel
    have HG : Hid _ := hgk
    have HI : Hid _ := hinv
    clear hgk hinv HR
    by_cases hlt : k < s.size
    · have hlt' : (k : Int) < (s.size : Int) := by omega
      have hge : (0 : Int) ≤ (k : Int) := by omega
      have hll : k < s.data.toList.length := by simpa using hlt
      have HP : Hid (skipB sl s.data.toList[k] = (blankB s[k] || (sl && decide (s[k].toNat = 47)))) := rfl
      have HSTEP : Hid _ := takeWhile_step (skipB sl) s.data.toList k hll
      have HSTOP : Hid (skipB sl s.data.toList[k] = false → _) := fun h => takeWhile_stop (skipB sl) s.data.toList k (fun _ => h)
      obtain ⟨x1, h1⟩ : ∃ x, ((s[k].toNat : Int) == 47) = x := ⟨_, rfl⟩
      have HX : Hid (decide (s[k].toNat = 47) = x1) := by
        show _ = _
        rw [← h1, Bool.eq_iff_iff]
        simp
        omega
      go_wp2_with fail
      refine (rIsBlank s[k] _).mono ?_
      rintro e w2 ⟨rfl, rfl⟩
      generalize hb : blankB s[k] = b at *
      clear hb
      have HGO : Hid ((b || (sl && x1)) = true → R = k + 1 + ((s.data.toList.drop (k + 1)).takeWhile (skipB sl)).length) := fun h => by
        rw [HI.out]
        exact HSTEP.out (by rw [HP.out, HX.out]; exact h)
      have HEND : Hid ((b || (sl && x1)) = false → R = k) := fun h => by
        rw [HI.out]
        exact HSTOP.out (by rw [HP.out, HX.out]; exact h)
      clear HP HSTEP HSTOP HX HI
      cases b <;> cases sl <;> cases x1
      all_goals
        go_wp2_with fail
        first
          | (go_roundg (s.size - (k + 1))
             case measure => rw [HG.out]; omega
             case rel => exact ⟨k + 1, by omega, rfl, by go_num, HGO.out rfl, rfl⟩)
          | (go_ret
             exact ⟨ret_i (by rw [HEND.out rfl]), rfl⟩)
    · have hlt' : ((k : Int) < (s.size : Int)) = False := eq_false (by omega)
      go_wp2_with fail
      go_ret
      refine ⟨ret_i ?_, rfl⟩
      rw [HI.out, takeWhile_stop (skipB sl) _ _ (fun h => by simp at h; omega)]
end Go.Proofs.YtlpmjpmefdpcmaaGreatDoor
/- The reference: a name at a place; a text from a place on. -/
namespace Go.Proofs.YtlpmjpmefdpcmaaGreatDoor
open Go.RowKit Scrub
theorem name_or (c : UInt8) : nameB c = (letB c || digitB c) := rfl
theorem takeWhile_ext (p : UInt8 → Bool) (l : List UInt8) (i k : Nat) (hik : i ≤ k) (h : i + ((l.drop i).takeWhile p).length = k + ((l.drop k).takeWhile p).length) (hs : ((l.drop k).takeWhile p).length = 0) : (l.drop i).takeWhile p = (l.drop i).take (k - i) := by
  have hl : ((l.drop i).takeWhile p).length = k - i := by omega
  have hp : (l.drop i).takeWhile p <+: l.drop i := List.takeWhile_prefix p
  rw [List.prefix_iff_eq_take.1 hp, hl]
set_option maxHeartbeats 1000000 in
theorem rNameAt (s : ByteArray) (i : Nat) (w : World) (hs : s.size ≤ 1099511627776) (hi : i ≤ s.size) :
    Calls Tryz.prog 146 #[.string s, .int .i64 (i : Int)] w fun e w' => e = .returned (.tuple #[.string ⟨(small ((s.data.toList.drop i).takeWhile nameB)).toArray⟩, .int .i64 ((i + ((s.data.toList.drop i).takeWhile nameB).length : Nat) : Int)]) ∧ Kept [] w w' := by
  obtain ⟨R, hR⟩ : ∃ R, i + ((s.data.toList.drop i).takeWhile nameB).length = R := ⟨_, rfl⟩
  rw [hR]
  have HR : Hid _ := hR
  clear hR
  go_enter Tryz.func146, Tryz.ntmps146
  go_wp2_with fail
  go_loopg [6] (s.size - i) (fun g x wr => ∃ k : Nat, i ≤ k ∧ k ≤ s.size ∧ g = s.size - k ∧ x = .int .i64 (k : Int) ∧ R = k + ((s.data.toList.drop k).takeWhile nameB).length ∧ w = wr)
  case atStart => exact ⟨i, by omega, hi, rfl, rfl, HR.out.symm, rfl⟩
  case round =>
    obtain ⟨k, hik, hks, hgk, rfl, hinv, rfl⟩ := hrel
    have HG : Hid _ := hgk
    have HI : Hid _ := hinv
    clear hgk hinv
    have hik' : (i : Int) ≤ (k : Int) := by omega
    have hks' : (k : Int) ≤ (s.size : Int) := by omega
    have hi0 : (0 : Int) ≤ (i : Int) := by omega
    have HEND : Hid (((s.data.toList.drop k).takeWhile nameB).length = 0 → R = k ∧ (s.extract i k).data.toList = (s.data.toList.drop i).takeWhile nameB) := fun h => by
      refine ⟨by rw [HI.out, h]; rfl, ?_⟩
      rw [takeWhile_ext nameB s.data.toList i k hik (by rw [HR.out, HI.out]) h]
      simp
    by_cases hlt : k < s.size
    · have hlt' : (k : Int) < (s.size : Int) := by omega
      have hge : (0 : Int) ≤ (k : Int) := by omega
      have hll : k < s.data.toList.length := by simpa using hlt
      have HP : Hid (nameB s.data.toList[k] = (letB s[k] || digitB s[k])) := rfl
      have HSTEP : Hid _ := takeWhile_step nameB s.data.toList k hll
      have HSTOP : Hid (nameB s.data.toList[k] = false → _) := fun h => takeWhile_stop nameB s.data.toList k (fun _ => h)
      go_wp2_with fail
      refine (rIsLetter s[k] _).mono ?_
      rintro e w2 ⟨rfl, rfl⟩
      generalize letB s[k] = b at *
      cases b with
      | true =>
        go_wp2_with fail
        go_roundg (s.size - (k + 1))
        case measure => rw [HG.out]; omega
        case rel => exact ⟨k + 1, by omega, by omega, rfl, by go_num, by rw [HI.out]; exact HSTEP.out (by rw [HP.out]; rfl), rfl⟩
      | false =>
        go_wp2_with fail
        refine (rIsDigit s[k] _).mono ?_
        rintro e w3 ⟨rfl, rfl⟩
        generalize digitB s[k] = b2 at *
        cases b2 with
        | true =>
          go_wp2_with fail
          go_roundg (s.size - (k + 1))
          case measure => rw [HG.out]; omega
          case rel => exact ⟨k + 1, by omega, by omega, rfl, by go_num, by rw [HI.out]; exact HSTEP.out (by rw [HP.out]; rfl), rfl⟩
        | false =>
          have hz : ((s.data.toList.drop k).takeWhile nameB).length = 0 := by
            have := HSTOP.out (by rw [HP.out]; rfl)
            omega
          obtain ⟨hRk, hex⟩ := HEND.out hz
          have HRK : Hid _ := hRk
          have HEX : Hid _ := hex
          clear hz hRk hex HEND HSTEP HSTOP HP
          go_wp2_with fail
          refine (rSmall (s.extract i k) _ (by simp; omega)).mono ?_
          rintro e w4 ⟨rfl, hk4⟩
          rw [HEX.out]
          generalize hsm : small ((s.data.toList.drop i).takeWhile nameB) = sm at *
          have HSM : Hid _ := hsm
          clear hsm
          go_wp2_with fail
          refine bodyPost_ret (v := .tuple #[.string ⟨sm.toArray⟩, .int .i64 (k : Int)]) (by simp [results, Tryz.results146, go_sem]) rfl ?_
          rw [HRK.out, HSM.out]
          exact ⟨rfl, hk4⟩
    · have hlt' : ((k : Int) < (s.size : Int)) = False := eq_false (by omega)
      obtain ⟨hRk, hex⟩ := HEND.out (by rw [List.drop_eq_nil_of_le (by simp; omega)]; rfl)
      have HRK : Hid _ := hRk
      have HEX : Hid _ := hex
      clear hRk hex HEND
      go_wp2_with fail
      refine (rSmall (s.extract i k) _ (by simp; omega)).mono ?_
      rintro e w4 ⟨rfl, hk4⟩
      rw [HEX.out]
      generalize hsm : small ((s.data.toList.drop i).takeWhile nameB) = sm at *
      have HSM : Hid _ := hsm
      clear hsm
      go_wp2_with fail
      refine bodyPost_ret (v := .tuple #[.string ⟨sm.toArray⟩, .int .i64 (k : Int)]) (by simp [results, Tryz.results146, go_sem]) rfl ?_
      rw [HRK.out, HSM.out]
      exact ⟨rfl, hk4⟩
end Go.Proofs.YtlpmjpmefdpcmaaGreatDoor
/- The reference: a text from a place on. -/
namespace Go.Proofs.YtlpmjpmefdpcmaaGreatDoor
open Go.RowKit Scrub
/-- Where it stands, from k on; -1: nowhere. -/
def findP (l t : List UInt8) (k : Nat) : Int := if Lib.index (l.drop k) t = -1 then -1 else (k : Int) + Lib.index (l.drop k) t
theorem find_here (l t : List UInt8) (k : Nat) (h : List.isPrefixOf t (l.drop k) = true) : findP l t k = k := by
  have e : Lib.index (l.drop k) t = 0 := by
    cases hd : l.drop k with
    | nil =>
      rw [hd] at h
      cases t with
      | nil => rfl
      | cons a b => simp at h
    | cons c r =>
      rw [hd] at h
      unfold Lib.index
      rw [if_pos h]
  unfold findP
  rw [e]
  simp
theorem find_step (l t : List UInt8) (k : Nat) (hk : k < l.length) (h : List.isPrefixOf t (l.drop k) = false) : findP l t k = findP l t (k + 1) := by
  unfold findP
  rw [List.drop_eq_getElem_cons hk] at h ⊢
  have hge := Lib.index_ge (l.drop (k + 1)) t
  have e : Lib.index (l[k] :: l.drop (k + 1)) t = if Lib.index (l.drop (k + 1)) t == -1 then -1 else Lib.index (l.drop (k + 1)) t + 1 := by
    conv => lhs; unfold Lib.index
    rw [h]
    rfl
  rw [e]
  by_cases h1 : Lib.index (l.drop (k + 1)) t = -1
  · rw [h1]
    rfl
  · have h2 : (Lib.index (l.drop (k + 1)) t == -1) = false := by rw [beq_eq_false_iff_ne]; exact h1
    rw [h2]
    simp only [Bool.false_eq_true, if_false]
    rw [if_neg h1, if_neg (by omega)]
    push_cast
    omega
theorem find_end (l t : List UInt8) (ht : t ≠ []) (k : Nat) (hk : l.length ≤ k) : findP l t k = -1 := by
  unfold findP
  rw [List.drop_eq_nil_of_le hk]
  have e : Lib.index [] t = -1 := by
    cases t with
    | nil => exact absurd rfl ht
    | cons a b => rfl
  rw [e]
  rfl
set_option maxHeartbeats 1000000 in
theorem rFind (s t : ByteArray) (i : Nat) (w : World) (hs : s.size ≤ 1099511627776) (ht : t.size ≤ 1099511627776) (ht0 : t.data.toList ≠ []) (hi : i ≤ s.size) :
    Calls Tryz.prog 145 #[.string s, .int .i64 (i : Int), .string t] w fun e w' => e = .returned (.int .i64 (findP s.data.toList t.data.toList i)) ∧ w' = w := by
  obtain ⟨R, hR⟩ : ∃ R, findP s.data.toList t.data.toList i = R := ⟨_, rfl⟩
  rw [hR]
  have HR : Hid _ := hR
  have HT0 : Hid _ := ht0
  clear hR ht0
  go_enter Tryz.func145, Tryz.ntmps145
  go_wp2_with fail
  go_loopg [1] (s.size + 1 - i) (fun g x wr => ∃ k : Nat, k ≤ s.size + 1 ∧ g = s.size + 1 - k ∧ x = .int .i64 (k : Int) ∧ R = findP s.data.toList t.data.toList k ∧ w = wr)
  case atStart => exact ⟨i, by omega, rfl, rfl, HR.out.symm, rfl⟩
  case round =>
    obtain ⟨k, hks, hgk, rfl, hinv, rfl⟩ := hrel
    have HG : Hid _ := hgk
    have HI : Hid _ := hinv
    clear hgk hinv HR
    by_cases hle : k ≤ s.size
    · have hle' : (k : Int) ≤ (s.size : Int) := by omega
      go_wp2_with fail
      refine (rAt s t k _ hs ht hle).mono ?_
      rintro e w2 ⟨rfl, rfl⟩
      generalize hb : List.isPrefixOf t.data.toList (s.data.toList.drop k) = b at *
      have HB : Hid _ := hb
      clear hb
      cases b with
      | true =>
        go_wp2_with fail
        go_ret
        exact ⟨ret_i (by rw [HI.out, find_here _ _ _ HB.out]), rfl⟩
      | false =>
        go_wp2_with fail
        go_roundg (s.size + 1 - (k + 1))
        case measure => rw [HG.out]; omega
        case rel =>
          refine ⟨k + 1, by omega, rfl, by go_num, ?_, rfl⟩
          rw [HI.out]
          by_cases hk : k < s.data.toList.length
          · exact find_step _ _ k hk HB.out
          · rw [find_end _ _ HT0.out k (by omega), find_end _ _ HT0.out (k + 1) (by omega)]
    · have hle' : ((k : Int) ≤ (s.size : Int)) = False := eq_false (by omega)
      go_wp2_with fail
      go_ret
      exact ⟨ret_i (by rw [HI.out, find_end _ _ HT0.out k (by simp; omega)]), rfl⟩
end Go.Proofs.YtlpmjpmefdpcmaaGreatDoor
/- The reference: block elements. -/
namespace Go.Proofs.YtlpmjpmefdpcmaaGreatDoor
open Go.RowKit Scrub
theorem kind_block (n : List UInt8) : decide (kindP n = 3) = (n == [112] || n == [100, 105, 118] || n == [117, 108] || n == [108, 105] || n == [116, 97, 98, 108, 101]) := by
  by_cases h1 : n = [112] ∨ n = [100, 105, 118] ∨ n = [117, 108] ∨ n = [108, 105] ∨ n = [116, 97, 98, 108, 101]
  · rcases h1 with rfl | rfl | rfl | rfl | rfl <;> decide
  · have e : (n == [112] || n == [100, 105, 118] || n == [117, 108] || n == [108, 105] || n == [116, 97, 98, 108, 101]) = false := by
      rw [not_or, not_or, not_or, not_or] at h1
      simp [h1]
    rw [e, decide_eq_false_iff_not]
    unfold kindP
    split
    · decide
    · split
      · decide
      · split <;> decide
set_option maxHeartbeats 1000000 in
theorem rIsBlock (s : ByteArray) (w : World) :
    Calls Tryz.prog 150 #[.string s] w fun e w' => e = .returned (.bool (decide (kindP s.data.toList = 3))) ∧ w' = w := by
  rw [kind_block]
  go_enter Tryz.func150, Tryz.ntmps150
  go_wp2
  all_goals
    go_ret
    refine ⟨ret_b ?_, rfl⟩
    simp_all [Go.ByteArray.toList_eq]
end Go.Proofs.YtlpmjpmefdpcmaaGreatDoor
