import Derived.Test.YtlpmjpmefdpcmaaGreatDoorProg
import Derived.Test.YtlpmjpmefdpcmaaGreatDoorQPure5
import Derived.WalkKit
import Derived.WalkSpells
import Derived.Deep.QuietTactic
import Derived.BigQuiet
import Derived.Deep.LoopGhost
import Derived.Test.YtlpmjpmefdpcmaaGreatDoorQLies
/- The reference's leaves. -/
namespace Go.Proofs.YtlpmjpmefdpcmaaGreatDoor
open Go.RowKit Scrub
theorem ret_b {a b : Bool} (h : a = b) : Ending.returned (.bool a) = .returned (.bool b) := by rw [h]
theorem ret_i {k : IntKind} {a b : Int} (h : a = b) : Ending.returned (.int k a) = .returned (.int k b) := by rw [h]
def digitB (c : UInt8) : Bool := decide (48 ≤ c.toNat) && decide (c.toNat ≤ 57)
set_option maxHeartbeats 400000 in
theorem rIsLetter (c : UInt8) (w : World) :
    Calls Tryz.prog 155 #[.int .u8 (c.toNat : Int)] w fun e w' => e = .returned (.bool (letB c)) ∧ w' = w := by
  have hc := c.toNat_lt
  go_enter Tryz.func155, Tryz.ntmps155
  go_wp2
  all_goals
    go_ret
    refine ⟨ret_b ?_, rfl⟩
    unfold letB
    rw [Bool.eq_iff_iff]
    simp [*]
    try omega
set_option maxHeartbeats 400000 in
theorem rIsDigit (c : UInt8) (w : World) :
    Calls Tryz.prog 154 #[.int .u8 (c.toNat : Int)] w fun e w' => e = .returned (.bool (digitB c)) ∧ w' = w := by
  have hc := c.toNat_lt
  go_enter Tryz.func154, Tryz.ntmps154
  go_wp2
  all_goals
    go_ret
    refine ⟨ret_b ?_, rfl⟩
    unfold digitB
    rw [Bool.eq_iff_iff]
    simp [*]
    try omega
set_option maxHeartbeats 400000 in
theorem rIsBlank (c : UInt8) (w : World) :
    Calls Tryz.prog 202 #[.int .u8 (c.toNat : Int)] w fun e w' => e = .returned (.bool (blankB c)) ∧ w' = w := by
  have hc := c.toNat_lt
  go_enter Tryz.func202, Tryz.ntmps202
  go_wp2
  all_goals
    go_ret
    refine ⟨ret_b ?_, rfl⟩
    unfold blankB
    rw [Bool.eq_iff_iff]
    simp [*]
    try omega
end Go.Proofs.YtlpmjpmefdpcmaaGreatDoor
/- The reference: small letters, what stands at a place, kinds. -/
namespace Go.Proofs.YtlpmjpmefdpcmaaGreatDoor
open Go.RowKit Scrub
set_option maxHeartbeats 1000000 in
theorem rSmall (s : ByteArray) (w : World) (hs : s.size ≤ 1099511627776) :
    Calls Tryz.prog 156 #[.string s] w fun e w' => e = .returned (.string ⟨(small s.data.toList).toArray⟩) ∧ Kept [] w w' := by
  obtain ⟨cap, w1, hcv, hk1, hb1⟩ := conv_bytes (P := Tryz.prog) w 9 60 5 s Tryz.underlying9 Tryz.underlying60 Tryz.underlying5
  go_enter Tryz.func156, Tryz.ntmps156
  go_wp2
  go_loopg [4] s.size (fun g x wr => ∃ k : Nat, k ≤ s.size ∧ g = s.size - k ∧ x = .int .i64 (k : Int) ∧ Kept [] w wr ∧ BytesAt wr w.heap.size (smallRow s.data.toList k))
  case atStart => exact ⟨0, by omega, by omega, rfl, hk1, by rw [smallRow_zero]; exact hb1⟩
  case round =>
    obtain ⟨k, hk, hg, rfl, hkept, hba⟩ := hrel
    have HG : Hid (gk = s.size - k) := hg
    clear hg hcv hb1
    by_cases hlt : k < s.size
    · have hlt' : k < s.data.toList.length := by simpa using hlt
      have hll : k < (smallRow s.data.toList k).length := by rw [smallRow_length _ _ (Nat.le_of_lt hlt')]; exact hlt'
      obtain ⟨hc1, hf1⟩ := hba k hll
      rw [smallRow_get _ _ hlt' hll] at hc1
      have hc2 : wr.cell? ⟨w.heap.size, k, none⟩ = some (.int .u8 (s[k].toNat : Int)) := hc1
      clear hc1
      have hcl := s[k].toNat_lt
      by_cases hA : 65 ≤ s[k].toNat ∧ s[k].toNat ≤ 90
      · obtain ⟨hA1, hA2⟩ := hA
        have hA1' : (65 : Int) ≤ (s[k].toNat : Int) := by omega
        have hA2' : (s[k].toNat : Int) ≤ 90 := by omega
        have HE : Hid ((s[k].toNat : Int) + 32 = ((smallB s[k]).toNat : Int)) := by
          show _ = _
          rw [smallB_in _ hA1 hA2]
          omega
        go_wp2_with fail
        rw [HE.out]
        go_wp2_with fail
        go_roundg (s.size - (k + 1))
        case measure => rw [HG.out]; omega
        case rel =>
          refine ⟨k + 1, by omega, rfl, by go_num, hkept.setCell (by simp) _, ?_⟩
          rw [← smallRow_set _ _ hlt']
          exact hba.set k (smallB s[k]) hll
      · have HE : Hid (smallRow s.data.toList k = smallRow s.data.toList (k + 1)) := by
          show _ = _
          rw [← smallRow_set _ _ hlt']
          have e : smallB s.data.toList[k] = (smallRow s.data.toList k)[k] := by
            rw [smallRow_get _ _ hlt' hll]
            exact smallB_out _ hA
          rw [e]
          simp
        have hcond : ((65 : Int) ≤ (s[k].toNat : Int)) = False ∨ ((65 : Int) ≤ (s[k].toNat : Int) ∧ ((s[k].toNat : Int) ≤ 90) = False) := by
          by_cases h1 : 65 ≤ s[k].toNat
          · exact .inr ⟨by omega, by simp; omega⟩
          · exact .inl (by simp; omega)
        clear hA
        rcases hcond with hcond | ⟨hcond1, hcond⟩
        all_goals
          go_wp2_with fail
          go_roundg (s.size - (k + 1))
          case measure => rw [HG.out]; omega
          case rel =>
            refine ⟨k + 1, by omega, rfl, by go_num, hkept, ?_⟩
            rw [← HE.out]
            exact hba
    · have hback := conv_back (P := Tryz.prog) wr 60 9 5 w.heap.size cap s.size (smallRow s.data.toList k) (by rw [smallRow_length _ _ (by simpa using hk)]; simp) Tryz.underlying60 Tryz.underlying5 Tryz.underlying9 hba
      rw [smallRow_all _ _ (by simp; omega)] at hback
      go_wp2_with fail
      go_ret
      exact ⟨rfl, hkept⟩
theorem prefix_iff (t l : List UInt8) : List.isPrefixOf t l = (decide (t.length ≤ l.length) && (l.take t.length == t)) := by
  rw [Bool.eq_iff_iff]
  simp only [List.isPrefixOf_iff_prefix, Bool.and_eq_true, decide_eq_true_eq, beq_iff_eq]
  constructor
  · intro h
    exact ⟨h.length_le, (List.prefix_iff_eq_take.1 h).symm⟩
  · rintro ⟨_, h⟩
    exact List.prefix_iff_eq_take.2 h.symm
theorem at_iff (s t : ByteArray) (k : Nat) (hk : k ≤ s.size) : List.isPrefixOf t.data.toList (s.data.toList.drop k) = (decide (k + t.size ≤ s.size) && ((s.extract k (k + t.size)).toList == t.toList)) := by
  rw [prefix_iff]
  have e1 : (s.data.toList.drop k).length = s.size - k := by simp
  have e2 : t.data.toList.length = t.size := by simp
  have e3 : (s.extract k (k + t.size)).data.toList = (s.data.toList.drop k).take t.size := by simp
  rw [Go.ByteArray.toList_eq, Go.ByteArray.toList_eq, e1, e2, e3]
  congr 1
  rw [Bool.eq_iff_iff]
  simp
  omega
set_option maxHeartbeats 1000000 in
theorem rAt (s t : ByteArray) (k : Nat) (w : World) (hs : s.size ≤ 1099511627776) (ht : t.size ≤ 1099511627776) (hk : k ≤ s.size) :
    Calls Tryz.prog 142 #[.string s, .int .i64 (k : Int), .string t] w fun e w' => e = .returned (.bool (List.isPrefixOf t.data.toList (s.data.toList.drop k))) ∧ w' = w := by
  rw [at_iff s t k hk]
  by_cases hle : k + t.size ≤ s.size
  · have hle' : (k : Int) + (t.size : Int) ≤ (s.size : Int) := by omega
    have h0 : (0 : Int) ≤ (k : Int) := by omega
    have h1 : (k : Int) ≤ (k : Int) + (t.size : Int) := by omega
    have hd : decide (k + t.size ≤ s.size) = true := by simpa using hle
    rw [hd]
    clear hd
    go_enter Tryz.func142, Tryz.ntmps142
    go_wp2_with fail
    go_ret
    exact ⟨ret_b (by simp), rfl⟩
  · have hle' : ((k : Int) + (t.size : Int) ≤ (s.size : Int)) = False := by simp; omega
    have hd : decide (k + t.size ≤ s.size) = false := by simpa using hle
    rw [hd]
    clear hd
    go_enter Tryz.func142, Tryz.ntmps142
    go_wp2_with fail
    go_ret
    exact ⟨ret_b (by simp), rfl⟩
theorem kind_raw (n : List UInt8) : decide (kindP n = 2) = (n == [115, 116, 121, 108, 101] || n == [115, 99, 114, 105, 112, 116]) := by
  by_cases h1 : n = [115, 116, 121, 108, 101]
  · subst h1; decide
  · by_cases h2 : n = [115, 99, 114, 105, 112, 116]
    · subst h2; decide
    · have e : (n == [115, 116, 121, 108, 101] || n == [115, 99, 114, 105, 112, 116]) = false := by simp [h1, h2]
      rw [e, decide_eq_false_iff_not]
      unfold kindP
      rw [if_neg (c := n = [115, 116, 121, 108, 101] ∨ _) (by simp [h1, h2])]
      split
      · decide
      · split
        · decide
        · split <;> decide
theorem kind_void (n : List UInt8) : decide (kindP n = 1) = (n == [98, 114] || n == [104, 114] || n == [105, 109, 103]) := by
  by_cases h1 : n = [98, 114] ∨ n = [104, 114] ∨ n = [105, 109, 103]
  · rcases h1 with rfl | rfl | rfl <;> decide
  · have e : (n == [98, 114] || n == [104, 114] || n == [105, 109, 103]) = false := by
      rw [not_or, not_or] at h1
      simp [h1]
    rw [e, decide_eq_false_iff_not]
    unfold kindP
    rw [if_neg h1]
    split
    · decide
    · split
      · decide
      · split <;> decide
set_option maxHeartbeats 1000000 in
theorem rIsRaw (s : ByteArray) (w : World) :
    Calls Tryz.prog 96 #[.string s] w fun e w' => e = .returned (.bool (decide (kindP s.data.toList = 2))) ∧ w' = w := by
  rw [kind_raw]
  go_enter Tryz.func96, Tryz.ntmps96
  go_wp2
  all_goals
    go_ret
    refine ⟨ret_b ?_, rfl⟩
    simp_all [Go.ByteArray.toList_eq]
set_option maxHeartbeats 1000000 in
theorem rIsVoid (s : ByteArray) (w : World) :
    Calls Tryz.prog 95 #[.string s] w fun e w' => e = .returned (.bool (decide (kindP s.data.toList = 1))) ∧ w' = w := by
  rw [kind_void]
  go_enter Tryz.func95, Tryz.ntmps95
  go_wp2
  all_goals
    go_ret
    refine ⟨ret_b ?_, rfl⟩
    simp_all [Go.ByteArray.toList_eq]
end Go.Proofs.YtlpmjpmefdpcmaaGreatDoor
/- The reference: what ends a raw element. -/
namespace Go.Proofs.YtlpmjpmefdpcmaaGreatDoor
open Go.RowKit Scrub
theorem ends_eq (s name : ByteArray) (i i2 m : Nat) (h2 : i2 = i + 2) (hm : m = i2 + name.size) (hlt : m < s.size) :
    endsRawP (s.data.toList.drop i) name.data.toList = (List.isPrefixOf [60, 47] (s.data.toList.drop i) && ((small (s.extract i2 m).data.toList == name.data.toList) && endsRawB s[m])) := by
  subst h2
  have e0 : name.data.toList.length = name.size := by simp
  have e1 : (s.data.toList.drop i).drop 2 = s.data.toList.drop (i + 2) := by rw [List.drop_drop]
  have e2 : (s.extract (i + 2) m).data.toList = (s.data.toList.drop (i + 2)).take name.size := by
    subst hm
    simp
  have e3 : (s.data.toList.drop (i + 2)).getD name.size 0 = s[m] := by
    subst hm
    rw [List.getD_eq_getElem?_getD, List.getElem?_drop, List.getElem?_eq_getElem (by simpa using hlt)]
    rfl
  have e4 : decide (name.size < (s.data.toList.drop (i + 2)).length) = true := by
    simp
    omega
  unfold endsRawP
  rw [e1, e0, e2, e3, e4, Bool.and_true, Bool.and_assoc]
theorem ends_short (s name : ByteArray) (i : Nat) (h : s.size ≤ i + 2 + name.size) : endsRawP (s.data.toList.drop i) name.data.toList = false := by
  have e4 : decide (name.data.toList.length < ((s.data.toList.drop i).drop 2).length) = false := by
    simp
    omega
  unfold endsRawP
  rw [e4]
  simp
set_option maxHeartbeats 2000000 in
theorem rEnds (s name : ByteArray) (i : Nat) (w : World) (hs : s.size ≤ 1099511627776) (hn : name.size ≤ 1099511627776) (hi : i ≤ s.size) :
    Calls Tryz.prog 158 #[.string s, .int .i64 (i : Int), .string name] w fun e w' => e = .returned (.bool (endsRawP (s.data.toList.drop i) name.data.toList)) ∧ Kept [] w w' := by
  obtain ⟨i2, hi2⟩ : ∃ i2 : Nat, i2 = i + 2 := ⟨_, rfl⟩
  obtain ⟨m, hm⟩ : ∃ m : Nat, m = i2 + name.size := ⟨_, rfl⟩
  have q2 : (i : Int) + 2 = (i2 : Int) := by omega
  have qm : (i2 : Int) + (name.size : Int) = (m : Int) := by omega
  have hq0 : (0 : Int) ≤ (i2 : Int) := by omega
  have hq1 : (i2 : Int) ≤ (m : Int) := by omega
  have hq2 : (0 : Int) ≤ (m : Int) := by omega
  have hmb : (m : Int) ≤ 4398046511104 := by omega
  have HI2 : Hid (i2 = i + 2) := hi2
  have HM : Hid (m = i2 + name.size) := hm
  clear hi2 hm
  generalize hP : endsRawP (s.data.toList.drop i) name.data.toList = P
  have HP : Hid (endsRawP (s.data.toList.drop i) name.data.toList = P) := hP
  clear hP
  go_enter Tryz.func158, Tryz.ntmps158
  go_wp2_with fail
  refine (rAt s ⟨#[60, 47]⟩ i _ hs (by decide) hi).mono ?_
  rintro e w1 ⟨rfl, rfl⟩
  generalize ha : List.isPrefixOf (⟨#[60, 47]⟩ : ByteArray).data.toList (s.data.toList.drop i) = a
  have HA : Hid (List.isPrefixOf [60, 47] (s.data.toList.drop i) = a) := ha
  clear ha
  by_cases hlt : m < s.size
  · have hlt' : (m : Int) < (s.size : Int) := by omega
    have hge : ((s.size : Int) ≤ (m : Int)) = False := by simp; omega
    have hle : (m : Int) ≤ (s.size : Int) := by omega
    have HE := ends_eq s name i i2 m HI2.out HM.out hlt
    rw [HA.out, HP.out] at HE
    have HEE : Hid _ := HE
    clear HE
    cases a with
    | false =>
      go_wp2_with fail
      go_ret
      exact ⟨ret_b (by rw [HEE.out]; rfl), Kept.refl [] _⟩
    | true =>
      go_wp2_with fail
      refine (rSmall (s.extract i2 m) _ (by simp; omega)).mono ?_
      rintro e w2 ⟨rfl, hk2⟩
      generalize small (s.extract i2 m).data.toList = sm at *
      go_wp2_with fail
      refine (rIsBlank s[m] _).mono ?_
      rintro e w3 ⟨rfl, rfl⟩
      have hcl := s[m].toNat_lt
      generalize hb : blankB s[m] = b
      have HB : Hid (endsRawB s[m] = (b || decide (s[m].toNat = 47) || decide (s[m].toNat = 62))) := by
        show _ = _
        unfold endsRawB blankSlashB
        rw [hb]
      clear hb
      go_wp2_with fail
      all_goals
        go_ret
        refine ⟨ret_b ?_, hk2⟩
        rw [HEE.out, HB.out]
        simp only [Go.ByteArray.toList_eq] at *
        rw [Bool.eq_iff_iff]
        simp [*]
        try omega
  · have hge : (s.size : Int) ≤ (m : Int) := by omega
    have HE := ends_short s name i (by have := HI2.out; have := HM.out; omega)
    rw [HP.out] at HE
    have HEE : Hid _ := HE
    clear HE
    cases a with
    | false =>
      go_wp2_with fail
      go_ret
      exact ⟨ret_b (by rw [HEE.out]), Kept.refl [] _⟩
    | true =>
      go_wp2_with fail
      go_ret
      exact ⟨ret_b (by rw [HEE.out]), Kept.refl [] _⟩
end Go.Proofs.YtlpmjpmefdpcmaaGreatDoor
/- The reference: where a raw text ends; names. -/
namespace Go.Proofs.YtlpmjpmefdpcmaaGreatDoor
open Go.RowKit Scrub
set_option maxHeartbeats 2000000 in
theorem rRawEnd (s name : ByteArray) (i : Nat) (w : World) (hs : s.size ≤ 1099511627776) (hn : name.size ≤ 1099511627776) (hi : i ≤ s.size) :
    Calls Tryz.prog 97 #[.string s, .int .i64 (i : Int), .string name] w fun e w' => e = .returned (.int .i64 ((i + (rawP name.data.toList (s.data.toList.drop i)).1.length : Nat) : Int)) ∧ Kept [] w w' := by
  go_enter Tryz.func97, Tryz.ntmps97
  go_wp2_with fail
  go_loopg [1] (s.size - i) (fun g x wr => ∃ k : Nat, i ≤ k ∧ k ≤ s.size ∧ g = s.size - k ∧ x = .int .i64 (k : Int) ∧ RunInv (fun x => endsRawP x name.data.toList) s.data.toList i k ∧ Kept [] w wr)
  case atStart => exact ⟨i, by omega, hi, rfl, rfl, RunInv.start _ _ _, Kept.refl [] _⟩
  case round =>
    obtain ⟨k, hik, hks, hgk, rfl, hinv, hkept⟩ := hrel
    have HG : Hid _ := hgk
    have HI : Hid _ := hinv
    clear hgk hinv
    by_cases hlt : k < s.size
    · have hlt' : (k : Int) < (s.size : Int) := by omega
      go_wp2_with fail
      refine (rEnds s name k _ hs hn hks).mono ?_
      rintro e w1 ⟨rfl, hk1⟩
      generalize hb : endsRawP (s.data.toList.drop k) name.data.toList = b
      have HB : Hid _ := hb
      clear hb
      cases b with
      | true =>
        go_wp2_with fail
        go_ret
        refine ⟨ret_i ?_, hkept.trans hk1⟩
        obtain ⟨h1, _⟩ := RunInv.stop HI.out (.inr HB.out)
        unfold rawP
        rw [h1]
        simp
        omega
      | false =>
        go_wp2_with fail
        go_roundg (s.size - (k + 1))
        case measure => rw [HG.out]; omega
        case rel => exact ⟨k + 1, by omega, by omega, rfl, by go_num, RunInv.step HI.out hik (by simpa using hlt) HB.out, hkept.trans hk1⟩
    · have hlt' : ((k : Int) < (s.size : Int)) = False := by simp; omega
      go_wp2_with fail
      go_ret
      refine ⟨ret_i ?_, hkept⟩
      obtain ⟨h1, _⟩ := RunInv.stop HI.out (.inl (by simp; omega))
      unfold rawP
      rw [h1]
      simp
      omega
theorem ba_cons (s : ByteArray) (h : 0 < s.size) : ∃ c r, s.data.toList = c :: r ∧ c = s[0] := by
  have e := drop_get (k := 0) h
  exact ⟨_, _, by simpa using e, rfl⟩
theorem name_alt (s : List UInt8) : isNameP s = (decide (s ≠ []) && !digitB (s.headD 0) && s.all nameB && (small s == s)) := by
  cases s with
  | nil => rfl
  | cons c t =>
    have e : letB c = (nameB c && !digitB c) := by
      unfold nameB digitB
      cases h : letB c with
      | false =>
        cases decide (48 ≤ c.toNat) && decide (c.toNat ≤ 57) <;> rfl
      | true =>
        have : (decide (48 ≤ c.toNat) && decide (c.toNat ≤ 57)) = false := by
          unfold letB at h
          simp at h ⊢
          omega
        rw [this]
        rfl
    unfold isNameP
    simp only [List.headD_cons, List.all_cons]
    rw [e]
    generalize nameB c = x
    generalize digitB c = y
    generalize t.all nameB = z
    generalize (small (c :: t) == c :: t) = u
    generalize decide (c :: t ≠ []) = v
    revert x y z u v
    decide
set_option maxHeartbeats 2000000 in
theorem rIsElement (s : ByteArray) (w : World) (hs : s.size ≤ 1099511627776) :
    Calls Tryz.prog 93 #[.string s] w fun e w' => e = .returned (.bool (isNameP s.data.toList)) ∧ Kept [] w w' := by
  have HN : Hid _ := name_alt s.data.toList
  generalize isNameP s.data.toList = P at *
  by_cases h0 : s.size = 0
  · have e : s.data.toList = [] := List.eq_nil_of_length_eq_zero (by simpa using h0)
    have HP : Hid (P = false) := by
      have := HN.out
      rw [e] at this
      exact this
    have hse : s = ⟨#[]⟩ := by
      apply ByteArray.ext
      apply Array.toList_inj.1
      exact e
    subst hse
    clear h0 e HN
    go_enter Tryz.func93, Tryz.ntmps93
    go_wp2_with fail
    go_ret
    exact ⟨ret_b HP.out.symm, Kept.refl [] _⟩
  · have hpos : (0 : Int) < (s.size : Int) := by omega
    have hpos' : 0 < s.size := by omega
    obtain ⟨c, r, hcr, hc0⟩ := ba_cons s hpos'
    have hne : s.toList.isEmpty = false := by rw [Go.ByteArray.toList_eq, hcr]; rfl
    have HH : Hid (s.data.toList.headD 0 = s[0]) := by show _ = _; rw [hcr]; exact hc0
    have HNE : Hid (decide (s.data.toList ≠ []) = true) := by show _ = _; rw [hcr]; rfl
    clear hcr hc0
    go_enter Tryz.func93, Tryz.ntmps93
    go_wp2_with fail
    refine (rIsDigit s[0] _).mono ?_
    rintro e w1 ⟨rfl, rfl⟩
    generalize hd : digitB s[0] = d
    have HD : Hid _ := hd
    clear hd
    cases d with
    | true =>
      go_wp2_with fail
      go_ret
      refine ⟨ret_b ?_, Kept.refl [] _⟩
      rw [HN.out, HH.out, HD.out]
      simp
    | false =>
      have HN2 : Hid (P = (s.data.toList.all nameB && (small s.data.toList == s.data.toList))) := by
        show _ = _
        rw [HN.out, HH.out, HD.out, HNE.out]
        simp
      clear HN HH HD HNE
      go_wp2_with fail
      go_loopg [3] s.size (fun g x wr => ∃ k : Nat, k ≤ s.size ∧ g = s.size - k ∧ x = .int .i64 (k : Int) ∧ s.data.toList.all nameB = (s.data.toList.drop k).all nameB ∧ wr = w1)
      case atStart => exact ⟨0, by omega, rfl, rfl, by simp, rfl⟩
      case round =>
        obtain ⟨k, hks, hgk, rfl, hinv, rfl⟩ := hrel
        have HG : Hid _ := hgk
        have HI : Hid _ := hinv
        clear hgk hinv
        by_cases hlt : k < s.size
        · have hlt' : (k : Int) < (s.size : Int) := by omega
          have hge : (0 : Int) ≤ (k : Int) := by omega
          have HS : Hid ((s.data.toList.drop k).all nameB = (nameB s[k] && (s.data.toList.drop (k + 1)).all nameB)) := by
            show _ = _
            rw [drop_get hlt]
            simp
          have HNB : Hid (nameB s[k] = (letB s[k] || digitB s[k])) := by
            show _ = _
            unfold nameB digitB
            rfl
          go_wp2_with fail
          refine (rIsLetter s[k] _).mono ?_
          rintro e w2 ⟨rfl, rfl⟩
          go_wp2_with fail
          refine (rIsDigit s[k] _).mono ?_
          rintro e w3 ⟨rfl, rfl⟩
          generalize letB s[k] = x at *
          generalize digitB s[k] = y at *
          cases x <;> cases y
          · go_wp2_with fail
            go_ret
            refine ⟨ret_b ?_, Kept.refl [] _⟩
            rw [HN2.out, HI.out, HS.out, HNB.out]
            simp
          all_goals
            go_wp2_with fail
            go_roundg (s.size - (k + 1))
            case measure => rw [HG.out]; omega
            case rel =>
              refine ⟨k + 1, by omega, rfl, by go_num, ?_, rfl⟩
              rw [HI.out, HS.out, HNB.out]
              simp
        · have hlt' : ((k : Int) < (s.size : Int)) = False := by simp; omega
          have HN3 : Hid (P = (small s.data.toList == s.data.toList)) := by
            show _ = _
            rw [HN2.out, HI.out, List.drop_eq_nil_of_le (by simp; omega)]
            simp
          clear HN2 HI
          go_wp2_with fail
          refine (rSmall s _ hs).mono ?_
          rintro e w2 ⟨rfl, hk2⟩
          generalize small s.data.toList = sm at *
          go_wp2_with fail
          go_ret
          refine ⟨ret_b ?_, hk2⟩
          rw [HN3.out]
          simp [Go.ByteArray.toList_eq]
end Go.Proofs.YtlpmjpmefdpcmaaGreatDoor
