import Derived.Test.YtlpmjpmefdpcmaaGreatDoorQRd
import Derived.Test.YtlpmjpmefdpcmaaGreatDoorQLies
/- The reference: attributes' names. -/
namespace Go.Proofs.YtlpmjpmefdpcmaaGreatDoor
open Go.RowKit Scrub
def attrAll : Nat → List UInt8 → Bool
  | _, [] => true
  | k, c :: t => !(endsRawB c || (decide (c.toNat = 61) && decide (0 < k))) && attrAll (k + 1) t
theorem endsAttr_alt (c : UInt8) : endsAttrB c = (endsRawB c || decide (c.toNat = 61)) := by
  unfold endsAttrB endsRawB
  cases blankSlashB c <;> cases decide (c.toNat = 61) <;> cases decide (c.toNat = 62) <;> rfl
theorem attrAll_succ : ∀ (t : List UInt8) (k : Nat), attrAll (k + 1) t = t.all (fun c => !endsAttrB c)
  | [], _ => rfl
  | c :: t, k => by
    rw [attrAll, attrAll_succ t (k + 1), List.all_cons, endsAttr_alt]
    simp
theorem attr_alt (s : List UInt8) : isAttrNameP s = (attrAll 0 s && (decide (s ≠ []) && (small s == s))) := by
  cases s with
  | nil => rfl
  | cons c t =>
    unfold isAttrNameP
    rw [attrAll, attrAll_succ]
    simp only [List.headD_cons, List.drop_one, List.tail_cons, Nat.lt_irrefl, decide_false, Bool.and_false, Bool.or_false]
    generalize endsRawB c = x
    generalize t.all (fun c => !endsAttrB c) = y
    generalize (small (c :: t) == c :: t) = u
    generalize decide (c :: t ≠ []) = v
    revert x y u v
    decide
set_option maxHeartbeats 2000000 in
theorem rIsAttr (s : ByteArray) (w : World) (hs : s.size ≤ 1099511627776) :
    Calls Tryz.prog 157 #[.string s] w fun e w' => e = .returned (.bool (isAttrNameP s.data.toList)) ∧ Kept [] w w' := by
  have HN : Hid _ := attr_alt s.data.toList
  generalize isAttrNameP s.data.toList = P at *
  go_enter Tryz.func157, Tryz.ntmps157
  go_wp2_with fail
  go_loopg [3] s.size (fun g x wr => ∃ k : Nat, k ≤ s.size ∧ g = s.size - k ∧ x = .int .i64 (k : Int) ∧ attrAll 0 s.data.toList = attrAll k (s.data.toList.drop k) ∧ wr = w)
  case atStart => exact ⟨0, by omega, rfl, rfl, by simp, rfl⟩
  case round =>
    obtain ⟨k, hks, hgk, rfl, hinv, rfl⟩ := hrel
    have HG : Hid _ := hgk
    have HI : Hid _ := hinv
    clear hgk hinv
    by_cases hlt : k < s.size
    · have hlt' : (k : Int) < (s.size : Int) := by omega
      have hge : (0 : Int) ≤ (k : Int) := by omega
      have HS : Hid (attrAll k (s.data.toList.drop k) = (!(endsRawB s[k] || (decide (s[k].toNat = 61) && decide (0 < k))) && attrAll (k + 1) (s.data.toList.drop (k + 1)))) := by
        show _ = _
        rw [drop_get hlt, attrAll]
      have hcl := s[k].toNat_lt
      have HB0 : Hid (endsRawB s[k] = (blankB s[k] || decide (s[k].toNat = 47) || decide (s[k].toNat = 62))) := by
        show _ = _
        unfold endsRawB blankSlashB
        rfl
      obtain ⟨b, hb⟩ : ∃ b, blankB s[k] = b := ⟨_, rfl⟩
      obtain ⟨x1, h1⟩ : ∃ x, ((s[k].toNat : Int) == 47) = x := ⟨_, rfl⟩
      obtain ⟨x2, h2⟩ : ∃ x, ((s[k].toNat : Int) == 62) = x := ⟨_, rfl⟩
      obtain ⟨x3, h3⟩ : ∃ x, ((s[k].toNat : Int) == 61) = x := ⟨_, rfl⟩
      obtain ⟨z, hz⟩ : ∃ z, decide (0 < k) = z := ⟨_, rfl⟩
      have HS2 : Hid (attrAll 0 s.data.toList = (!(b || x1 || x2 || (x3 && z)) && attrAll (k + 1) (s.data.toList.drop (k + 1)))) := by
        show _ = _
        have a1 : decide (s[k].toNat = 47) = ((s[k].toNat : Int) == 47) := by rw [Bool.eq_iff_iff]; simp; omega
        have a2 : decide (s[k].toNat = 62) = ((s[k].toNat : Int) == 62) := by rw [Bool.eq_iff_iff]; simp; omega
        have a3 : decide (s[k].toNat = 61) = ((s[k].toNat : Int) == 61) := by rw [Bool.eq_iff_iff]; simp; omega
        rw [HI.out, HS.out, HB0.out, hb, a1, a2, a3, h1, h2, h3, hz]
      have HBL : Hid (blankB s[k] = b) := hb
      clear hb HS HB0 HI
      go_wp2_with fail
      refine (rIsBlank s[k] _).mono ?_
      rintro e w2 ⟨rfl, rfl⟩
      rw [HBL.out]
      clear HBL
      have hret : (b || x1 || x2 || (x3 && z)) = true → P = false := by
        intro h
        rw [HN.out, HS2.out, h]
        rfl
      have hgo : (b || x1 || x2 || (x3 && z)) = false → attrAll 0 s.data.toList = attrAll (k + 1) (s.data.toList.drop (k + 1)) := by
        intro h
        rw [HS2.out, h]
        simp
      have HRET : Hid _ := hret
      have HGO : Hid _ := hgo
      clear hret hgo HS2
      cases b with
      | true =>
        go_wp2_with fail
        go_ret
        exact ⟨ret_b (HRET.out rfl).symm, Kept.refl [] _⟩
      | false =>
        cases x1 with
        | true =>
          go_wp2_with fail
          go_ret
          exact ⟨ret_b (HRET.out rfl).symm, Kept.refl [] _⟩
        | false =>
          cases x2 with
          | true =>
            go_wp2_with fail
            go_ret
            exact ⟨ret_b (HRET.out rfl).symm, Kept.refl [] _⟩
          | false =>
            cases x3 with
            | true =>
              cases z with
              | true =>
                go_wp2_with fail
                go_ret
                exact ⟨ret_b (HRET.out rfl).symm, Kept.refl [] _⟩
              | false =>
                go_wp2_with fail
                go_roundg (s.size - (k + 1))
                case measure => rw [HG.out]; omega
                case rel => exact ⟨k + 1, by omega, rfl, by go_num, HGO.out rfl, rfl⟩
            | false =>
              clear hz
              go_wp2_with fail
              go_roundg (s.size - (k + 1))
              case measure => rw [HG.out]; omega
              case rel => exact ⟨k + 1, by omega, rfl, by go_num, HGO.out rfl, rfl⟩
    · have hlt' : ((k : Int) < (s.size : Int)) = False := by simp; omega
      have HN3 : Hid (P = (decide (s.data.toList ≠ []) && (small s.data.toList == s.data.toList))) := by
        show _ = _
        rw [HN.out, HI.out, List.drop_eq_nil_of_le (by simp; omega), attrAll]
        simp
      clear HN HI
      by_cases h0 : s.data.toList = []
      · have hse : s = ⟨#[]⟩ := by
          apply ByteArray.ext
          apply Array.toList_inj.1
          exact h0
        have HP : Hid (P = false) := by
          show _ = _
          rw [HN3.out, h0]
          rfl
        subst hse
        clear h0
        go_wp2_with fail
        go_ret
        exact ⟨ret_b HP.out.symm, Kept.refl [] _⟩
      · have hne : s.toList.isEmpty = false := by
          rw [Go.ByteArray.toList_eq]
          cases h : s.data.toList with
          | nil => exact absurd h h0
          | cons a b => rfl
        have HP : Hid (P = (small s.data.toList == s.data.toList)) := by
          show _ = _
          rw [HN3.out]
          simp [h0]
        clear h0 HN3
        go_wp2_with fail
        refine (rSmall s _ hs).mono ?_
        rintro e w2 ⟨rfl, hk2⟩
        generalize small s.data.toList = sm at *
        go_wp2_with fail
        go_ret
        refine ⟨ret_b ?_, hk2⟩
        rw [HP.out]
        simp [Go.ByteArray.toList_eq]
end Go.Proofs.YtlpmjpmefdpcmaaGreatDoor
/- The reference: rows of attributes. -/
namespace Go.Proofs.YtlpmjpmefdpcmaaGreatDoor
open Go.RowKit Scrub Go.Shelf
theorem drewN_add (w : World) (a b : Nat) : (w.drewN a).drewN b = w.drewN (a + b) := by simp [World.drewN, Nat.add_assoc]
theorem attrsOk_bad {al : List (List UInt8 × List UInt8)} {k : Nat} (hk : k < al.length) (h : isAttrNameP (al[k]).1 = false) : attrsOkP al = false := by
  unfold attrsOkP
  have : al.all (fun a => isAttrNameP a.1) = false := by
    rw [List.all_eq_false]
    exact ⟨al[k], List.getElem_mem hk, by rw [h]; simp⟩
  rw [this]
  rfl
theorem attrsOk_twice {al : List (List UInt8 × List UInt8)} {j k : Nat} (hjk : j < k) (hk : k < al.length) (h : (al[j]).1 = (al[k]).1) : attrsOkP al = false := by
  unfold attrsOkP
  have : decide (al.map Prod.fst).Nodup = false := by
    rw [decide_eq_false_iff_not]
    intro hn
    have h1 := List.pairwise_iff_getElem.1 hn j k (by simp; omega) (by simp; omega) hjk
    simp at h1
    exact h1 h
  rw [this]
  simp
theorem attrsOk_step {al : List (List UInt8 × List UInt8)} {k : Nat} (hk : k < al.length) (h0 : attrsOkP (al.take k) = true) (h1 : isAttrNameP (al[k]).1 = true) (h2 : ∀ j (hj : j < k), (al[j]).1 ≠ (al[k]).1) : attrsOkP (al.take (k + 1)) = true := by
  rw [List.take_succ_eq_append_getElem hk]
  unfold attrsOkP at h0 ⊢
  simp only [Bool.and_eq_true, decide_eq_true_eq, List.all_append, List.all_cons, List.all_nil, Bool.and_true, List.map_append, List.map_cons, List.map_nil] at h0 ⊢
  refine ⟨⟨h0.1, h1⟩, ?_⟩
  rw [List.nodup_append]
  refine ⟨h0.2, by simp, ?_⟩
  intro a ha b hb
  have hb' : b = (al[k]).1 := by simpa using hb
  subst hb'
  obtain ⟨x, hx, rfl⟩ := List.mem_map.1 ha
  obtain ⟨j, hj, e⟩ := List.getElem_of_mem hx
  have hjk : j < k := by rw [List.length_take] at hj; omega
  rw [List.getElem_take] at e
  rw [← e]
  exact h2 j hjk
set_option maxHeartbeats 2000000 in
theorem rWrong (v : Value) (al : List (List UInt8 × List UInt8)) (w : World) (hL : LiesA w v al) (hb : bulkA al ≤ 1099511627776) :
    Calls Tryz.prog 94 #[v] w fun e w' => e = .returned (.bool (!attrsOkP al)) ∧ Kept [] w w' := by
  obtain ⟨a, c, rfl, hc⟩ := hL
  have hlen := Nat.le_trans (bulkA_len al) hb
  have HBM : Hid (∀ i (h : i < al.length), (al[i]).1.length ≤ 1099511627776) := fun i h => by
    have := bulkA_mem (List.getElem_mem h)
    omega
  have HC : Hid (∀ i (h : i < al.length), ∃ g o, a = some ⟨g, o, none⟩ ∧ w.cell? ⟨g, o + i * 2, none⟩ = some (.string ⟨(al[i]).1.toArray⟩) ∧ w.cell? ⟨g, o + i * 2 + 1, none⟩ = some (.string ⟨(al[i]).2.toArray⟩)) := hc
  clear hc hb
  go_enter Tryz.func94, Tryz.ntmps94
  go_wp2_with fail
  go_loopg [3] al.length (fun g x wr => ∃ k : Nat, k ≤ al.length ∧ g = al.length - k ∧ x = .int .i64 (k : Int) ∧ attrsOkP (al.take k) = true ∧ Kept [] w wr)
  case atStart => exact ⟨0, by omega, rfl, rfl, by simp [attrsOkP], Kept.refl [] _⟩
  case round =>
    obtain ⟨k, hks, hgk, rfl, hinv, hkept⟩ := hrel
    have HG : Hid _ := hgk
    have HI : Hid _ := hinv
    clear hgk hinv
    by_cases hlt : k < al.length
    · have hlt' : (k : Int) < (al.length : Int) := by omega
      have hge : (0 : Int) ≤ (k : Int) := by omega
      obtain ⟨g, o, rfl, c0, _⟩ := HC.out k hlt
      have c0' := cell_kept hkept c0
      clear c0
      have HBK : Hid _ := HBM.out k hlt
      go_wp2_with fail
      refine (rIsAttr ⟨(al[k]).1.toArray⟩ _ (by have := HBK.out; simp [ByteArray.size]; omega)).mono ?_
      rintro e w1 ⟨rfl, hk1⟩
      generalize hb : isAttrNameP (⟨(al[k]).1.toArray⟩ : ByteArray).data.toList = b
      have HB : Hid (isAttrNameP (al[k]).1 = b) := hb
      clear hb
      have hkept1 := hkept.trans hk1
      have c1' := cell_kept hk1 c0'
      clear hkept hk1 c0'
      cases b with
      | false =>
        go_wp2_with fail
        go_ret
        refine ⟨ret_b ?_, hkept1⟩
        rw [attrsOk_bad hlt HB.out]
        rfl
      | true =>
        go_wp2_with fail
        go_loopg [5] k (fun g x wr => ∃ j n : Nat, j ≤ k ∧ g = k - j ∧ x = .int .i64 (j : Int) ∧ (∀ i (hi : i < j) (hik : i < al.length), (al[i]).1 ≠ (al[k]).1) ∧ wr = w1.drewN n)
        case atStart => exact ⟨0, 0, by omega, rfl, rfl, fun i hi => by omega, rfl⟩
        case round =>
          obtain ⟨j, n, hjk, hgj, rfl, hinv2, rfl⟩ := hrel
          have HG2 : Hid _ := hgj
          have HI2 : Hid _ := hinv2
          clear hgj hinv2
          by_cases hjl : j < k
          · have hjl' : (j : Int) < (k : Int) := by omega
            have hj0 : (0 : Int) ≤ (j : Int) := by omega
            have hjal : (j : Int) < (al.length : Int) := by omega
            obtain ⟨g', o', hgo, d0, _⟩ := HC.out j (by omega)
            injection hgo with hgo
            injection hgo with e1 e2
            subst e1 e2
            have d0' := cell_kept hkept1 d0
            clear d0
            obtain ⟨q, hq⟩ : ∃ q, ((al[j]).1 == (al[k]).1) = q := ⟨_, rfl⟩
            have HQ : Hid _ := hq
            cases q with
            | true =>
              go_wp2_with fail
              go_quiet (fail)
              go_wp2_with fail
              go_ret
              refine ⟨ret_b ?_, (hkept1.drewN _).drewN _⟩
              rw [attrsOk_twice hjl hlt (by simpa using HQ.out)]
              rfl
            | false =>
              go_wp2_with fail
              go_quiet (fail)
              go_wp2_with fail
              go_roundg (k - (j + 1))
              case measure => rw [HG2.out]; omega
              case rel =>
                refine ⟨j + 1, _, by omega, rfl, by go_num, ?_, by first | rfl | exact drewN_add _ _ _⟩
                intro i hi hik
                by_cases hij : i < j
                · exact HI2.out i hij hik
                · have : i = j := by omega
                  subst this
                  simpa using HQ.out
          · have hjl' : ((j : Int) < (k : Int)) = False := by simp; omega
            go_wp2_with fail
            go_roundg (al.length - (k + 1))
            case measure => rw [HG.out]; omega
            case rel =>
              refine ⟨k + 1, by omega, rfl, by go_num, attrsOk_step hlt HI.out HB.out (fun i hi => HI2.out i (by omega) (by omega)), hkept1.drewN _⟩
    · have hlt' : ((k : Int) < (al.length : Int)) = False := by simp; omega
      go_wp2_with fail
      go_ret
      refine ⟨ret_b ?_, hkept⟩
      have := HI.out
      rw [List.take_of_length_le (by omega)] at this
      rw [this]
      rfl
end Go.Proofs.YtlpmjpmefdpcmaaGreatDoor
