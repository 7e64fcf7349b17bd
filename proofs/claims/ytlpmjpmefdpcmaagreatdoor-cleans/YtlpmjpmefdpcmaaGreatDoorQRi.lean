import Derived.Test.YtlpmjpmefdpcmaaGreatDoorQRd
import Derived.Test.YtlpmjpmefdpcmaaGreatDoorQLies
import Derived.Test.YtlpmjpmefdpcmaaGreatDoorQLiesH
/- The reference: attributes' names. -/
namespace Go.Proofs.YtlpmjpmefdpcmaaGreatDoor
open Go.RowKit Scrub
def attrAll : Nat → List UInt8 → Bool
  | _, [] => true
  | k, c :: t => !(endsRawB c || (decide (c.toNat = 61) && decide (0 < k))) && attrAll (k + 1) t
theorem endsAttr_alt (c : UInt8) : endsAttrB c = (endsRawB c || decide (c.toNat = 61)) := by
  unfold endsAttrB endsRawB
  cases blankSlashB c <;> cases decide (c.toNat = 61) <;> cases decide (c.toNat = 62) <;> rfl
theorem attrAll_succ : ∀ (t : List UInt8) (k : Nat), attrAll (k + 1) t = t.all (fun c => !endsAttrB c)
  | [], _ => rfl
  | c :: t, k => by
    rw [attrAll, attrAll_succ t (k + 1), List.all_cons, endsAttr_alt]
    simp
theorem attr_alt (s : List UInt8) : isAttrNameP s = (attrAll 0 s && (decide (s ≠ []) && (small s == s))) := by
  cases s with
  | nil => rfl
  | cons c t =>
    unfold isAttrNameP
    rw [attrAll, attrAll_succ]
    simp only [List.headD_cons, List.drop_one, List.tail_cons, Nat.lt_irrefl, decide_false, Bool.and_false, Bool.or_false]
    generalize endsRawB c = x
    generalize t.all (fun c => !endsAttrB c) = y
    generalize (small (c :: t) == c :: t) = u
    generalize decide (c :: t ≠ []) = v
    revert x y u v
    decide
set_option maxHeartbeats 2000000 in
theorem rIsAttr (s : ByteArray) (w : World) (hs : s.size ≤ 1099511627776) :
    Calls Tryz.prog 157 #[.string s] w fun e w' => e = .returned (.bool (isAttrNameP s.data.toList)) ∧ Kept [] w w' := by
  have HN : Hid _ := attr_alt s.data.toList
  generalize isAttrNameP s.data.toList = P at *
  go_enter Tryz.func157, Tryz.ntmps157
  go_wp2_with fail
  go_loopg [3] s.size (fun g x wr => ∃ k : Nat, k ≤ s.size ∧ g = s.size - k ∧ x = .int .i64 (k : Int) ∧ attrAll 0 s.data.toList = attrAll k (s.data.toList.drop k) ∧ wr = w)
  case atStart => exact ⟨0, by omega, rfl, rfl, by simp, rfl⟩
  case round =>
    obtain ⟨k, hks, hgk, rfl, hinv, rfl⟩ := hrel
    have HG : Hid _ := hgk
    have HI : Hid _ := hinv
    clear hgk hinv
    by_cases hlt : k < s.size
    · have hlt' : (k : Int) < (s.size : Int) := by omega
      have hge : (0 : Int) ≤ (k : Int) := by omega
      have HS : Hid (attrAll k (s.data.toList.drop k) = (!(endsRawB s[k] || (decide (s[k].toNat = 61) && decide (0 < k))) && attrAll (k + 1) (s.data.toList.drop (k + 1)))) := by
        show _ = _
        rw [drop_get hlt, attrAll]
      have hcl := s[k].toNat_lt
      have HB0 : Hid (endsRawB s[k] = (blankB s[k] || decide (s[k].toNat = 47) || decide (s[k].toNat = 62))) := by
        show _ = _
        unfold endsRawB blankSlashB
        rfl
      obtain ⟨b, hb⟩ : ∃ b, blankB s[k] = b := ⟨_, rfl⟩
      obtain ⟨x1, h1⟩ : ∃ x, ((s[k].toNat : Int) == 47) = x := ⟨_, rfl⟩
      obtain ⟨x2, h2⟩ : ∃ x, ((s[k].toNat : Int) == 62) = x := ⟨_, rfl⟩
      obtain ⟨x3, h3⟩ : ∃ x, ((s[k].toNat : Int) == 61) = x := ⟨_, rfl⟩
      obtain ⟨z, hz⟩ : ∃ z, decide (0 < k) = z := ⟨_, rfl⟩
      have HS2 : Hid (attrAll 0 s.data.toList = (!(b || x1 || x2 || (x3 && z)) && attrAll (k + 1) (s.data.toList.drop (k + 1)))) := by
        show _ = _
        have a1 : decide (s[k].toNat = 47) = ((s[k].toNat : Int) == 47) := by rw [Bool.eq_iff_iff]; simp; omega
        have a2 : decide (s[k].toNat = 62) = ((s[k].toNat : Int) == 62) := by rw [Bool.eq_iff_iff]; simp; omega
        have a3 : decide (s[k].toNat = 61) = ((s[k].toNat : Int) == 61) := by rw [Bool.eq_iff_iff]; simp; omega
        rw [HI.out, HS.out, HB0.out, hb, a1, a2, a3, h1, h2, h3, hz]
      have HBL : Hid (blankB s[k] = b) := hb
      clear hb HS HB0 HI
      go_wp2_with fail
      refine (rIsBlank s[k] _).mono ?_
      rintro e w2 ⟨rfl, rfl⟩
      rw [HBL.out]
      clear HBL
      have hret : (b || x1 || x2 || (x3 && z)) = true → P = false := by
        intro h
        rw [HN.out, HS2.out, h]
        rfl
      have hgo : (b || x1 || x2 || (x3 && z)) = false → attrAll 0 s.data.toList = attrAll (k + 1) (s.data.toList.drop (k + 1)) := by
        intro h
        rw [HS2.out, h]
        simp
      have HRET : Hid _ := hret
      have HGO : Hid _ := hgo
      clear hret hgo HS2
      cases b with
      | true =>
        go_wp2_with fail
        go_ret
        exact ⟨ret_b (HRET.out rfl).symm, Kept.refl [] _⟩
      | false =>
        cases x1 with
        | true =>
          go_wp2_with fail
          go_ret
          exact ⟨ret_b (HRET.out rfl).symm, Kept.refl [] _⟩
        | false =>
          cases x2 with
          | true =>
            go_wp2_with fail
            go_ret
            exact ⟨ret_b (HRET.out rfl).symm, Kept.refl [] _⟩
          | false =>
            cases x3 with
            | true =>
              cases z with
              | true =>
                go_wp2_with fail
                go_ret
                exact ⟨ret_b (HRET.out rfl).symm, Kept.refl [] _⟩
              | false =>
                go_wp2_with fail
                go_roundg (s.size - (k + 1))
                case measure => rw [HG.out]; omega
                case rel => exact ⟨k + 1, by omega, rfl, by go_num, HGO.out rfl, rfl⟩
            | false =>
              clear hz
              go_wp2_with fail
              go_roundg (s.size - (k + 1))
              case measure => rw [HG.out]; omega
              case rel => exact ⟨k + 1, by omega, rfl, by go_num, HGO.out rfl, rfl⟩
    · have hlt' : ((k : Int) < (s.size : Int)) = False := by simp; omega
      have HN3 : Hid (P = (decide (s.data.toList ≠ []) && (small s.data.toList == s.data.toList))) := by
        show _ = _
        rw [HN.out, HI.out, List.drop_eq_nil_of_le (by simp; omega), attrAll]
        simp
      clear HN HI
      by_cases h0 : s.data.toList = []
      · have hse : s = ⟨#[]⟩ := by
          apply ByteArray.ext
          apply Array.toList_inj.1
          exact h0
        have HP : Hid (P = false) := by
          show _ = _
          rw [HN3.out, h0]
          rfl
        subst hse
        clear h0
        go_wp2_with fail
        go_ret
        exact ⟨ret_b HP.out.symm, Kept.refl [] _⟩
      · have hne : s.toList.isEmpty = false := by
          rw [Go.ByteArray.toList_eq]
          cases h : s.data.toList with
          | nil => exact absurd h h0
          | cons a b => rfl
        have HP : Hid (P = (small s.data.toList == s.data.toList)) := by
          show _ = _
          rw [HN3.out]
          simp [h0]
        clear h0 HN3
        go_wp2_with fail
        refine (rSmall s _ hs).mono ?_
        rintro e w2 ⟨rfl, hk2⟩
        generalize small s.data.toList = sm at *
        go_wp2_with fail
        go_ret
        refine ⟨ret_b ?_, hk2⟩
        rw [HP.out]
        simp [Go.ByteArray.toList_eq]
end Go.Proofs.YtlpmjpmefdpcmaaGreatDoor
/- The reference: rows of attributes. -/
namespace Go.Proofs.YtlpmjpmefdpcmaaGreatDoor
open Go.RowKit Scrub Go.Shelf
theorem drewN_add (w : World) (a b : Nat) : (w.drewN a).drewN b = w.drewN (a + b) := by simp [World.drewN, Nat.add_assoc]
theorem attrsOk_bad {al : List (List UInt8 × List UInt8)} {k : Nat} (hk : k < al.length) (h : isAttrNameP (al[k]).1 = false) : attrsOkP al = false := by
  unfold attrsOkP
  have : al.all (fun a => isAttrNameP a.1) = false := by
    rw [List.all_eq_false]
    exact ⟨al[k], List.getElem_mem hk, by rw [h]; simp⟩
  rw [this]
  rfl
theorem attrsOk_twice {al : List (List UInt8 × List UInt8)} {j k : Nat} (hjk : j < k) (hk : k < al.length) (h : (al[j]).1 = (al[k]).1) : attrsOkP al = false := by
  unfold attrsOkP
  have : decide (al.map Prod.fst).Nodup = false := by
    rw [decide_eq_false_iff_not]
    intro hn
    have h1 := List.pairwise_iff_getElem.1 hn j k (by simp; omega) (by simp; omega) hjk
    simp at h1
    exact h1 h
  rw [this]
  simp
theorem attrsOk_step {al : List (List UInt8 × List UInt8)} {k : Nat} (hk : k < al.length) (h0 : attrsOkP (al.take k) = true) (h1 : isAttrNameP (al[k]).1 = true) (h2 : ∀ j (hj : j < k), (al[j]).1 ≠ (al[k]).1) : attrsOkP (al.take (k + 1)) = true := by
  rw [List.take_succ_eq_append_getElem hk]
  unfold attrsOkP at h0 ⊢
  simp only [Bool.and_eq_true, decide_eq_true_eq, List.all_append, List.all_cons, List.all_nil, Bool.and_true, List.map_append, List.map_cons, List.map_nil] at h0 ⊢
  refine ⟨⟨h0.1, h1⟩, ?_⟩
  rw [List.nodup_append]
  refine ⟨h0.2, by simp, ?_⟩
  intro a ha b hb
  have hb' : b = (al[k]).1 := by simpa using hb
  subst hb'
  obtain ⟨x, hx, rfl⟩ := List.mem_map.1 ha
  obtain ⟨j, hj, e⟩ := List.getElem_of_mem hx
  have hjk : j < k := by rw [List.length_take] at hj; omega
  rw [List.getElem_take] at e
  rw [← e]
  exact h2 j hjk
set_option maxHeartbeats 2000000 in
theorem rWrong (v : Value) (al : List (List UInt8 × List UInt8)) (w : World) (hL : LiesA w v al) (hb : bulkA al ≤ 1099511627776) :
    Calls Tryz.prog 94 #[v] w fun e w' => e = .returned (.bool (!attrsOkP al)) ∧ Kept [] w w' := by
  obtain ⟨a, c, rfl, hc⟩ := hL
  have hlen := Nat.le_trans (bulkA_len al) hb
  have HBM : Hid (∀ i (h : i < al.length), (al[i]).1.length ≤ 1099511627776) := fun i h => by
    have := bulkA_mem (List.getElem_mem h)
    omega
  have HC : Hid (∀ i (h : i < al.length), ∃ g o, a = some ⟨g, o, none⟩ ∧ w.cell? ⟨g, o + i * 2, none⟩ = some (.string ⟨(al[i]).1.toArray⟩) ∧ w.cell? ⟨g, o + i * 2 + 1, none⟩ = some (.string ⟨(al[i]).2.toArray⟩)) := hc
  clear hc hb
  go_enter Tryz.func94, Tryz.ntmps94
  go_wp2_with fail
  go_loopg [3] al.length (fun g x wr => ∃ k : Nat, k ≤ al.length ∧ g = al.length - k ∧ x = .int .i64 (k : Int) ∧ attrsOkP (al.take k) = true ∧ Kept [] w wr)
  case atStart => exact ⟨0, by omega, rfl, rfl, by simp [attrsOkP], Kept.refl [] _⟩
  case round =>
    obtain ⟨k, hks, hgk, rfl, hinv, hkept⟩ := hrel
    have HG : Hid _ := hgk
    have HI : Hid _ := hinv
    clear hgk hinv
    by_cases hlt : k < al.length
    · have hlt' : (k : Int) < (al.length : Int) := by omega
      have hge : (0 : Int) ≤ (k : Int) := by omega
      obtain ⟨g, o, rfl, c0, _⟩ := HC.out k hlt
      have c0' := cell_kept hkept c0
      clear c0
      have HBK : Hid _ := HBM.out k hlt
      go_wp2_with fail
      refine (rIsAttr ⟨(al[k]).1.toArray⟩ _ (by have := HBK.out; simp [ByteArray.size]; omega)).mono ?_
      rintro e w1 ⟨rfl, hk1⟩
      generalize hb : isAttrNameP (⟨(al[k]).1.toArray⟩ : ByteArray).data.toList = b
      have HB : Hid (isAttrNameP (al[k]).1 = b) := hb
      clear hb
      have hkept1 := hkept.trans hk1
      have c1' := cell_kept hk1 c0'
      clear hkept hk1 c0'
      cases b with
      | false =>
        go_wp2_with fail
        go_ret
        refine ⟨ret_b ?_, hkept1⟩
        rw [attrsOk_bad hlt HB.out]
        rfl
      | true =>
        go_wp2_with fail
        go_loopg [5] k (fun g x wr => ∃ j n : Nat, j ≤ k ∧ g = k - j ∧ x = .int .i64 (j : Int) ∧ (∀ i (hi : i < j) (hik : i < al.length), (al[i]).1 ≠ (al[k]).1) ∧ wr = w1.drewN n)
        case atStart => exact ⟨0, 0, by omega, rfl, rfl, fun i hi => by omega, rfl⟩
        case round =>
          obtain ⟨j, n, hjk, hgj, rfl, hinv2, rfl⟩ := hrel
          have HG2 : Hid _ := hgj
          have HI2 : Hid _ := hinv2
          clear hgj hinv2
          by_cases hjl : j < k
          · have hjl' : (j : Int) < (k : Int) := by omega
            have hj0 : (0 : Int) ≤ (j : Int) := by omega
            have hjal : (j : Int) < (al.length : Int) := by omega
            obtain ⟨g', o', hgo, d0, _⟩ := HC.out j (by omega)
            injection hgo with hgo
            injection hgo with e1 e2
            subst e1 e2
            have d0' := cell_kept hkept1 d0
            clear d0
            obtain ⟨q, hq⟩ : ∃ q, ((al[j]).1 == (al[k]).1) = q := ⟨_, rfl⟩
            have HQ : Hid _ := hq
            cases q with
            | true =>
              go_wp2_with fail
              go_quiet (fail)
              go_wp2_with fail
              go_ret
              refine ⟨ret_b ?_, (hkept1.drewN _).drewN _⟩
              rw [attrsOk_twice hjl hlt (by simpa using HQ.out)]
              rfl
            | false =>
              go_wp2_with fail
              go_quiet (fail)
              go_wp2_with fail
              go_roundg (k - (j + 1))
              case measure => rw [HG2.out]; omega
              case rel =>
                refine ⟨j + 1, _, by omega, rfl, by go_num, ?_, by first | rfl | exact drewN_add _ _ _⟩
                intro i hi hik
                by_cases hij : i < j
                · exact HI2.out i hij hik
                · have : i = j := by omega
                  subst this
                  simpa using HQ.out
          · have hjl' : ((j : Int) < (k : Int)) = False := by simp; omega
            go_wp2_with fail
            go_roundg (al.length - (k + 1))
            case measure => rw [HG.out]; omega
            case rel =>
              refine ⟨k + 1, by omega, rfl, by go_num, attrsOk_step hlt HI.out HB.out (fun i hi => HI2.out i (by omega) (by omega)), hkept1.drewN _⟩
    · have hlt' : ((k : Int) < (al.length : Int)) = False := by simp; omega
      go_wp2_with fail
      go_ret
      refine ⟨ret_b ?_, hkept⟩
      have := HI.out
      rw [List.take_of_length_le (by omega)] at this
      rw [this]
      rfl
end Go.Proofs.YtlpmjpmefdpcmaaGreatDoor
/- The reference: how deep elements stand. -/
namespace Go.Proofs.YtlpmjpmefdpcmaaGreatDoor
open Go.RowKit Scrub Go.Shelf
def depthN {d : Nat} (n : GN d) : Nat := depthF d n.2.2.1 + (if n.1 = [] then 0 else 1)
def depthL {d : Nat} (l : List (GN d)) : Nat := l.foldr (fun n m => max (depthN n) m) 0
theorem depthF_L (d : Nat) (f : GF (d + 1)) : depthF (d + 1) f = depthL (gnodes d f) := rfl
theorem depthL_snoc {d : Nat} (l : List (GN d)) (x : GN d) : depthL (l ++ [x]) = max (depthL l) (depthN x) := by
  induction l with
  | nil => simp [depthL]
  | cons a t ih =>
    have e : depthL (a :: t ++ [x]) = max (depthN a) (depthL (t ++ [x])) := rfl
    have e2 : depthL (a :: t) = max (depthN a) (depthL t) := rfl
    rw [e, ih, e2, Nat.max_assoc]
theorem depthL_take {d : Nat} {l : List (GN d)} {k : Nat} (h : k < l.length) : depthL (l.take (k + 1)) = max (depthL (l.take k)) (depthN l[k]) := by
  rw [List.take_succ_eq_append_getElem h, depthL_snoc]
theorem depth_bulk : ∀ (d : Nat) (f : GF d), depthF d f ≤ bulkF d f
  | 0, _ => Nat.le_refl _
  | d + 1, f => by
    rw [depthF_L]
    show _ ≤ (gnodes d f).foldr (fun n m => bulkN (bulkF d) n + m) 0
    induction gnodes d f with
    | nil => exact Nat.le_refl _
    | cons a t ih =>
      have e2 : depthL (a :: t) = max (depthN a) (depthL t) := rfl
      have h1 := depth_bulk d a.2.2.1
      have h2 : depthN a ≤ bulkN (bulkF d) a := by
        unfold depthN bulkN
        split <;> omega
      rw [e2]
      show _ ≤ bulkN (bulkF d) a + t.foldr (fun n m => bulkN (bulkF d) n + m) 0
      omega
def RDeepOk (d : Nat) : Prop := ∀ (f : GF d) (v : Value) (w : World), Lies d w v f → bulkF d f ≤ 1099511627776 →
  Calls Tryz.prog 61 #[v] w fun e w' => e = .returned (.int .i64 (depthF d f : Int)) ∧ ∃ n, w' = w.drewN n
set_option maxHeartbeats 2000000 in
theorem rDeep_zero : RDeepOk 0 := by
  intro f v w hL _
  obtain ⟨a, c, rfl⟩ := hL
  go_enter Tryz.func61, Tryz.ntmps61
  go_wp2_with fail
  go_loopg [3, 4] 0 (fun g y x wr => g = 0 ∧ wr = w ∧ x = .int .i64 0 ∧ y = .int .i64 0)
  case atStart => exact ⟨rfl, rfl, rfl, rfl⟩
  case round =>
    obtain ⟨rfl, rfl, rfl, rfl⟩ := hrel
    go_wp2_with fail
    go_ret
    exact ⟨rfl, 0, rfl⟩
set_option maxHeartbeats 4000000 in
theorem rDeep_succ (d : Nat) (ih : RDeepOk d) : RDeepOk (d + 1) := by
  intro f v w hL hb
  have hfl := Nat.le_trans (bulkF_len f) hb
  have HBN : Hid (∀ n ∈ gnodes d f, bulkN (bulkF d) n ≤ 1099511627776) := fun n hn => Nat.le_trans (bulkF_mem hn) hb
  obtain ⟨a, c, rfl, hc⟩ := hL
  have HC : Hid (∀ i (h : i < (gnodes d f).length), ∃ g o, a = some ⟨g, o, none⟩ ∧ LiesN (Lies d w) w g (o + i * 4) (gnodes d f)[i]) := hc
  have HT : Hid (∀ k, depthL ((gnodes d f).take k) ≤ 1099511627776) := by
    intro k
    refine Nat.le_trans ?_ (Nat.le_trans (depth_bulk (d + 1) f) hb)
    rw [depthF_L]
    have e : gnodes d f = (gnodes d f).take k ++ (gnodes d f).drop k := (List.take_append_drop _ _).symm
    generalize (gnodes d f).drop k = y at e
    generalize (gnodes d f).take k = x at e
    rw [e]
    clear e
    induction x with
    | nil => exact Nat.zero_le _
    | cons p q ihq =>
      show max (depthN p) (depthL q) ≤ max (depthN p) (depthL (q ++ y))
      omega
  rw [depthF_L]
  clear hc hb
  generalize gnodes d f = l at *
  go_enter Tryz.func61, Tryz.ntmps61
  go_wp2_with fail
  go_loopg [3, 4] l.length (fun g x y wr => ∃ k n : Nat, k ≤ l.length ∧ g = l.length - k ∧ x = .int .i64 (depthL (l.take k) : Int) ∧ y = .int .i64 (k : Int) ∧ wr = w.drewN n)
  case atStart => exact ⟨0, 0, by omega, rfl, rfl, rfl, rfl⟩
  case round =>
    obtain ⟨k, n, hks, hgk, rfl, rfl, rfl⟩ := hrel
    have HG : Hid _ := hgk
    clear hgk
    by_cases hlt : k < l.length
    · have hlt' : (k : Int) < (l.length : Int) := by omega
      have hge : (0 : Int) ≤ (k : Int) := by omega
      obtain ⟨g, o, rfl, hn⟩ := HC.out k hlt
      have HS : Hid _ := depthL_take hlt
      have HTK := HT.out k
      have hbn := HBN.out l[k] (List.getElem_mem hlt)
      have HDN : Hid (depthN l[k] = depthF d (l[k]).2.2.1 + (if (l[k]).1 = [] then 0 else 1)) := rfl
      have hdk : depthF d (l[k]).2.2.1 ≤ 1099511627776 := by
        have := depth_bulk d (l[k]).2.2.1
        unfold bulkN at hbn
        omega
      obtain ⟨av, kv, e0, e1, e2, e3, hA, hK⟩ := hn
      have HIH : Hid (∀ W, W.heap = w.heap → Calls Tryz.prog 61 #[kv] W fun e w' => e = .returned (.int .i64 (depthF d (l[k]).2.2.1 : Int)) ∧ ∃ n', w' = W.drewN n') := fun W hW => ih _ kv W (hK.heap hW) (by unfold bulkN at hbn; omega)
      obtain ⟨ka, kc, hkv⟩ := hK.form
      subst hkv
      clear hK hA hbn
      generalize depthN l[k] = dn at *
      generalize depthF d (l[k]).2.2.1 = dk at *
      generalize depthL (l.take k) = m at *
      generalize (l[k]).1 = nm at *
      generalize glen d (l[k]).2.2.1 = kn at *
      go_wp2_with fail
      refine Calls.mono (HIH.out _ (by rfl)) ?_
      rintro e w1 ⟨rfl, n', rfl⟩
      rw [drewN2]
      generalize n + n' = n1
      have HFIN : Hid (∀ x, x = max m dn → x = depthL (l.take (k + 1))) := fun x hx => hx.trans HS.out.symm
      by_cases hnm : nm = []
      · subst hnm
        have HD : Hid (dn = dk) := by show _ = _; have := HDN.out; simpa using this
        by_cases hgt : m < dk
        · have hgt' : (m : Int) < (dk : Int) := by omega
          go_wp2_with fail
          go_roundg (l.length - (k + 1))
          case measure => rw [HG.out]; omega
          case rel => exact ⟨k + 1, _, by omega, rfl, by rw [← HFIN.out dk (by rw [HD.out]; omega)], by go_num, by first | rfl | exact drewN2 _ _ _⟩
        · have hgt' : ((m : Int) < (dk : Int)) = False := by simp; omega
          go_wp2_with fail
          go_roundg (l.length - (k + 1))
          case measure => rw [HG.out]; omega
          case rel => exact ⟨k + 1, _, by omega, rfl, by rw [← HFIN.out m (by rw [HD.out]; omega)], by go_num, by first | rfl | exact drewN2 _ _ _⟩
      · have hb1 : (nm == []) = false := by simpa using hnm
        have hb1' : nm.isEmpty = false := by simpa using hnm
        have HD : Hid (dn = dk + 1) := by show _ = _; have := HDN.out; simpa [hnm] using this
        clear hnm
        by_cases hgt : m < dk + 1
        · have hgt' : (m : Int) < (dk : Int) + 1 := by omega
          go_wp2_with fail
          go_roundg (l.length - (k + 1))
          case measure => rw [HG.out]; omega
          case rel => exact ⟨k + 1, _, by omega, rfl, by rw [← HFIN.out (dk + 1) (by rw [HD.out]; omega)]; rfl, by go_num, by first | rfl | exact drewN2 _ _ _⟩
        · have hgt' : ((m : Int) < (dk : Int) + 1) = False := by simp; omega
          go_wp2_with fail
          go_roundg (l.length - (k + 1))
          case measure => rw [HG.out]; omega
          case rel => exact ⟨k + 1, _, by omega, rfl, by rw [← HFIN.out m (by rw [HD.out]; omega)], by go_num, by first | rfl | exact drewN2 _ _ _⟩
    · have hlt' : ((k : Int) < (l.length : Int)) = False := by simp; omega
      go_wp2_with fail
      go_ret
      refine ⟨ret_i ?_, n, rfl⟩
      rw [List.take_of_length_le (by omega)]
theorem rDeep : ∀ d, RDeepOk d
  | 0 => rDeep_zero
  | d + 1 => rDeep_succ d (rDeep d)
end Go.Proofs.YtlpmjpmefdpcmaaGreatDoor
/- The reference: is it a node? -/
namespace Go.Proofs.YtlpmjpmefdpcmaaGreatDoor
open Go.RowKit Scrub Go.Shelf
def soundN {d : Nat} (n : GN d) : Bool := textG n || elemG (soundF d) n
def rawV {d : Nat} (nm : List UInt8) : List (GN d) → Bool
  | [] => true
  | [k] => textG k && !holdsEndP nm k.2.2.2
  | _ => false
def kidsV {d : Nat} (nm : List UInt8) (l : List (GN d)) : Bool :=
  if kindP nm = 1 then decide (l.length = 0) else if kindP nm = 2 then rawV nm l else l.all soundN
def soundV {d : Nat} (nm : List UInt8) (al : List (List UInt8 × List UInt8)) (tx : List UInt8) (l : List (GN d)) : Bool :=
  (decide (nm = []) && decide (tx ≠ []) && decide (al = []) && decide (l.length = 0)) || (isNameP nm && decide (tx = []) && attrsOkP al && kidsV nm l)
theorem holds_raw (nm : List UInt8) : ∀ t : List UInt8, decide ((rawP nm t).1.length = t.length) = !holdsEndP nm t
  | [] => rfl
  | c :: t => by
    have ih := holds_raw nm t
    unfold rawP at ih ⊢
    rw [runP, holdsEndP]
    cases h : endsRawP (c :: t) nm with
    | true => simp
    | false =>
      simp only [Bool.false_eq_true, if_false, Bool.false_or]
      rw [← ih, Bool.eq_iff_iff]
      simp
theorem isName_nil : isNameP [] = false := rfl
/-- A kid lies there, and sound tells what it is. -/
def KidOk {d : Nat} (w : World) (a : Option Addr) (l : List (GN d)) : Prop :=
  ∀ i (h : i < l.length), ∃ g o av kv, a = some ⟨g, o, none⟩ ∧ w.cell? ⟨g, o + i * 4, none⟩ = some (.string ⟨(l[i]).1.toArray⟩) ∧ w.cell? ⟨g, o + i * 4 + 1, none⟩ = some av ∧ w.cell? ⟨g, o + i * 4 + 2, none⟩ = some kv ∧ w.cell? ⟨g, o + i * 4 + 3, none⟩ = some (.string ⟨(l[i]).2.2.2.toArray⟩) ∧ (l[i]).2.2.2.length ≤ 1099511627776 ∧
    ∀ W, Kept [] w W → Calls Tryz.prog 62 #[.agg #[.string ⟨(l[i]).1.toArray⟩, av, kv, .string ⟨(l[i]).2.2.2.toArray⟩]] W fun e w' => e = .returned (.bool (soundN l[i])) ∧ Kept [] W w'
set_option maxHeartbeats 4000000 in
theorem rSound_text {d : Nat} (tx : List UInt8) (an ac kc : Nat) (aa a : Option Addr) (l : List (GN d)) (w : World) :
    Calls Tryz.prog 62 #[.agg #[.string ⟨#[]⟩, .slice aa an ac, .slice a l.length kc, .string ⟨tx.toArray⟩]] w
      fun e w' => e = .returned (.bool (decide (tx ≠ []) && decide (an = 0) && decide (l.length = 0))) ∧ Kept [] w w' := by
  by_cases h1 : tx = []
  · subst h1
    go_enter Tryz.func62, Tryz.ntmps62
    go_wp2_with fail
    go_ret
    exact ⟨ret_b (by simp), (Kept.refl [] _).alloc _⟩
  · have hb1 : (tx == []) = false := by simpa using h1
    have hb1' : tx.isEmpty = false := by simpa using h1
    have H1 : Hid (decide (tx ≠ []) = true) := by show _ = _; simpa using h1
    clear h1
    obtain ⟨x, hx⟩ : ∃ x, ((an : Int) == 0) = x := ⟨_, rfl⟩
    obtain ⟨y, hy⟩ : ∃ x, ((l.length : Int) == 0) = x := ⟨_, rfl⟩
    have HX : Hid (decide (an = 0) = x) := by show _ = _; rw [← hx, Bool.eq_iff_iff]; simp
    have HY : Hid (decide (l.length = 0) = y) := by show _ = _; rw [← hy, Bool.eq_iff_iff]; simp
    cases x <;> cases y
    all_goals
      go_enter Tryz.func62, Tryz.ntmps62
      go_wp2_with fail
      go_ret
      exact ⟨ret_b (by rw [H1.out, HX.out, HY.out]; rfl), (Kept.refl [] _).alloc _⟩
theorem kids_void {d : Nat} {nm : List UInt8} {l : List (GN d)} (h : kindP nm = 1) : kidsV nm l = decide (l.length = 0) := by rw [kidsV, if_pos h]
theorem kids_raw {d : Nat} {nm : List UInt8} {l : List (GN d)} (h : kindP nm = 2) : kidsV nm l = rawV nm l := by rw [kidsV, if_neg (by omega), if_pos h]
theorem kids_other {d : Nat} {nm : List UInt8} {l : List (GN d)} (h1 : kindP nm ≠ 1) (h : kindP nm ≠ 2) : kidsV nm l = l.all soundN := by rw [kidsV, if_neg h1, if_neg h]
theorem sound_text {d : Nat} {n : GN d} (h : n.1 = []) : soundN n = textG n := by
  unfold soundN elemG
  rw [h, isName_nil]
  simp
theorem text_sound {d : Nat} {n : GN d} (h : soundN n = false) : textG n = false := by
  unfold soundN at h
  cases ht : textG n with
  | false => rfl
  | true => rw [ht] at h; simp at h
theorem rawV_bad {d : Nat} {nm : List UInt8} {l : List (GN d)} {k : Nat} (hk : k < l.length) (h : textG l[k] = false) : rawV nm l = false := by
  match l, k, hk, h with
  | [], _, hk, _ => simp at hk
  | [x], k, hk, h =>
    have hk0 : k = 0 := by simpa using hk
    subst hk0
    have h' : textG x = false := h
    rw [rawV, h']
    rfl
  | _ :: _ :: _, _, _, _ => rfl
theorem kids_bad {d : Nat} {nm : List UInt8} {l : List (GN d)} {k : Nat} (hk : k < l.length) (h : soundN l[k] = false) : kidsV nm l = false := by
  unfold kidsV
  split
  · simp
    intro e
    subst e
    simp at hk
  · split
    · exact rawV_bad hk (text_sound h)
    · rw [List.all_eq_false]
      exact ⟨l[k], List.getElem_mem hk, by rw [h]; simp⟩
theorem kids_bad_raw {d : Nat} {nm : List UInt8} {l : List (GN d)} {k : Nat} (hk : k < l.length) (hr : kindP nm = 2) (h : (l[k]).1 ≠ []) : kidsV nm l = false := by
  rw [kids_raw hr]
  exact rawV_bad hk (by unfold textG; simp [h])
theorem kids_many {d : Nat} {nm : List UInt8} {l : List (GN d)} (hr : kindP nm = 2) (h : 1 < l.length) : kidsV nm l = false := by
  rw [kids_raw hr]
  match l, h with
  | [], h => simp at h
  | [x], h => simp at h
  | _ :: _ :: _, _ => rfl
theorem kids_fine {d : Nat} {nm : List UInt8} {l : List (GN d)} (hr : kindP nm ≠ 2) (h1 : kindP nm = 1 → l.length = 0) (h : ∀ i (h : i < l.length), soundN l[i] = true ∧ (kindP nm = 2 → (l[i]).1 = [])) : kidsV nm l = true := by
  unfold kidsV
  split
  · simpa using h1 (by assumption)
  · rw [List.all_eq_true]
    intro x hx
    obtain ⟨i, hi, rfl⟩ := List.getElem_of_mem hx
    exact (h i hi).1
theorem kids_one {d : Nat} {nm : List UInt8} {l : List (GN d)} (hr : kindP nm = 2) (hl : l.length = 1) (hs : soundN (l[0]'(by omega)) = true) (h0 : (l[0]'(by omega)).1 = []) : kidsV nm l = !holdsEndP nm (l[0]'(by omega)).2.2.2 := by
  rw [kids_raw hr]
  match l, hl, hs, h0 with
  | [x], _, hs, h0 =>
    have hs' : soundN x = true := hs
    have h0' : x.1 = [] := h0
    rw [sound_text h0'] at hs'
    show (textG x && !holdsEndP nm x.2.2.2) = !holdsEndP nm x.2.2.2
    rw [hs']
    rfl
set_option maxHeartbeats 4000000 in
theorem rSound_elem {d : Nat} (nm tx : List UInt8) (al : List (List UInt8 × List UInt8)) (av : Value) (a : Option Addr) (kc : Nat) (l : List (GN d)) (w : World) (hnm : nm ≠ []) (hA : LiesA w av al)
    (hnl : nm.length ≤ 1099511627776) (hb : bulkA al ≤ 1099511627776) (hl : l.length ≤ 1099511627776) (hK : KidOk w a l) :
    Calls Tryz.prog 62 #[.agg #[.string ⟨nm.toArray⟩, av, .slice a l.length kc, .string ⟨tx.toArray⟩]] w
      fun e w' => e = .returned (.bool (isNameP nm && decide (tx = []) && attrsOkP al && kidsV nm l)) ∧ Kept [] w w' := by
  obtain ⟨P, hP⟩ : ∃ P, (isNameP nm && decide (tx = []) && attrsOkP al && kidsV nm l) = P := ⟨_, rfl⟩
  rw [hP]
  obtain ⟨L, HLE⟩ : ∃ L, Hid (l.length = L) := ⟨_, rfl⟩
  rw [HLE.out]
  rw [HLE.out] at hl
  have HP : Hid _ := hP
  have HK : Hid (KidOk w a l) := hK
  have HA : Hid (∀ W, Kept [] w W → Calls Tryz.prog 94 #[av] W fun e w' => e = .returned (.bool (!attrsOkP al)) ∧ Kept [] W w') := fun W hW => rWrong av al W (hA.kept hW) hb
  obtain ⟨aa, ac, rfl⟩ := hA.form
  have hbox := heap_alloc_new w (.cells #[.string ⟨nm.toArray⟩, .slice aa al.length ac, .slice a L kc, .string ⟨tx.toArray⟩] 42)
  have hsz : (⟨nm.toArray⟩ : ByteArray).size ≤ 1099511627776 := by simpa [ByteArray.size] using hnl
  have hkw : Kept [] w (w.alloc (.cells #[.string ⟨nm.toArray⟩, .slice aa al.length ac, .slice a L kc, .string ⟨tx.toArray⟩] 42)) := (Kept.refl [] w).alloc _
  have hb1 : (nm == []) = false := by simpa using hnm
  have hb1' : nm.isEmpty = false := by simpa using hnm
  clear hP hK hA hnm
  go_enter Tryz.func62, Tryz.ntmps62
  go_wp2_with fail
  refine (rIsElement ⟨nm.toArray⟩ _ hsz).mono ?_
  rintro e w1 ⟨rfl, hk1⟩
  have hbox1 := (hk1.block w.heap.size (by rw [World.size_alloc]; omega) (by simp)).trans hbox
  have hlt1 : w.heap.size < w1.heap.size := by have := hk1.size; rw [World.size_alloc] at this; omega
  have hkA := hkw.trans hk1
  obtain ⟨⟨c0, c1, c2, c3⟩, _⟩ := cells4 hbox1
  generalize hE : isNameP (⟨nm.toArray⟩ : ByteArray).data.toList = E
  have HE : Hid (isNameP nm = E) := hE
  clear hE hbox hkw hk1
  go_wp2_with fail
  refine Calls.mono (HA.out _ hkA) ?_
  rintro e w2 ⟨rfl, hk2⟩
  have hbox2 := (hk2.block w.heap.size hlt1 (by simp)).trans hbox1
  have hlt2 : w.heap.size < w2.heap.size := by have := hk2.size; omega
  have hkB := hkA.trans hk2
  clear c0 c1 c2 c3 hbox1 hk2 hkA HA hlt1
  obtain ⟨⟨c0, c1, c2, c3⟩, _⟩ := cells4 hbox2
  generalize hAO : attrsOkP al = A
  have HAO : Hid _ := hAO
  clear hAO
  cases E with
  | false =>
    go_wp2_with fail
    go_ret
    exact ⟨ret_b (by rw [← HP.out, HE.out]; simp), hkB⟩
  | true =>
    cases A with
    | false =>
      go_wp2_with fail
      go_ret
      exact ⟨ret_b (by rw [← HP.out, HAO.out]; simp), hkB⟩
    | true =>
      by_cases htx : tx = []
      · have HP2 : Hid (kidsV nm l = P) := by
          show _ = _
          rw [← HP.out, HE.out, HAO.out, htx]
          simp
        subst htx
        clear HP HE HAO
        go_wp2_with fail
        refine (rIsVoid ⟨nm.toArray⟩ _).mono ?_
        rintro e w3 ⟨rfl, rfl⟩
        generalize hV : decide (kindP (⟨nm.toArray⟩ : ByteArray).data.toList = 1) = V
        have HV : Hid (decide (kindP nm = 1) = V) := hV
        clear hV
        go_wp2_with fail
        refine (rIsRaw ⟨nm.toArray⟩ _).mono ?_
        rintro e w4 ⟨rfl, rfl⟩
        generalize hR : decide (kindP (⟨nm.toArray⟩ : ByteArray).data.toList = 2) = R
        have HR0 : Hid (decide (kindP nm = 2) = R) := hR
        clear hR
        cases V with
        | true =>
          have HK1 : Hid (kindP nm = 1) := by show _ = _; simpa using HV.out
          have HR : Hid (kindP nm ≠ 2) := by show _ ≠ _; rw [HK1.out]; decide
          have hRf : R = false := by rw [← HR0.out]; simpa using HR.out
          subst hRf
          by_cases hl0 : L = 0
          · subst hl0
            go_wp2_with fail
            go_loopg [7] 0 (fun g x wr => g = 0 ∧ x = .int .i64 0 ∧ wr = w4)
            case atStart => exact ⟨rfl, rfl, rfl⟩
            case round =>
              obtain ⟨rfl, rfl, rfl⟩ := hrel
              go_wp2_with fail
              go_ret
              exact ⟨ret_b (by rw [← HP2.out, kids_void HK1.out, HLE.out]; rfl), hkB⟩
          · have hl0' : (0 : Int) < (L : Int) := by omega
            have HL : Hid _ := hl0
            clear hl0
            go_wp2_with fail
            go_ret
            exact ⟨ret_b (by rw [← HP2.out, kids_void HK1.out, HLE.out]; simpa using HL.out), hkB⟩
        | false =>
          have HK1 : Hid (kindP nm ≠ 1) := by show _ ≠ _; simpa using HV.out
          cases R with
          | false =>
            have HR : Hid (kindP nm ≠ 2) := by show _ ≠ _; simpa using HR0.out
            have HFIN : Hid (kindP nm = 1 → l.length = 0) := fun h => absurd h HK1.out
            go_wp2_with fail
            go_loopg [7] L (fun g x wr => ∃ k : Nat, k ≤ L ∧ g = L - k ∧ x = .int .i64 (k : Int) ∧ (∀ i (h : i < l.length), i < k → soundN l[i] = true ∧ (kindP nm = 2 → (l[i]).1 = [])) ∧ Kept [] w4 wr)
            case atStart => exact ⟨0, by omega, rfl, rfl, fun i h hi => by omega, Kept.refl [] _⟩
            case round =>
              obtain ⟨k, hks, hgk, rfl, hinv, hkr⟩ := hrel
              have HG : Hid _ := hgk
              have HI : Hid _ := hinv
              have hboxr := (hkr.block w.heap.size hlt2 (by simp)).trans hbox2
              have hltr : w.heap.size < wr.heap.size := by have := hkr.size; omega
              have hkW := hkB.trans hkr
              clear hgk hinv c0 c1 c2 c3 hbox2
              obtain ⟨⟨d0, d1, d2, d3⟩, _⟩ := cells4 hboxr
              by_cases hlt : k < L
              · have hlt' : (k : Int) < (L : Int) := by omega
                have hge : (0 : Int) ≤ (k : Int) := by omega
                have hltl : k < l.length := by rw [HLE.out]; exact hlt
                obtain ⟨g, o, av, kv, rfl, e0, e1, e2, e3, htl, hcall⟩ := HK.out k hltl
                have e0' := cell_kept hkW e0
                have e1' := cell_kept hkW e1
                have e2' := cell_kept hkW e2
                have e3' := cell_kept hkW e3
                have HCALL : Hid _ := hcall
                have HNK : Hid _ := And.intro hltl (Eq.refl (l[k]).1)
                clear e0 e1 e2 e3 hcall htl
                go_wp2_with fail
                refine Calls.mono (HCALL.out _ hkW) ?_
                rintro e w3 ⟨rfl, hk3⟩
                have hbox3 := (hk3.block w.heap.size hltr (by simp)).trans hboxr
                have hkX := hkW.trans hk3
                have f0 := cell_kept hk3 e0'
                clear d0 d1 d2 d3 e0' e1' e2' e3' hboxr HCALL
                obtain ⟨⟨d0, d1, d2, d3⟩, _⟩ := cells4 hbox3
                generalize hs : soundN l[k] = s
                have HS : Hid _ := hs
                clear hs
                cases s with
                | false =>
                  go_wp2_with fail
                  go_ret
                  exact ⟨ret_b (by rw [← HP2.out, kids_bad hltl HS.out]), hkX⟩
                | true =>
                  go_wp2_with fail
                  go_roundg (L - (k + 1))
                  case measure => rw [HG.out]; omega
                  case rel =>
                    refine ⟨k + 1, by omega, rfl, by go_num, ?_, hkr.trans hk3⟩
                    intro i h hi
                    by_cases hik : i < k
                    · exact HI.out i h hik
                    · have : i = k := by omega
                      subst this
                      exact ⟨HS.out, fun hc => absurd hc HR.out⟩
              · have hlt' : ((k : Int) < (L : Int)) = False := eq_false (by omega)
                have HALL : Hid (∀ i (h : i < l.length), soundN l[i] = true ∧ (kindP nm = 2 → (l[i]).1 = [])) := fun i h => HI.out i h (by have := HLE.out; omega)
                clear HI
                go_wp2_with fail
                go_ret
                exact ⟨ret_b (by rw [← HP2.out, kids_fine HR.out HFIN.out HALL.out]), hkW⟩
          | true =>
            have HR : Hid (kindP nm = 2) := by show _ = _; simpa using HR0.out
            by_cases hl1 : 1 < L
            · have hl1' : (1 : Int) < (L : Int) := by omega
              have HL : Hid _ := hl1
              clear hl1
              go_wp2_with fail
              go_ret
              exact ⟨ret_b (by rw [← HP2.out, kids_many HR.out (by rw [HLE.out]; exact HL.out)]), hkB⟩
            · have hl1' : ((1 : Int) < (L : Int)) = False := eq_false (by omega)
              have HFIN : Hid (L ≤ 1) := by show _ ≤ _; omega
              clear hl1
              go_wp2_with fail
              go_loopg [7] L (fun g x wr => ∃ k : Nat, k ≤ L ∧ g = L - k ∧ x = .int .i64 (k : Int) ∧ (∀ i (h : i < l.length), i < k → soundN l[i] = true ∧ (kindP nm = 2 → (l[i]).1 = [])) ∧ Kept [] w4 wr)
              case atStart => exact ⟨0, by omega, rfl, rfl, fun i h hi => by omega, Kept.refl [] _⟩
              case round =>
                obtain ⟨k, hks, hgk, rfl, hinv, hkr⟩ := hrel
                have HG : Hid _ := hgk
                have HI : Hid _ := hinv
                have hboxr := (hkr.block w.heap.size hlt2 (by simp)).trans hbox2
                have hltr : w.heap.size < wr.heap.size := by have := hkr.size; omega
                have hkW := hkB.trans hkr
                clear hgk hinv c0 c1 c2 c3 hbox2
                obtain ⟨⟨d0, d1, d2, d3⟩, _⟩ := cells4 hboxr
                by_cases hlt : k < L
                · have hlt' : (k : Int) < (L : Int) := by omega
                  have hge : (0 : Int) ≤ (k : Int) := by omega
                  have hltl : k < l.length := by rw [HLE.out]; exact hlt
                  obtain ⟨g, o, av, kv, rfl, e0, e1, e2, e3, htl, hcall⟩ := HK.out k hltl
                  have e0' := cell_kept hkW e0
                  have e1' := cell_kept hkW e1
                  have e2' := cell_kept hkW e2
                  have e3' := cell_kept hkW e3
                  have HCALL : Hid _ := hcall
                  have HNK : Hid _ := And.intro hltl (Eq.refl (l[k]).1)
                  clear e0 e1 e2 e3 hcall htl
                  go_wp2_with fail
                  refine Calls.mono (HCALL.out _ hkW) ?_
                  rintro e w3 ⟨rfl, hk3⟩
                  have hbox3 := (hk3.block w.heap.size hltr (by simp)).trans hboxr
                  have hkX := hkW.trans hk3
                  have f0 := cell_kept hk3 e0'
                  clear d0 d1 d2 d3 e0' e1' e2' e3' hboxr HCALL
                  obtain ⟨⟨d0, d1, d2, d3⟩, _⟩ := cells4 hbox3
                  generalize hs : soundN l[k] = s
                  have HS : Hid _ := hs
                  clear hs
                  cases s with
                  | false =>
                    go_wp2_with fail
                    go_ret
                    exact ⟨ret_b (by rw [← HP2.out, kids_bad hltl HS.out]), hkX⟩
                  | true =>
                    by_cases hn0 : (l[k]).1 = []
                    · have HN0 : Hid _ := hn0
                      rw [hn0] at f0
                      clear hn0
                      go_wp2_with fail
                      go_roundg (L - (k + 1))
                      case measure => rw [HG.out]; omega
                      case rel =>
                        refine ⟨k + 1, by omega, rfl, by go_num, ?_, hkr.trans hk3⟩
                        intro i h hi
                        by_cases hik : i < k
                        · exact HI.out i h hik
                        · have : i = k := by omega
                          subst this
                          exact ⟨HS.out, fun _ => HN0.out⟩
                    · have hn1 : ((l[k]).1 == []) = false := by simpa using hn0
                      have hn2 : ((l[k]).1).isEmpty = false := by simpa using hn0
                      have HN0 : Hid _ := hn0
                      clear hn0
                      go_wp2_with fail
                      go_ret
                      exact ⟨ret_b (by rw [← HP2.out, kids_bad_raw hltl HR.out HN0.out]), hkX⟩
                · have hlt' : ((k : Int) < (L : Int)) = False := eq_false (by omega)
                  have HALL : Hid (∀ i (h : i < l.length), soundN l[i] = true ∧ (kindP nm = 2 → (l[i]).1 = [])) := fun i h => HI.out i h (by have := HLE.out; omega)
                  clear HI
                  by_cases hl1 : L = 1
                  · have h0l : 0 < l.length := by rw [HLE.out, hl1]; decide
                    have HL1 : l.length = 1 := HLE.out.trans hl1
                    obtain ⟨g, o, av, kv, rfl, e0, e1, e2, e3, htl, hcl⟩ := HK.out 0 h0l
                    have e3' := cell_kept hkW e3
                    have HHR : Hid _ := holds_raw nm (l[0]'h0l).2.2.2
                    have HKF : Hid (kidsV nm l = !holdsEndP nm (l[0]'h0l).2.2.2) := kids_one HR.out HL1 (HALL.out 0 h0l).1 ((HALL.out 0 h0l).2 HR.out)
                    clear e0 e1 e2 e3 hcl
                    generalize (l[0]'h0l).2.2.2 = t0 at *
                    have hts : (⟨t0.toArray⟩ : ByteArray).size ≤ 1099511627776 := by simpa [ByteArray.size] using htl
                    have HTL : Hid _ := htl
                    clear htl HL1 h0l HALL HK
                    simp only [Nat.zero_mul, Nat.add_zero] at e3'
                    subst hl1
                    go_wp2_with fail
                    refine (rRawEnd ⟨t0.toArray⟩ ⟨nm.toArray⟩ 0 _ hts hsz (by omega)).mono ?_
                    rintro e w5 ⟨rfl, hk5⟩
                    have hbox5 := (hk5.block w.heap.size hltr (by simp)).trans hboxr
                    clear d0 d1 d2 d3 hboxr e3'
                    obtain ⟨⟨d0, d1, d2, d3⟩, _⟩ := cells4 hbox5
                    have HRR : Hid (((((0 + (rawP (⟨nm.toArray⟩ : ByteArray).data.toList ((⟨t0.toArray⟩ : ByteArray).data.toList.drop 0)).1.length : Nat) : Int)) == (t0.length : Int)) = !holdsEndP nm t0) := by
                      show _ = _
                      rw [← HHR.out, Bool.eq_iff_iff]
                      simp
                      omega
                    generalize ((0 + (rawP (⟨nm.toArray⟩ : ByteArray).data.toList ((⟨t0.toArray⟩ : ByteArray).data.toList.drop 0)).1.length : Nat) : Int) = z at *
                    go_wp2_with fail
                    go_ret
                    exact ⟨ret_b (by rw [← HP2.out, HKF.out, ← HRR.out]), hkW.trans hk5⟩
                  · have hl1' : ((L : Int) == 1) = false := by simp; omega
                    have HL0 : Hid (l = []) := List.eq_nil_of_length_eq_zero (by have := HFIN.out; have := HLE.out; omega)
                    go_wp2_with fail
                    go_ret
                    exact ⟨ret_b (by rw [← HP2.out, kids_raw HR.out, HL0.out]; rfl), hkW⟩
      · have hb2 : (tx == []) = false := by simpa using htx
        have hb2' : tx.isEmpty = false := by simpa using htx
        have HT : Hid (decide (tx = []) = false) := by show _ = _; simpa using htx
        clear htx
        go_wp2_with fail
        go_ret
        exact ⟨ret_b (by rw [← HP.out, HT.out]; simp), hkB⟩
end Go.Proofs.YtlpmjpmefdpcmaaGreatDoor
/- The reference: nodes, however deep. -/
namespace Go.Proofs.YtlpmjpmefdpcmaaGreatDoor
open Go.RowKit Scrub Go.Shelf
def RSoundOk (d : Nat) : Prop := ∀ (n : GN d) (av kv : Value) (w : World), LiesA w av n.2.1 → Lies d w kv n.2.2.1 → bulkN (bulkF d) n ≤ 1099511627776 →
  Calls Tryz.prog 62 #[.agg #[.string ⟨n.1.toArray⟩, av, kv, .string ⟨n.2.2.2.toArray⟩]] w fun e w' => e = .returned (.bool (soundN n)) ∧ Kept [] w w'
/-- A node's kids as a row, whatever the depth. -/
theorem kids_row (d : Nat) (ih : ∀ e, d = e + 1 → RSoundOk e) (k : GF d) (kv : Value) (w : World) (hK : Lies d w kv k) (hb : bulkF d k ≤ 1099511627776) :
    ∃ (e : Nat) (l : List (GN e)) (a : Option Addr) (c : Nat), kv = .slice a l.length c ∧ KidOk w a l ∧ glen d k = l.length ∧ l.length ≤ 1099511627776 ∧ ∀ nm : List UInt8, (if kindP nm = 1 then decide (glen d k = 0) else if kindP nm = 2 then rawOk d k nm else soundF d k) = kidsV nm l := by
  cases d with
  | zero =>
    obtain ⟨a, c, rfl⟩ := hK
    exact ⟨0, [], a, c, rfl, fun i h => by simp at h, rfl, by simp, fun nm => rfl⟩
  | succ d =>
    obtain ⟨a, c, rfl, hc⟩ := hK
    refine ⟨d, gnodes d k, a, c, rfl, ?_, rfl, Nat.le_trans (bulkF_len k) hb, fun nm => ?_⟩
    · intro i h
      obtain ⟨g, o, ha, av, kv, e0, e1, e2, e3, hA, hK⟩ := hc i h
      have hbn := Nat.le_trans (bulkF_mem (List.getElem_mem h)) hb
      refine ⟨g, o, av, kv, ha, e0, e1, e2, e3, ?_, fun W hW => ?_⟩
      · unfold bulkN at hbn
        omega
      · exact ih d rfl (gnodes d k)[i] av kv W (hA.kept hW) (hK.kept d hW) hbn
    · unfold kidsV
      have e1 : rawOk (d + 1) k nm = rawV nm (gnodes d k) := by
        simp only [rawOk]
        generalize gnodes d k = l
        rcases l with _ | ⟨x, _ | ⟨y, t⟩⟩ <;> rfl
      rw [e1]
      rfl
theorem rSound_mk (d : Nat) (ih : ∀ e, d = e + 1 → RSoundOk e) : RSoundOk d := by
  intro n av kv w hA hK hb
  have hb' := hb
  unfold bulkN at hb'
  obtain ⟨e, l, a, c, rfl, hkid, hgl, hll, hkv⟩ := kids_row d ih n.2.2.1 kv w hK (by omega)
  by_cases hnm : n.1 = []
  · have e1 : soundN n = (decide (n.2.2.2 ≠ []) && decide (n.2.1.length = 0) && decide (l.length = 0)) := by
      rw [sound_text hnm]
      unfold textG
      rw [hnm, hgl]
      have e2 : decide (n.2.1 = []) = decide (n.2.1.length = 0) := by
        rw [Bool.eq_iff_iff]
        simp
      rw [e2]
      simp
    rw [e1, hnm]
    obtain ⟨aa, ac, rfl⟩ := hA.form
    exact rSound_text n.2.2.2 n.2.1.length ac c aa a l w
  · have e1 : soundN n = (isNameP n.1 && decide (n.2.2.2 = []) && attrsOkP n.2.1 && kidsV n.1 l) := by
      unfold soundN elemG kidsOk textG
      rw [hkv n.1]
      simp [hnm]
    rw [e1]
    exact rSound_elem n.1 n.2.2.2 n.2.1 av a c l w hnm hA (by omega) (by omega) hll hkid
theorem rSound : ∀ d, RSoundOk d
  | 0 => rSound_mk 0 (fun e he => by omega)
  | d + 1 => rSound_mk (d + 1) (fun e he => by
      have : e = d := by omega
      subst this
      exact rSound e)
end Go.Proofs.YtlpmjpmefdpcmaaGreatDoor
