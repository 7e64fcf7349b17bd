import Derived.Test.YtlpmjpmefdpcmaaGreatDoorQTok2
import Derived.Test.YtlpmjpmefdpcmaaGreatDoorQPure5
namespace Go.Proofs.YtlpmjpmefdpcmaaGreatDoor
open Go.RowKit Scrub Go.Shelf
theorem cut_fst_le (l sep : List UInt8) : (Lib.cut l sep).1.length ≤ l.length := by
  unfold Lib.cut
  split
  · simp [List.length_take]; omega
  · simp
set_option maxHeartbeats 1000000 in
theorem value_any (rb : Nat) (m : ByteArray) (r : List UInt8) (w : World) (h : Rd w rb m r) (hm : m.size < 4294967281) (hg : Glob w) (hrb : 1 ∉ [rb] ∧ 0 ∉ [rb]) :
    Calls Tryz.prog 184 #[.pointer (some ⟨rb, 0, none⟩)] w
      fun e w' => e = .returned (.tuple #[.string ⟨(valueP r).1.toArray⟩, .bool (valueP r).2.1]) ∧ Rd w' rb m (valueP r).2.2 ∧ Kept [rb] w w' := by
  go_enter Tryz.func184, Tryz.ntmps184
  go_wp2_with fail
  refine (pass_any rb m r _ blankB _ h (by unfold maxLen; omega) enters_isBlank isBlank_any).mono ?_
  rintro e w1 ⟨⟨t0, rfl, _⟩, hrd1, hk1⟩
  have hg1 := hg.kept hk1 hrb.1 hrb.2
  generalize e1 : r.dropWhile blankB = r1 at *
  have E1 : Hid (r.dropWhile blankB = r1) := e1
  clear e1
  go_wp2_with fail
  refine (rest_any rb m r1 _ hrd1).mono ?_
  rintro e w2 ⟨⟨t, rfl, ht⟩, n, rfl⟩
  subst ht
  obtain ⟨k, hk, hr⟩ := hrd1
  have hkm := hk.2
  have HR : Hid (t.data.toList = m.data.toList.drop k) := hr
  have hts : t.size = m.size - k := by
    have := congrArg List.length hr
    simpa using this
  have HTS : Hid (t.size = m.size - k) := hts
  clear hr hts
  obtain ⟨c0, c1, c2⟩ := hk.cells
  have quoted : (List.isPrefixOf [34] t.data.toList = true ∨ List.isPrefixOf [39] t.data.toList = true) → k + 1 ≤ m.size := by
    intro hq
    have : 1 ≤ t.data.toList.length := by
      rcases hq with hq | hq
      · exact isPrefixOf_len hq
      · exact isPrefixOf_len hq
    rw [HR.out] at this
    simp at this
    omega
  cases hq : Lib.hasPrefix t.data.toList [34] with
  | true =>
    have HV := valueP_quoted E1.out (.inl hq)
    have hlt := quoted (.inl hq)
    clear quoted
    have hts : 1 ≤ t.size := by rw [HTS.out]; omega
    have HVV : Hid _ := HV
    clear HV
    go_wp2_with (go_at_call 175; refine (Tryz.strings_HasPrefix _ _ _).mono ?_; rintro e w' ⟨rfl, rfl⟩)
    have hk3 : Kept [rb] w1 ((w1.drewN n).setCell ⟨rb, 1, none⟩ (.int .i64 ((k : Int) + 1))) := ((Kept.refl [rb] w1).drewN n).setCell (by simp) _
    refine (passTo_any rb m (t.extract 0 1) (t.data.toList.drop 1) _ ⟨k + 1, (hk.drewN n).set (k' := k + 1) hlt, by rw [HR.out, List.drop_drop]⟩ hm (hg1.kept hk3 hrb.1 hrb.2)).mono ?_
    have hsep : (t.extract 0 1).data.toList = t.data.toList.take 1 := by simp
    rw [hsep]
    rintro e w3 ⟨rfl, hrd3, hk4⟩
    have hcl := cut_fst_le (t.data.toList.drop 1) (t.data.toList.take 1)
    generalize hc : Lib.cut (t.data.toList.drop 1) (t.data.toList.take 1) = c at *
    have hcs : c.1.length ≤ t.size := by simp at hcl; omega
    have hg3 := (hg1.kept hk3 hrb.1 hrb.2).kept hk4 hrb.1 hrb.2
    clear hc hsep hcl
    go_wp2_with fail
    refine (readSigns_any ⟨c.1.toArray⟩ _ (by show c.1.toArray.size ≤ _; simp; have := HTS.out; omega) hg3).mono ?_
    rintro e w4 ⟨rfl, hk5⟩
    go_wp2_with fail
    go_ret2
    rw [HVV.out]
    exact ⟨rfl, hrd3.kept hk5 (by simp), ((hk1.trans hk3).trans hk4).trans (hk5.mono (by simp))⟩
  | false =>
    cases hq2 : Lib.hasPrefix t.data.toList [39] with
    | true =>
      have HV := valueP_quoted E1.out (.inr hq2)
      have hlt := quoted (.inr hq2)
      clear quoted
      have hts : 1 ≤ t.size := by rw [HTS.out]; omega
      have HVV : Hid _ := HV
      clear HV
      go_wp2_with (go_at_call 175; refine (Tryz.strings_HasPrefix _ _ _).mono ?_; rintro e w' ⟨rfl, rfl⟩)
      have hk3 : Kept [rb] w1 ((w1.drewN n).setCell ⟨rb, 1, none⟩ (.int .i64 ((k : Int) + 1))) := ((Kept.refl [rb] w1).drewN n).setCell (by simp) _
      refine (passTo_any rb m (t.extract 0 1) (t.data.toList.drop 1) _ ⟨k + 1, (hk.drewN n).set (k' := k + 1) hlt, by rw [HR.out, List.drop_drop]⟩ hm (hg1.kept hk3 hrb.1 hrb.2)).mono ?_
      have hsep : (t.extract 0 1).data.toList = t.data.toList.take 1 := by simp
      rw [hsep]
      rintro e w3 ⟨rfl, hrd3, hk4⟩
      have hcl := cut_fst_le (t.data.toList.drop 1) (t.data.toList.take 1)
      generalize hc : Lib.cut (t.data.toList.drop 1) (t.data.toList.take 1) = c at *
      have hcs : c.1.length ≤ t.size := by simp at hcl; omega
      have hg3 := (hg1.kept hk3 hrb.1 hrb.2).kept hk4 hrb.1 hrb.2
      clear hc hsep hcl
      go_wp2_with fail
      refine (readSigns_any ⟨c.1.toArray⟩ _ (by show c.1.toArray.size ≤ _; simp; have := HTS.out; omega) hg3).mono ?_
      rintro e w4 ⟨rfl, hk5⟩
      go_wp2_with fail
      go_ret2
      rw [HVV.out]
      exact ⟨rfl, hrd3.kept hk5 (by simp), ((hk1.trans hk3).trans hk4).trans (hk5.mono (by simp))⟩
    | false =>
      have HV := valueP_bare E1.out hq hq2
      have HVV : Hid _ := HV
      clear HV quoted
      go_wp2_with (go_at_call 175; refine (Tryz.strings_HasPrefix _ _ _).mono ?_; rintro e w' ⟨rfl, rfl⟩)
      refine (pass_any rb m t.data.toList _ (fun c => !endsValueB c) _ ⟨k, hk.drewN n, HR.out⟩ (by unfold maxLen; omega) enters_value1 value1_any).mono ?_
      rintro e w3 ⟨⟨t3, rfl, ht3⟩, hrd3, hk3⟩
      have hg3 := (hg1.drewN n).kept hk3 hrb.1 hrb.2
      have hl3 : t3.size ≤ t.size := by
        have h1 : t3.data.toList.length = t3.size := by simp
        have h2 := takeWhile_le (fun c => !endsValueB c) t.data.toList
        rw [ht3] at h1
        simp at h2
        omega
      have HT3 : Hid (t3.data.toList = t.data.toList.takeWhile (fun c => !endsValueB c)) := ht3
      clear ht3
      go_wp2_with fail
      refine (readSigns_any t3 _ (by have := HTS.out; omega) hg3).mono ?_
      rintro e w4 ⟨rfl, hk5⟩
      go_wp2_with fail
      go_ret2
      rw [HVV.out, HT3.out]
      exact ⟨rfl, hrd3.kept hk5 (by simp), (((hk1.drewN n).trans hk3)).trans (hk5.mono (by simp))⟩
set_option maxHeartbeats 1000000 in
theorem endsRaw_any (s name : ByteArray) (w : World) (hs : s.size ≤ 1099511627776) :
    Calls Tryz.prog 218 #[.string s, .string name] w fun e w' => e = .returned (.bool (endsRawP s.data.toList name.data.toList)) ∧ Kept [] w w' := by
  go_enter Tryz.func218, Tryz.ntmps218
  go_wp2_with fail
  refine (Tryz.strings_CutPrefix _ _ _).mono ?_
  rintro e w1 ⟨rfl, rfl⟩
  cases hp : Lib.hasPrefix s.data.toList [60, 47] with
  | false =>
    go_wp2_with fail
    go_ret
    refine ⟨ret_bool ?_, Kept.refl _ _⟩
    have hp' : List.isPrefixOf [60, 47] s.data.toList = false := hp
    simp [endsRawP, hp']
  | true =>
    have hp' : List.isPrefixOf [60, 47] s.data.toList = true := hp
    have ht : Lib.trimPrefix s.data.toList [60, 47] = s.data.toList.drop 2 := by
      unfold Lib.trimPrefix
      rw [hp, if_pos rfl]
      rfl
    have E : endsRawP s.data.toList name.data.toList = (decide (name.data.toList.length < (s.data.toList.drop 2).length) && (small ((s.data.toList.drop 2).take name.data.toList.length) == name.data.toList) && endsRawB ((s.data.toList.drop 2).getD name.data.toList.length 0)) := by
      simp [endsRawP, hp']
    have hl2 : (s.data.toList.drop 2).length ≤ s.size := by simp
    generalize hT : ({ data := (Lib.trimPrefix s.data.toList [60, 47]).toArray } : ByteArray) = t
    have hT2 : t.data.toList = s.data.toList.drop 2 := by rw [← hT, ← ht]
    rw [← hT2] at E hl2
    have hts : t.size ≤ s.size := by simpa using hl2
    have HE : Hid _ := E
    clear E hT hT2 ht hl2 hp'
    by_cases hlen : name.size < t.size
    · go_wp2_with fail
      refine (small_any _ _ (by simp; omega)).mono ?_
      rintro e w2 ⟨rfl, hk2⟩
      go_wp2_with (go_at_call 222; refine (endsName_any _ _).mono ?_; rintro e w' ⟨rfl, rfl⟩)
      · go_ret
        refine ⟨ret_bool ?_, hk2⟩
        rename_i hsm
        rw [Go.ByteArray.toList_eq] at hsm
        rw [HE.out, len_of, len_of, getD_of hlen, hsm]
        simp [hlen]
      · go_ret
        refine ⟨ret_bool ?_, hk2⟩
        rename_i hsm
        rw [Go.ByteArray.toList_eq] at hsm
        rw [HE.out, len_of, len_of]
        simp [hsm]
    · go_wp2_with fail
      go_ret
      refine ⟨ret_bool ?_, Kept.refl _ _⟩
      rw [HE.out, len_of, len_of]
      simp [hlen]
set_option maxHeartbeats 400000 in
theorem clone_any (s : ByteArray) (w : World) (hs : s.size ≤ 281474976710656) :
    Calls Tryz.prog 219 #[.string s] w fun e w' => e = .returned (.string s) ∧ Kept [] w w' := by
  go_enter Tryz.func219, Tryz.ntmps219
  go_wp2_with fail
  refine (Tryz.stringslite_Clone s _ hs).mono ?_
  rintro e w1 ⟨rfl, hb⟩
  go_wp2_with fail
  go_ret
  exact ⟨rfl, Kept.below hb _⟩
set_option maxHeartbeats 1000000 in
theorem rawText_any (rb : Nat) (m name : ByteArray) (r : List UInt8) (w : World) (h : Rd w rb m r) (hm : m.size ≤ 1099511627776) :
    Calls Tryz.prog 186 #[.pointer (some ⟨rb, 0, none⟩), .string name] w
      fun e w' => e = .returned (.string ⟨(rawP name.data.toList r).1.toArray⟩) ∧ Rd w' rb m (rawP name.data.toList r).2 ∧ Kept [rb] w w' := by
  obtain ⟨k0, hk, hr⟩ := h
  have HR : Hid (r = m.data.toList.drop k0) := hr
  clear hr
  have H := hk
  obtain ⟨h0, h1, h2⟩ := hk.cells
  have hk2 := hk.2
  clear hk
  go_enter Tryz.func186, Tryz.ntmps186
  go_wp2
  go_loopg [] (m.size - k0) (fun g wr => ∃ k : Nat, k0 ≤ k ∧ g = m.size - k ∧ RdK wr rb m k ∧ Kept [rb] w wr ∧ RunInv (fun x => endsRawP x name.data.toList) m.data.toList k0 k)
  case atStart => exact ⟨k0, Nat.le_refl _, by omega, H, Kept.refl _ _, RunInv.start _ _ _⟩
  case round =>
    obtain ⟨k, hk0, hg, hrd, hkept, hpi⟩ := hrel
    obtain ⟨g0, g1, g2⟩ := hrd.cells
    have hkm := hrd.2
    have hb1 : (0 : Int) ≤ (k : Int) := by omega
    have hb0 : (0 : Int) ≤ (k0 : Int) := by omega
    have hb3 : (k0 : Int) ≤ (k : Int) := by omega
    have hb4 : (k : Int) ≤ (m.size : Int) := by omega
    have HG : Hid (gk = m.size - k) := hg
    clear hg h0 h1 h2
    by_cases hlt : k < m.size
    · have hdn : decide (m.size ≤ k) = false := by simp; omega
      cases hp : endsRawP (m.data.toList.drop k) name.data.toList with
      | false =>
        go_wp2_with fail
        refine (done_k rb m k _ hrd).mono ?_
        rintro e w1 ⟨rfl, n1, rfl⟩
        go_wp2_with fail
        refine (rest_any rb m _ _ ⟨k, hrd.drewN _, rfl⟩).mono ?_
        rintro e w2 ⟨⟨t, rfl, ht⟩, n2, rfl⟩
        have hts : t.size ≤ m.size := by
          have h1 : t.data.toList.length = t.size := by simp
          rw [ht] at h1
          simp at h1
          omega
        go_wp2_with fail
        refine (endsRaw_any t name _ (by omega)).mono ?_
        rintro e w3 ⟨rfl, hk3⟩
        rw [ht, hp]
        have hrd3 := (hrd.drewN (n1 + n2)).kept hk3 (by simp)
        obtain ⟨e0, e1, e2⟩ := hrd3.cells
        clear g0 g1 g2
        go_wp2_with fail
        go_roundg (m.size - (k + 1))
        case measure => rw [HG.out]; omega
        case rel => exact ⟨k + 1, by omega, rfl, hrd3.set (k' := k + 1) (by omega), ((hkept.drewN _).trans (hk3.mono (by simp))).setCell (by simp) _, hpi.step hk0 (by simpa using hlt) hp⟩
      | true =>
        have hst := hpi.stop (.inr hp)
        have HS1 : Hid ((rawP name.data.toList r).1 = List.take (k - k0) (List.drop k0 m.data.toList)) := by rw [HR.out]; exact hst.1
        have HS2 : Hid ((rawP name.data.toList r).2 = List.drop k m.data.toList) := by rw [HR.out]; exact hst.2
        clear hst
        go_wp2_with fail
        refine (done_k rb m k _ hrd).mono ?_
        rintro e w1 ⟨rfl, n1, rfl⟩
        go_wp2_with fail
        refine (rest_any rb m _ _ ⟨k, hrd.drewN _, rfl⟩).mono ?_
        rintro e w2 ⟨⟨t, rfl, ht⟩, n2, rfl⟩
        have hts : t.size ≤ m.size := by
          have h1 : t.data.toList.length = t.size := by simp
          rw [ht] at h1
          simp at h1
          omega
        go_wp2_with fail
        refine (endsRaw_any t name _ (by omega)).mono ?_
        rintro e w3 ⟨rfl, hk3⟩
        rw [ht, hp]
        have hrd3 := (hrd.drewN (n1 + n2)).kept hk3 (by simp)
        have hkept3 := (hkept.drewN (n1 + n2)).trans (hk3.mono (S' := [rb]) (by simp))
        obtain ⟨e0, e1, e2⟩ := hrd3.cells
        clear g0 g1 g2
        go_wp2_with fail
        go_region_with (go_at_call 219; refine (clone_any _ _ (by simp; omega)).mono ?_; rintro e w4 ⟨rfl, hk4⟩)
        all_goals
          go_wp2_with fail
          go_ret
          refine ⟨?_, ?_, ?_⟩
          · rw [HS1.out]; exact ret_ext (t := m.extract k0 k) (by simp)
          · rw [HS2.out]; exact ⟨k, (hrd3.drewN _).kept hk4 (by simp), rfl⟩
          · exact (hkept3.drewN _).trans (hk4.mono (by simp))
    · have hst := hpi.stop (.inl (by simp; omega))
      have HS1 : Hid ((rawP name.data.toList r).1 = List.take (k - k0) (List.drop k0 m.data.toList)) := by rw [HR.out]; exact hst.1
      have HS2 : Hid ((rawP name.data.toList r).2 = List.drop k m.data.toList) := by rw [HR.out]; exact hst.2
      have hdn : decide (m.size ≤ k) = true := by simp; omega
      clear hst
      go_wp2_with fail
      refine (done_k rb m k _ hrd).mono ?_
      rintro e w1 ⟨rfl, n1, rfl⟩
      go_wp2_with fail
      go_region_with (go_at_call 219; refine (clone_any _ _ (by simp; omega)).mono ?_; rintro e w4 ⟨rfl, hk4⟩)
      all_goals
        go_wp2_with fail
        go_ret
        refine ⟨?_, ?_, ?_⟩
        · rw [HS1.out]; exact ret_ext (t := m.extract k0 k) (by simp)
        · rw [HS2.out]; exact ⟨k, RdK.kept (w := _) (hrd.drewN _) hk4 (by simp), rfl⟩
        · exact (hkept.drewN _).trans (hk4.mono (by simp))
end Go.Proofs.YtlpmjpmefdpcmaaGreatDoor
namespace Go.Proofs.YtlpmjpmefdpcmaaGreatDoor
open Go.RowKit Scrub Go.Shelf
/-- A token in the walk's form. -/
def tokV (sort : Int) (name : List UInt8) (attrs : Value) (text : List UInt8) : Value := .agg #[.int .i64 sort, .string ⟨name.toArray⟩, attrs, .string ⟨text.toArray⟩]
/-- A token, or the empty one. -/
def tokOr (b : Bool) (v : Value) : Value := match b with | true => v | false => tokV 0 [] (.slice none 0 0) []
set_option maxHeartbeats 1000000 in
theorem end_any (rb : Nat) (m : ByteArray) (r : List UInt8) (w : World) (h : Rd w rb m r) (h2 : 2 ≤ r.length) (hm : m.size < 4294967281) (hg : Glob w) (hrb : 1 ∉ [rb] ∧ 0 ∉ [rb]) :
    Calls Tryz.prog 113 #[.pointer (some ⟨rb, 0, none⟩)] w
      fun e w' => e = .returned (.tuple #[tokOr (endP r).1 (tokV 2 (endP r).2.1 (.slice none 0 0) []), .bool (endP r).1]) ∧ Rd w' rb m (endP r).2.2 ∧ Kept [rb] w w' := by
  obtain ⟨k, hk, hr⟩ := h
  have hkm := hk.2
  have HR : Hid (r = m.data.toList.drop k) := hr
  have hrl : k + 2 ≤ m.size := by rw [hr] at h2; simp at h2; omega
  clear hr
  obtain ⟨c0, c1, c2⟩ := hk.cells
  have hrs := hk.lt
  go_enter Tryz.func113, Tryz.ntmps113
  go_wp2_with fail
  generalize hW1 : ((w.setCell ⟨rb, 1, none⟩ (.int .i64 ((k : Int) + 2))).alloc (.cells #[.int .i64 0, .string ⟨#[]⟩, .slice none 0 0, .string ⟨#[]⟩] 108)) = W1
  have hk1 : Kept [rb] w W1 := by rw [← hW1]; exact ((Kept.refl _ _).setCell (by simp) _).alloc _
  have hz1 : W1.heap.size = w.heap.size + 1 := by rw [← hW1]; simp [World.setCell]
  have hb1 : W1.heap[w.heap.size]? = some (.cells #[.int .i64 0, .string ⟨#[]⟩, .slice none 0 0, .string ⟨#[]⟩] 108 (0, 0)) := by
    rw [← hW1]
    have := heap_alloc_new (w.setCell ⟨rb, 1, none⟩ (.int .i64 ((k : Int) + 2))) (.cells #[.int .i64 0, .string ⟨#[]⟩, .slice none 0 0, .string ⟨#[]⟩] 108)
    simpa [World.setCell] using this
  have hrd1 : RdK W1 rb m (k + 2) := by
    rw [← hW1]
    exact (hk.set (k' := k + 2) hrl).kept ((Kept.refl [] _).alloc _) (by simp)
  clear hW1
  refine (pass_any rb m (r.drop 2) _ nameB _ ⟨k + 2, hrd1, by rw [HR.out, List.drop_drop]⟩ (by unfold maxLen; omega) enters_isNameByte isNameByte_any).mono ?_
  rintro e w2 ⟨⟨t, rfl, ht⟩, hrd2, hk2⟩
  have hts : t.size ≤ m.size := by
    have h1 : t.data.toList.length = t.size := by simp
    have h3 := takeWhile_le nameB (r.drop 2)
    rw [ht] at h1
    have h4 : r.length = m.size - k := by rw [HR.out]; simp
    simp at h3
    omega
  have HT : Hid (t.data.toList = (r.drop 2).takeWhile nameB) := ht
  clear ht
  go_wp2_with fail
  refine (small_any t _ (by omega)).mono ?_
  rintro e w3 ⟨rfl, hk3⟩
  go_wp2_with fail
  have hg3 : Glob w3 := ((hg.kept hk1 hrb.1 hrb.2).kept hk2 hrb.1 hrb.2).kept hk3 (by simp) (by simp)
  refine (passTo_any rb m _ ((r.drop 2).dropWhile nameB) _ (hrd2.kept hk3 (by simp)) hm hg3).mono ?_
  rintro e w4 ⟨rfl, hrd4, hk4⟩
  have hkk : Kept [rb] W1 w4 := (hk2.trans (hk3.mono (by simp))).trans hk4
  have hb4 : w4.heap[w.heap.size]? = some (.cells #[.int .i64 0, .string ⟨#[]⟩, .slice none 0 0, .string ⟨#[]⟩] 108 (0, 0)) := by
    rw [hkk.block _ (by omega) (by simp; omega)]
    exact hb1
  obtain ⟨⟨q0, q1, q2, q3⟩, ⟨f0, f1, f2, f3⟩⟩ := cells4 hb4
  have HEP : Hid ((endP r).2.1 = small t.data.toList) := by show _ = _; rw [HT.out]; rfl
  have HER : Hid ((endP r).2.2 = (Lib.cut ((r.drop 2).dropWhile nameB) [62]).2.1) := rfl
  have hrd4' : Rd w4 rb m (Lib.cut ((r.drop 2).dropWhile nameB) [62]).2.1 := hrd4
  have hkall : Kept [rb] w w4 := hk1.trans hkk
  clear hrd4 hb1 hb4 hrd1 hk1 hk2 hk3 hk4 hg3 hrd2
  cases hf : (Lib.cut ((r.drop 2).dropWhile nameB) [62]).2.2 with
  | true =>
    have HEF : Hid ((endP r).1 = true) := hf
    go_wp2_with fail
    refine bodyPost_ret (v := .tuple #[.agg #[.int .i64 2, .string ⟨(small t.data.toList).toArray⟩, .slice none 0 0, .string ⟨#[]⟩], .bool true]) (by simp [results, Tryz.results113, go_sem, q0, q1, q2, q3]) rfl ⟨?_, ?_, ?_⟩
    · rw [HEP.out, HEF.out]; rfl
    · rw [HER.out]; exact Rd.kept hrd4' ((Kept.refl [w.heap.size] w4).set4 (by simp) _ _ _ _) (by simp; omega)
    · exact hkall.set4 (by simp) _ _ _ _
  | false =>
    have HEF : Hid ((endP r).1 = false) := hf
    go_wp2_with fail
    refine bodyPost_ret (v := .tuple #[.agg #[.int .i64 0, .string ⟨#[]⟩, .slice none 0 0, .string ⟨#[]⟩], .bool false]) (by simp [results, Tryz.results113, go_sem, q0, q1, q2, q3]) rfl ⟨?_, ?_, ?_⟩
    · rw [HEF.out]; rfl
    · rw [HER.out]; exact Rd.kept hrd4' ((Kept.refl [w.heap.size] w4).set4 (by simp) _ _ _ _) (by simp; omega)
    · exact hkall.set4 (by simp) _ _ _ _
end Go.Proofs.YtlpmjpmefdpcmaaGreatDoor
namespace Go.Proofs.YtlpmjpmefdpcmaaGreatDoor
open Go.RowKit Scrub Go.Shelf
set_option maxHeartbeats 2000000 in
theorem text_any (rb : Nat) (m : ByteArray) (r : List UInt8) (w : World) (h : Rd w rb m r) (hm : m.size ≤ 1099511627776) (hg : Glob w) (hrb : 1 ∉ [rb] ∧ 0 ∉ [rb]) :
    Calls Tryz.prog 115 #[.pointer (some ⟨rb, 0, none⟩)] w
      fun e w' => e = .returned (tokV 0 [] (.slice none 0 0) (signs (textP r).1)) ∧ Rd w' rb m (textP r).2 ∧ Kept [rb] w w' := by
  obtain ⟨k0, hk, hr⟩ := h
  have HR : Hid (r = m.data.toList.drop k0) := hr
  clear hr
  have H := hk
  obtain ⟨h0, h1, h2⟩ := hk.cells
  have hk2 := hk.2
  have hrs := hk.lt
  clear hk
  go_enter Tryz.func115, Tryz.ntmps115
  go_wp2_with fail
  go_loopg [] (m.size - k0) (fun g wr => ∃ k : Nat, k0 ≤ k ∧ g = m.size - k ∧ RdK wr rb m k ∧ Kept [rb] w wr ∧ wr.heap[w.heap.size]? = some (.cells #[.int .i64 0, .string ⟨#[]⟩, .slice none 0 0, .string ⟨#[]⟩] 108 (0, 0)) ∧ RunInv (fun x => beginsP x != 0) m.data.toList k0 k)
  case atStart => exact ⟨k0, Nat.le_refl _, rfl, H.kept ((Kept.refl [] _).alloc _) (by simp), (Kept.refl _ _).alloc _, heap_alloc_new w _, RunInv.start _ _ _⟩
  case round =>
    obtain ⟨k, hk0, hg', hrd, hkept, hres, hpi⟩ := hrel
    obtain ⟨g0, g1, g2⟩ := hrd.cells
    obtain ⟨⟨q0, q1, q2, q3⟩, ⟨f0, f1, f2, f3⟩⟩ := cells4 hres
    have hkm := hrd.2
    have hb1 : (0 : Int) ≤ (k : Int) := by omega
    have hb0 : (0 : Int) ≤ (k0 : Int) := by omega
    have hb3 : (k0 : Int) ≤ (k : Int) := by omega
    have hb4 : (k : Int) ≤ (m.size : Int) := by omega
    have HG : Hid (gk = m.size - k) := hg'
    have HRES : Hid _ := hres
    have hlt0 : w.heap.size < wr.heap.size := (Array.getElem?_eq_some_iff.1 hres).1
    clear hg' h0 h1 h2 hres
    have fin : (m.size ≤ k ∨ (beginsP (m.data.toList.drop k) != 0) = true) → Hid (signs (textP r).1 = signs (List.take (k - k0) (List.drop k0 m.data.toList)) ∧ (textP r).2 = List.drop k m.data.toList) := by
      intro hs
      have hst := hpi.stop (by rcases hs with hs | hs; exact .inl (by simpa using hs); exact .inr hs)
      rw [HR.out]
      exact ⟨by rw [textP, hst.1], hst.2⟩
    by_cases hlt : k < m.size
    · have hdn : decide (m.size ≤ k) = false := by simp; omega
      have hne : m.data.toList.drop k ≠ [] := by
        intro e
        have := congrArg List.length e
        simp at this
        omega
      cases hp : (beginsP (m.data.toList.drop k) == 0) with
      | true =>
        clear fin
        go_wp2_with fail
        refine (done_k rb m k _ hrd).mono ?_
        rintro e w1 ⟨rfl, n1, rfl⟩
        go_wp2_with fail
        refine (begins_any rb m _ _ ⟨k, hrd.drewN _, rfl⟩ hne).mono ?_
        rintro e w2 ⟨rfl, n2, rfl⟩
        go_wp2_with fail
        go_roundg (m.size - (k + 1))
        case measure => rw [HG.out]; omega
        case rel => exact ⟨k + 1, by omega, rfl, (hrd.drewN _).set (k' := k + 1) (by omega), (hkept.drewN _).setCell (by simp) _, by rw [Below.heap_setCell _ _ _ _ (by show _ ≠ rb; omega)]; exact HRES.out, hpi.step hk0 (by simpa using hlt) (by simpa using hp)⟩
      | false =>
        have HF := fin (.inr (by simpa using hp))
        clear fin
        go_wp2_with fail
        refine (done_k rb m k _ hrd).mono ?_
        rintro e w1 ⟨rfl, n1, rfl⟩
        go_wp2_with fail
        refine (begins_any rb m _ _ ⟨k, hrd.drewN _, rfl⟩ hne).mono ?_
        rintro e w2 ⟨rfl, n2, rfl⟩
        go_wp2_with fail
        go_region_with (go_at_call 187; refine (readSigns_any _ _ (by simp; omega) ((hg.kept hkept hrb.1 hrb.2).drewN _)).mono ?_; rintro e w3 ⟨rfl, hk3⟩; obtain ⟨⟨p0, p1, p2, p3⟩, ⟨e0, e1, e2, e3⟩⟩ := cells4 ((hk3.block w.heap.size hlt0 (by simp)).trans HRES.out))
        all_goals
          go_wp2_with fail
          refine bodyPost_ret (v := .agg #[.int .i64 0, .string ⟨#[]⟩, .slice none 0 0, .string ⟨(signs (List.take (k - k0) (List.drop k0 m.data.toList))).toArray⟩]) (by simp [results, Tryz.results115, go_sem, p0, p1, p2, p3]) rfl ⟨?_, ?_, ?_⟩
          · rw [HF.out.1]; rfl
          · rw [HF.out.2]; exact ⟨k, RdK.kept (RdK.kept (w := wr.drewN _) (hrd.drewN _) hk3 (by simp)) ((Kept.refl [w.heap.size] w3).set4 (by simp) _ _ _ _) (by simp; omega), rfl⟩
          · exact ((hkept.drewN _).trans (hk3.mono (by simp))).set4 (by simp) _ _ _ _
    · have HF := fin (.inl (by omega))
      have hdn : decide (m.size ≤ k) = true := by simp; omega
      clear fin
      go_wp2_with fail
      refine (done_k rb m k _ hrd).mono ?_
      rintro e w1 ⟨rfl, n1, rfl⟩
      go_wp2_with fail
      go_region_with (go_at_call 187; refine (readSigns_any _ _ (by simp; omega) ((hg.kept hkept hrb.1 hrb.2).drewN _)).mono ?_; rintro e w3 ⟨rfl, hk3⟩; obtain ⟨⟨p0, p1, p2, p3⟩, ⟨e0, e1, e2, e3⟩⟩ := cells4 ((hk3.block w.heap.size hlt0 (by simp)).trans HRES.out))
      all_goals
        go_wp2_with fail
        refine bodyPost_ret (v := .agg #[.int .i64 0, .string ⟨#[]⟩, .slice none 0 0, .string ⟨(signs (List.take (k - k0) (List.drop k0 m.data.toList))).toArray⟩]) (by simp [results, Tryz.results115, go_sem, p0, p1, p2, p3]) rfl ⟨?_, ?_, ?_⟩
        · rw [HF.out.1]; rfl
        · rw [HF.out.2]; exact ⟨k, RdK.kept (RdK.kept (w := wr.drewN _) (hrd.drewN _) hk3 (by simp)) ((Kept.refl [w.heap.size] w3).set4 (by simp) _ _ _ _) (by simp; omega), rfl⟩
        · exact ((hkept.drewN _).trans (hk3.mono (by simp))).set4 (by simp) _ _ _ _
end Go.Proofs.YtlpmjpmefdpcmaaGreatDoor
namespace Go.Proofs.YtlpmjpmefdpcmaaGreatDoor
open Go.RowKit Scrub Go.Shelf
theorem infoAttr : (Tryz.prog.info? 63).map (fun i => (i.zero, i.size, i.bytes)) = some (some (.agg #[.string ⟨#[]⟩, .string ⟨#[]⟩]), 2, 32) := by kernel_rfl
/-- Attributes that a call owns. -/
def AOwn (w : World) (v : Value) (al : List (List UInt8 × List UInt8)) : Prop := w.ownsRow 0 63 2 v al.length (attrCells al)
set_option maxHeartbeats 1000000 in
theorem withAttr_any (v : Value) (al : List (List UInt8 × List UInt8)) (n x : List UInt8) (w : World) (h : AOwn w v al) (hl : al.length ≤ 1099511627776) :
    Calls Tryz.prog 185 #[v, .agg #[.string ⟨n.toArray⟩, .string ⟨x.toArray⟩]] w
      fun e w' => ∃ v', e = .returned v' ∧ AOwn w' v' (withP al (n, x)) ∧ Moved w v v' ∧ Kept v.ownBlock.toList w w' := by
  obtain ⟨i0, hi, hz0, hz1, hz2⟩ := info_parts infoAttr
  rcases h.2 with ⟨rfl, hn0⟩ | ⟨g, cap, cur, rfl, _, hgg, hnc, hcm, hcs, htk⟩
  · have : al = [] := List.eq_nil_of_length_eq_zero hn0
    subst this
    have hno : NoName [] n 0 := fun j hj => by simp at hj
    go_enter Tryz.func185, Tryz.ntmps185
    go_wp2_with fail
    go_loopg [9] 0 (fun _ k wr => k = .int .i64 0 ∧ Kept [] w wr ∧ wr.heap[w.heap.size]? = some (.cells #[.string ⟨n.toArray⟩, .string ⟨x.toArray⟩] 63 (0, 0)))
    case atStart => exact ⟨rfl, (Kept.refl _ _).alloc _, heap_alloc_new w _⟩
    case round =>
      obtain ⟨rfl, hkept, hbx⟩ := hrel
      have q0 : wr.cell? ⟨w.heap.size, 0, none⟩ = some (.string ⟨n.toArray⟩) := by simp [World.cell?, hbx]
      have q1 : wr.cell? ⟨w.heap.size, 1, none⟩ = some (.string ⟨x.toArray⟩) := by simp [World.cell?, hbx]
      clear hbx
      go_wp2_with (at_builtin; refine wpList_append_fp _ rfl _ _ 40 rfl 0 63 i0 _ 2 32 Tryz.underlying40 hi hz0 hz1 hz2 rfl (by decide) _ 0 [] rfl ?own _ 1 1 [.string ⟨n.toArray⟩, .string ⟨x.toArray⟩] rfl rfl ?news ?one ?len ?bytes (Nat.zero_le _) ?_)
      case own => exact ownsRow_kept h (hkept.alloc _) (by simp)
      case news => exact new_cells wr [.string ⟨n.toArray⟩, .string ⟨x.toArray⟩] 63
      case one => intro u hu; simp at hu; rcases hu with rfl | rfl <;> rfl
      case len => unfold maxLen; omega
      case bytes => omega
      intro v' w' hown hgr hmv
      go_wp2_with fail
      go_ret
      refine ⟨v', rfl, ?_, ?_, ?_⟩
      · rw [withP_new _ (n, x) hno]
        have e : ([] ++ [(n, x)]).length = 0 + 1 := by simp
        show w'.ownsRow _ _ _ _ ([] ++ [(n, x)]).length _
        rw [e, ← attrCells_snoc]
        exact hown
      · exact hmv.kept (hkept.alloc _).size
      · exact (((hkept.alloc _).mono (by simp))).trans (Kept.own hgr)
  · have hgs : g < w.heap.size := (Array.getElem?_eq_some_iff.1 hgg).1
    go_enter Tryz.func185, Tryz.ntmps185
    go_wp2_with fail
    go_loopg [9] al.length (fun gg i wr => ∃ k : Nat, k ≤ al.length ∧ gg = al.length - k ∧ i = .int .i64 (k : Int) ∧ Kept [] w wr ∧ wr.heap[w.heap.size]? = some (.cells #[.string ⟨n.toArray⟩, .string ⟨x.toArray⟩] 63 (0, 0)) ∧ NoName al n k)
    case atStart => exact ⟨0, by omega, rfl, rfl, (Kept.refl _ _).alloc _, heap_alloc_new w _, fun j hj => by omega⟩
    case round =>
      obtain ⟨k, hk, hgk, rfl, hkept, hbx, hno⟩ := hrel
      have HG : Hid (gk = al.length - k) := hgk
      have HB : Hid _ := hbx
      have q0 : wr.cell? ⟨w.heap.size, 0, none⟩ = some (.string ⟨n.toArray⟩) := by simp [World.cell?, hbx]
      have q1 : wr.cell? ⟨w.heap.size, 1, none⟩ = some (.string ⟨x.toArray⟩) := by simp [World.cell?, hbx]
      have hlt0 : w.heap.size < wr.heap.size := (Array.getElem?_eq_some_iff.1 hbx).1
      clear hgk hbx
      by_cases hlt : k < al.length
      · have hown : wr.ownsRow 0 63 2 (.slice (some ⟨g, 0, none⟩) al.length cap) al.length (attrCells al) := ownsRow_kept h hkept (by simp)
        have r0 := row_cell hown (attrCells_get al k hlt).1
        have r1 := row_cell hown (attrCells_get al k hlt).2
        clear hown
        cases hq : (al[k].1 == n) with
        | true =>
          set_option maxRecDepth 100000 in
          go_wp2_with fail
          go_ret
          refine ⟨_, rfl, ?_, .inl rfl, ((hkept.alloc _).mono (by simp))⟩
          rw [withP_old al (n, x) k hlt (by simpa using hq)]
          exact ownsRow_kept h (hkept.alloc _) (by simp)
        | false =>
          clear h hgg htk
          set_option maxRecDepth 100000 in
          go_wp2_with fail
          go_roundg (al.length - (k + 1))
          case measure => rw [HG.out]; omega
          case rel =>
            refine ⟨k + 1, by omega, rfl, by go_num, hkept.alloc _, by rw [Below.heap_alloc _ _ _ hlt0]; exact HB.out, fun j hj hjk => ?_⟩
            by_cases e : j = k
            · subst e; simpa using hq
            · exact hno j hj (by omega)
      · have hkl : k = al.length := by omega
        subst hkl
        clear hlt HB hgg htk
        go_wp2_with (at_builtin; refine wpList_append_fp _ rfl _ _ 40 rfl 0 63 i0 _ 2 32 Tryz.underlying40 hi hz0 hz1 hz2 rfl (by decide) _ al.length (attrCells al) rfl ?own _ 1 1 [.string ⟨n.toArray⟩, .string ⟨x.toArray⟩] rfl rfl ?news ?one ?len ?bytes (Nat.zero_le _) ?_)
        case own => exact ownsRow_kept h (hkept.alloc _) (by simp)
        case news => exact new_cells wr [.string ⟨n.toArray⟩, .string ⟨x.toArray⟩] 63
        case one => intro u hu; simp at hu; rcases hu with rfl | rfl <;> rfl
        case len => unfold maxLen; omega
        case bytes => omega
        intro v' w' hown hgr hmv
        go_wp2_with fail
        go_ret
        refine ⟨v', rfl, ?_, ?_, ?_⟩
        · rw [withP_new _ (n, x) hno]
          have e : (al ++ [(n, x)]).length = al.length + 1 := by simp
          show w'.ownsRow _ _ _ _ (al ++ [(n, x)]).length _
          rw [e, ← attrCells_snoc]
          exact hown
        · exact hmv.kept (hkept.alloc _).size
        · exact (((hkept.alloc _).mono (by simp))).trans (Kept.own hgr)
end Go.Proofs.YtlpmjpmefdpcmaaGreatDoor
