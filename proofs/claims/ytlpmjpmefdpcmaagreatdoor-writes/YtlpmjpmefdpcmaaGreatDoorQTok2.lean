import Derived.Test.YtlpmjpmefdpcmaaGreatDoorQSigns
import Derived.Deep.RegionWith
namespace Go.Proofs.YtlpmjpmefdpcmaaGreatDoor
open Go.RowKit Scrub
set_option maxHeartbeats 1000000 in
theorem small_any (s : ByteArray) (w : World) (hs : s.size ≤ 1099511627776) :
    Calls Tryz.prog 178 #[.string s] w fun e w' => e = .returned (.string ⟨(small s.data.toList).toArray⟩) ∧ Kept [] w w' := by
  obtain ⟨cap, w1, hcv, hk1, hb1⟩ := conv_bytes (P := Tryz.prog) w 9 60 5 s Tryz.underlying9 Tryz.underlying60 Tryz.underlying5
  go_enter Tryz.func178, Tryz.ntmps178
  go_wp2
  go_loopg [10] s.size (fun g x wr => ∃ k : Nat, k ≤ s.size ∧ g = s.size - k ∧ x = .int .i64 (k : Int) ∧ Kept [] w wr ∧ BytesAt wr w.heap.size (smallRow s.data.toList k))
  case atStart => exact ⟨0, by omega, by omega, rfl, hk1, by rw [smallRow_zero]; exact hb1⟩
  case round =>
    obtain ⟨k, hk, hg, rfl, hkept, hba⟩ := hrel
    have HG : Hid (gk = s.size - k) := hg
    clear hg hcv hb1
    by_cases hlt : k < s.size
    · have hlt' : k < s.data.toList.length := by simpa using hlt
      have hll : k < (smallRow s.data.toList k).length := by rw [smallRow_length _ _ (Nat.le_of_lt hlt')]; exact hlt'
      obtain ⟨hc1, hf1⟩ := hba k hll
      rw [smallRow_get _ _ hlt' hll] at hc1
      have hc2 : wr.cell? ⟨w.heap.size, k, none⟩ = some (.int .u8 (s[k].toNat : Int)) := hc1
      clear hc1
      go_wp2_with fail
      refine (smallByte_any s[k] _).mono ?_
      rintro e w2 ⟨rfl, rfl⟩
      go_wp2_with fail
      go_roundg (s.size - (k + 1))
      case measure => rw [HG.out]; omega
      case rel =>
        refine ⟨k + 1, by omega, rfl, by go_num, hkept.setCell (by simp) _, ?_⟩
        rw [← smallRow_set _ _ hlt']
        exact hba.set k (smallB s[k]) hll
    · have hback := conv_back (P := Tryz.prog) wr 60 9 5 w.heap.size cap s.size (smallRow s.data.toList k) (by rw [smallRow_length _ _ (by simpa using hk)]; simp) Tryz.underlying60 Tryz.underlying5 Tryz.underlying9 hba
      rw [smallRow_all _ _ (by simp; omega)] at hback
      go_wp2_with fail
      go_ret
      exact ⟨rfl, hkept⟩
end Go.Proofs.YtlpmjpmefdpcmaaGreatDoor
namespace Go.Proofs.YtlpmjpmefdpcmaaGreatDoor
open Go.RowKit Scrub
theorem begins_close {t : ByteArray} {n : Int} (h : n = beginsP t.data.toList) : Ending.returned (.int .i64 n) = .returned (.int .i64 (beginsP t.data.toList)) := by rw [h]
set_option maxHeartbeats 1000000 in
theorem begins_any (rb : Nat) (m : ByteArray) (r : List UInt8) (w : World) (h : Rd w rb m r) (h0 : r ≠ []) :
    Calls Tryz.prog 111 #[.pointer (some ⟨rb, 0, none⟩)] w fun e w' => e = .returned (.int .i64 (beginsP r)) ∧ ∃ n, w' = w.drewN n := by
  go_enter Tryz.func111, Tryz.ntmps111
  go_wp2_with fail
  refine (rest_any rb m r _ h).mono ?_
  rintro e w' ⟨⟨t, rfl, ht⟩, n, rfl⟩
  have hts : 0 < t.size := by
    have h1 : t.data.toList.length = t.size := by simp
    rw [ht] at h1
    cases r with
    | nil => exact absurd rfl h0
    | cons a l => simp at h1; omega
  subst ht
  clear h h0
  go_wp2_with (first | (go_at_call 175; refine (Tryz.strings_HasPrefix _ _ _).mono ?_; rintro e w' ⟨rfl, rfl⟩) | (go_at_call 176; refine (isLetter_any _ _).mono ?_; rintro e w' ⟨rfl, rfl⟩))
  all_goals go_ret
  all_goals refine ⟨begins_close ?_, _, rfl⟩
  · exact begins_w1 hts ‹_›
  · exact begins_w2 hts ‹_› ‹_›
  · exact begins_w3 hts ‹_› ‹_› (by omega) ‹_›
  · rw [begins_w4 hts ‹_› ‹_› (by omega) ‹_› (by omega), if_pos ⟨by omega, ‹_›⟩]
  · rw [begins_w4 hts ‹_› ‹_› (by omega) ‹_› (by omega), if_neg (by simp [*])]
  · rw [begins_w4 hts ‹_› ‹_› (by omega) ‹_› (by omega), if_neg (by omega)]
  · exact begins_w5 hts ‹_› ‹_› (fun _ => ‹_›) (by omega)
  · exact begins_w5 hts ‹_› ‹_› (fun h => by omega) (by omega)
/-- How far a cut leaves the reader. -/
theorem cut_drop (l sep : List UInt8) : (Lib.cut l sep).2.1 = l.drop (l.length - (Lib.cut l sep).2.1.length) := by
  unfold Lib.cut
  split
  · simp only [List.length_drop]
    congr 1
    have := Lib.index_room l sep ‹_›
    omega
  · simp
theorem cut_le (l sep : List UInt8) : (Lib.cut l sep).2.1.length ≤ l.length := by
  unfold Lib.cut
  split
  · simp
  · simp
set_option maxHeartbeats 1000000 in
theorem passTo_any (rb : Nat) (m sep : ByteArray) (r : List UInt8) (w : World) (h : Rd w rb m r) (hm : m.size < 4294967281) (hg : Glob w) :
    Calls Tryz.prog 177 #[.pointer (some ⟨rb, 0, none⟩), .string sep] w
      fun e w' => e = .returned (.tuple #[.string ⟨(Lib.cut r sep.data.toList).1.toArray⟩, .bool (Lib.cut r sep.data.toList).2.2]) ∧ Rd w' rb m (Lib.cut r sep.data.toList).2.1 ∧ Kept [rb] w w' := by
  obtain ⟨⟨mx, hmx⟩, _⟩ := hg
  have HRd := h
  obtain ⟨k, hk, hr⟩ := h
  have hkm := hk.2
  have HR : Hid (r = m.data.toList.drop k) := hr
  clear hr
  go_enter Tryz.func177, Tryz.ntmps177
  go_wp2_with fail
  refine (rest_any rb m r _ HRd).mono ?_
  rintro e w1 ⟨⟨t, rfl, ht⟩, n, rfl⟩
  have hts : t.size ≤ m.size := by
    have h1 : t.data.toList.length = t.size := by simp
    rw [ht, HR.out] at h1
    simp at h1
    omega
  go_wp2_with fail
  refine (Tryz.strings_Cut t sep mx _ (by omega) (by exact hmx)).mono ?_
  rintro e w2 ⟨rfl, n2, rfl⟩
  rw [ht]
  have hle := cut_le r sep.data.toList
  have hdr := cut_drop r sep.data.toList
  generalize hc : Lib.cut r sep.data.toList = c at *
  have HC : Hid (Lib.cut r sep.data.toList = c) := hc
  clear hc
  have HD : Hid (c.2.1 = r.drop (r.length - c.2.1.length)) := hdr
  clear hdr
  have hrl : r.length ≤ m.size := by rw [HR.out]; simp
  obtain ⟨h0, h1, h2⟩ := hk.cells
  go_wp2_with fail
  go_ret2
  rw [HC.out]
  exact ⟨rfl, RdK.setRest (hk.drewN _) HR.out hle HD.out rfl, Kept.setCell ((Kept.refl [rb] _).drewN _) (.inl (List.mem_singleton.2 rfl)) _⟩
theorem prefix_drop {p l : List UInt8} (h : List.isPrefixOf p l = true) : p ++ l.drop p.length = l := by
  obtain ⟨t, rfl⟩ := List.isPrefixOf_iff_prefix.1 h
  simp
set_option maxHeartbeats 1000000 in
theorem passComment_any (rb : Nat) (m : ByteArray) (r : List UInt8) (w : World) (h : Rd w rb m r) (h4 : 4 ≤ r.length) (hm : m.size < 4294967281) (hg : Glob w) (hrb : 1 ∉ [rb] ∧ 0 ∉ [rb]) :
    Calls Tryz.prog 112 #[.pointer (some ⟨rb, 0, none⟩)] w
      fun e w' => e = .returned (.tuple #[]) ∧ Rd w' rb m (Lib.cut (r.drop 4) [45, 45, 62]).2.1 ∧ Kept [rb] w w' := by
  obtain ⟨k, hk, hr⟩ := h
  have hkm := hk.2
  have HR : Hid (r = m.data.toList.drop k) := hr
  have hrl : k + 4 ≤ m.size := by rw [hr] at h4; simp at h4; omega
  clear hr
  obtain ⟨h0, h1, h2⟩ := hk.cells
  go_enter Tryz.func112, Tryz.ntmps112
  go_wp2_with fail
  have hk1 : Kept [rb] w (w.setCell ⟨rb, 1, none⟩ (.int .i64 ((k : Int) + 4))) := (Kept.refl _ _).setCell (by simp) _
  refine (passTo_any rb m _ (r.drop 4) _ ?_ hm (hg.kept hk1 hrb.1 hrb.2)).mono ?_
  · refine ⟨k + 4, hk.set (k' := k + 4) hrl, ?_⟩
    rw [HR.out, List.drop_drop]
  rintro e w2 ⟨rfl, hrd, hk2⟩
  go_wp2_with fail
  go_end0
  exact ⟨rfl, hrd, hk1.trans hk2⟩
end Go.Proofs.YtlpmjpmefdpcmaaGreatDoor
namespace Go.Proofs.YtlpmjpmefdpcmaaGreatDoor
open Go.RowKit Scrub Go.Shelf
set_option maxHeartbeats 400000 in
theorem attrName1_any (c : UInt8) (w : World) :
    Calls Tryz.prog 214 #[.int .u8 (c.toNat : Int)] w fun e w' => e = .returned (.bool (!endsAttrB c)) ∧ w' = w := by
  go_enter Tryz.func214, Tryz.ntmps214
  go_wp2_with (go_at_call 215; refine (endsAttrName_any _ _).mono ?_; rintro e w' ⟨rfl, rfl⟩)
  go_ret
  exact ⟨rfl, rfl⟩
set_option maxHeartbeats 400000 in
theorem value1_any (c : UInt8) (w : World) :
    Calls Tryz.prog 216 #[.int .u8 (c.toNat : Int)] w fun e w' => e = .returned (.bool (!endsValueB c)) ∧ w' = w := by
  go_enter Tryz.func216, Tryz.ntmps216
  go_wp2_with (go_at_call 217; refine (endsValue_any _ _).mono ?_; rintro e w' ⟨rfl, rfl⟩)
  go_ret
  exact ⟨rfl, rfl⟩
theorem enters_attrName1 (args : Array Value) (w : World) : (callFunc 214 args).run Tryz.prog w = .ok (.enter 214 args) w := enters_of Tryz.func214 (by kernel_rfl) rfl args w
theorem enters_value1 (args : Array Value) (w : World) : (callFunc 216 args).run Tryz.prog w = .ok (.enter 216 args) w := enters_of Tryz.func216 (by kernel_rfl) rfl args w
theorem enters_isNameByte (args : Array Value) (w : World) : (callFunc 180 args).run Tryz.prog w = .ok (.enter 180 args) w := enters_of Tryz.func180 (by kernel_rfl) rfl args w
theorem enters_isBlank (args : Array Value) (w : World) : (callFunc 183 args).run Tryz.prog w = .ok (.enter 183 args) w := enters_of Tryz.func183 (by kernel_rfl) rfl args w
theorem enters_isBlankOrSlash (args : Array Value) (w : World) : (callFunc 181 args).run Tryz.prog w = .ok (.enter 181 args) w := enters_of Tryz.func181 (by kernel_rfl) rfl args w
theorem ret_str {a b : List UInt8} (h : a = b) : Ending.returned (.string ⟨a.toArray⟩) = .returned (.string ⟨b.toArray⟩) := by rw [h]
theorem ret_ext {t : ByteArray} {l : List UInt8} (h : t.data.toList = l) : Ending.returned (.string t) = .returned (.string ⟨l.toArray⟩) := by
  subst h
  cases t
  simp
set_option maxHeartbeats 1000000 in
theorem attrName_any (rb : Nat) (m : ByteArray) (r : List UInt8) (w : World) (h : Rd w rb m r) (h1 : r ≠ []) (hm : m.size ≤ 1099511627776) :
    Calls Tryz.prog 182 #[.pointer (some ⟨rb, 0, none⟩)] w
      fun e w' => e = .returned (.string ⟨(attrNameP r).1.toArray⟩) ∧ Rd w' rb m (attrNameP r).2 ∧ Kept [rb] w w' := by
  obtain ⟨k, hk, hr⟩ := h
  have hkm := hk.2
  have HR : Hid (r = m.data.toList.drop k) := hr
  have hrl : k + 1 ≤ m.size := by
    have : r.length ≠ 0 := fun e => h1 (List.eq_nil_of_length_eq_zero e)
    rw [hr] at this
    simp at this
    omega
  clear hr
  obtain ⟨c0, c1, c2⟩ := hk.cells
  go_enter Tryz.func182, Tryz.ntmps182
  go_wp2_with fail
  have hk1 : Kept [rb] w (w.setCell ⟨rb, 1, none⟩ (.int .i64 ((k : Int) + 1))) := (Kept.refl _ _).setCell (by simp) _
  refine (pass_any rb m (r.drop 1) _ (fun c => !endsAttrB c) _ ?_ (by unfold maxLen; omega) enters_attrName1 attrName1_any).mono ?_
  · refine ⟨k + 1, hk.set (k' := k + 1) hrl, ?_⟩
    rw [HR.out, List.drop_drop]
  rintro e w2 ⟨⟨t, rfl, ht⟩, hrd, hk2⟩
  obtain ⟨k2, hk3, hr2⟩ := hrd
  obtain ⟨d0, d1, d2⟩ := hk3.cells
  have hkm2 := hk3.2
  have HR2 : Hid (_ = m.data.toList.drop k2) := hr2
  clear hr2
  have hb0 : (0 : Int) ≤ (k : Int) := by omega
  have hlt := attrNameP_lt h1
  have hcut := attrNameP_cut h1
  have e2 : (attrNameP r).2.length = m.size - k2 := by
    have : (attrNameP r).2 = m.data.toList.drop k2 := HR2.out
    rw [this]
    simp
  have e1 : r.length = m.size - k := by rw [HR.out]; simp
  rw [e1, e2] at hcut
  rw [e1, e2] at hlt
  have e3 : m.size - k - (m.size - k2) = k2 - k := by omega
  rw [e3, HR.out] at hcut
  have HC : Hid ((attrNameP r).1 = small (List.take (k2 - k) (List.drop k m.data.toList))) := by rw [HR.out]; exact hcut
  have hb1 : (k : Int) ≤ (k2 : Int) := by omega
  clear e1 e2 e3 hcut
  have hb2 : (k2 : Int) ≤ (m.size : Int) := by omega
  clear c0 c1 c2
  go_wp2_with fail
  go_region_with (go_at_call 178; refine (small_any _ _ (by simp; omega)).mono ?_; rintro e w3 ⟨rfl, hk4⟩)
  all_goals
    go_wp2_with fail
    go_ret
    refine ⟨ret_str HC.out.symm, ?_, ?_⟩
    · exact Rd.kept ⟨k2, hk3.drewN _, HR2.out⟩ hk4 (by simp)
    · exact ((hk1.trans hk2).drewN _).trans (hk4.mono (by simp))
end Go.Proofs.YtlpmjpmefdpcmaaGreatDoor
