import Derived.Test.YtlpmjpmefdpcmaaGreatDoorQWb
import Derived.Deep.RegionWith
namespace Go.Proofs.YtlpmjpmefdpcmaaGreatDoor
open Go.RowKit Scrub
/-- The package variables that the road reads: the signs' table; the search's own bound. -/
def Glob (w : World) : Prop :=
  (∃ mx, w.cell? ⟨1, 0, none⟩ = some (.int .i64 mx)) ∧
  w.cell? ⟨0, 0, none⟩ = some (.string ⟨#[38, 97, 109, 112, 59]⟩) ∧ w.cell? ⟨0, 1, none⟩ = some (.int .u8 38) ∧
  w.cell? ⟨0, 2, none⟩ = some (.string ⟨#[38, 108, 116, 59]⟩) ∧ w.cell? ⟨0, 3, none⟩ = some (.int .u8 60) ∧
  w.cell? ⟨0, 4, none⟩ = some (.string ⟨#[38, 103, 116, 59]⟩) ∧ w.cell? ⟨0, 5, none⟩ = some (.int .u8 62) ∧
  w.cell? ⟨0, 6, none⟩ = some (.string ⟨#[38, 113, 117, 111, 116, 59]⟩) ∧ w.cell? ⟨0, 7, none⟩ = some (.int .u8 34)
set_option maxHeartbeats 1000000 in
theorem firstRead_any (s : ByteArray) (w : World) (h0 : s.data.toList ≠ []) (hg : Glob w) :
    Calls Tryz.prog 220 #[.string s] w fun e w' => e = .returned (.tuple #[.int .u8 ((sign1 s.data.toList).1.toNat : Int), .int .i64 ((sign1 s.data.toList).2 : Int)]) ∧ Kept [] w w' := by
  obtain ⟨_, c0, c1, c2, c3, c4, c5, c6, c7⟩ := hg
  have hs : 0 < s.size := by
    have : s.data.toList.length ≠ 0 := fun e => h0 (List.eq_nil_of_length_eq_zero e)
    simp at this
    exact Nat.pos_of_ne_zero (fun e => this (ByteArray.size_eq_zero_iff.1 e))
  go_enter Tryz.func220, Tryz.ntmps220
  have i0 : ∀ w, (Instr.index 212 (.agg #[.string ⟨#[38, 97, 109, 112, 59]⟩, .int .u8 38, .string ⟨#[38, 108, 116, 59]⟩, .int .u8 60, .string ⟨#[38, 103, 116, 59]⟩, .int .u8 62, .string ⟨#[38, 113, 117, 111, 116, 59]⟩, .int .u8 34]) (.int .i64 0)).run Tryz.prog w = .ok (.agg #[.string ⟨#[38, 97, 109, 112, 59]⟩, .int .u8 38]) w := fun _ => by kernel_rfl
  have i1 : ∀ w, (Instr.index 212 (.agg #[.string ⟨#[38, 97, 109, 112, 59]⟩, .int .u8 38, .string ⟨#[38, 108, 116, 59]⟩, .int .u8 60, .string ⟨#[38, 103, 116, 59]⟩, .int .u8 62, .string ⟨#[38, 113, 117, 111, 116, 59]⟩, .int .u8 34]) (.int .i64 1)).run Tryz.prog w = .ok (.agg #[.string ⟨#[38, 108, 116, 59]⟩, .int .u8 60]) w := fun _ => by kernel_rfl
  have i2 : ∀ w, (Instr.index 212 (.agg #[.string ⟨#[38, 97, 109, 112, 59]⟩, .int .u8 38, .string ⟨#[38, 108, 116, 59]⟩, .int .u8 60, .string ⟨#[38, 103, 116, 59]⟩, .int .u8 62, .string ⟨#[38, 113, 117, 111, 116, 59]⟩, .int .u8 34]) (.int .i64 2)).run Tryz.prog w = .ok (.agg #[.string ⟨#[38, 103, 116, 59]⟩, .int .u8 62]) w := fun _ => by kernel_rfl
  have i3 : ∀ w, (Instr.index 212 (.agg #[.string ⟨#[38, 97, 109, 112, 59]⟩, .int .u8 38, .string ⟨#[38, 108, 116, 59]⟩, .int .u8 60, .string ⟨#[38, 103, 116, 59]⟩, .int .u8 62, .string ⟨#[38, 113, 117, 111, 116, 59]⟩, .int .u8 34]) (.int .i64 3)).run Tryz.prog w = .ok (.agg #[.string ⟨#[38, 113, 117, 111, 116, 59]⟩, .int .u8 34]) w := fun _ => by kernel_rfl
  go_wp2
  go_loopg [7] 4 (fun g i wr => ∃ k : Nat, k ≤ 4 ∧ g = 4 - k ∧ i = .int .i64 (k : Int) ∧ Kept [] w wr ∧ NoSign k s.data.toList)
  case atStart => exact ⟨0, by omega, by omega, rfl, Kept.refl _ _, NoSign.zero _⟩
  case round =>
    obtain ⟨k, hk, hg, rfl, hkept, hno⟩ := hrel
    have HG : Hid (gk = 4 - k) := hg
    clear hg c0 c1 c2 c3 c4 c5 c6 c7
    have hcase : k = 0 ∨ k = 1 ∨ k = 2 ∨ k = 3 ∨ k = 4 := by omega
    rcases hcase with rfl | rfl | rfl | rfl | rfl
    · cases hp : Lib.hasPrefix s.data.toList [38, 97, 109, 112, 59] with
      | true =>
        go_wp2_with (go_at_call 175; refine (Tryz.strings_HasPrefix _ _ _).mono ?_; rintro e w' ⟨rfl, rfl⟩)
        go_quiet (fail)
        go_wp2
        go_ret2
        rw [sign1_amp hp]
        exact ⟨rfl, (hkept.alloc _).drewN _⟩
      | false =>
        go_wp2_with (go_at_call 175; refine (Tryz.strings_HasPrefix _ _ _).mono ?_; rintro e w' ⟨rfl, rfl⟩)
        go_roundg 3
        case measure => rw [HG.out]; omega
        case rel => exact ⟨1, by omega, by omega, rfl, hkept.alloc _, hno.s1 hp⟩
    · cases hp : Lib.hasPrefix s.data.toList [38, 108, 116, 59] with
      | true =>
        go_wp2_with (go_at_call 175; refine (Tryz.strings_HasPrefix _ _ _).mono ?_; rintro e w' ⟨rfl, rfl⟩)
        go_quiet (fail)
        go_wp2
        go_ret2
        rw [sign1_lt hno hp]
        exact ⟨rfl, (hkept.alloc _).drewN _⟩
      | false =>
        go_wp2_with (go_at_call 175; refine (Tryz.strings_HasPrefix _ _ _).mono ?_; rintro e w' ⟨rfl, rfl⟩)
        go_roundg 2
        case measure => rw [HG.out]; omega
        case rel => exact ⟨2, by omega, by omega, rfl, hkept.alloc _, hno.s2 hp⟩
    · cases hp : Lib.hasPrefix s.data.toList [38, 103, 116, 59] with
      | true =>
        go_wp2_with (go_at_call 175; refine (Tryz.strings_HasPrefix _ _ _).mono ?_; rintro e w' ⟨rfl, rfl⟩)
        go_quiet (fail)
        go_wp2
        go_ret2
        rw [sign1_gt hno hp]
        exact ⟨rfl, (hkept.alloc _).drewN _⟩
      | false =>
        go_wp2_with (go_at_call 175; refine (Tryz.strings_HasPrefix _ _ _).mono ?_; rintro e w' ⟨rfl, rfl⟩)
        go_roundg 1
        case measure => rw [HG.out]; omega
        case rel => exact ⟨3, by omega, by omega, rfl, hkept.alloc _, hno.s3 hp⟩
    · cases hp : Lib.hasPrefix s.data.toList [38, 113, 117, 111, 116, 59] with
      | true =>
        go_wp2_with (go_at_call 175; refine (Tryz.strings_HasPrefix _ _ _).mono ?_; rintro e w' ⟨rfl, rfl⟩)
        go_quiet (fail)
        go_wp2
        go_ret2
        rw [sign1_quot hno hp]
        exact ⟨rfl, (hkept.alloc _).drewN _⟩
      | false =>
        go_wp2_with (go_at_call 175; refine (Tryz.strings_HasPrefix _ _ _).mono ?_; rintro e w' ⟨rfl, rfl⟩)
        go_roundg 0
        case measure => rw [HG.out]; omega
        case rel => exact ⟨4, by omega, by omega, rfl, hkept.alloc _, hno.s4 hp⟩
    · go_wp2
      go_ret2
      rw [sign1_none hno]
      refine ⟨?_, hkept⟩
      have e : s.data.toList.headD 0 = s[0] := by
        have := drop_get (m := s) (k := 0) hs
        simp only [List.drop_zero] at this
        rw [this]
        rfl
      rw [e]
      rfl
theorem Glob.kept {S : List Nat} {w w' : World} (h : Glob w) (hk : Kept S w w') (h0 : 1 ∉ S) (h1 : 0 ∉ S) : Glob w' := by
  obtain ⟨⟨mx, g⟩, c0, c1, c2, c3, c4, c5, c6, c7⟩ := h
  have l0 := World.block_lt_of_cell? _ _ g
  have l1 := World.block_lt_of_cell? _ _ c0
  have e1 : ∀ o, w'.cell? ⟨0, o, none⟩ = w.cell? ⟨0, o, none⟩ := fun o => hk.cell (p := ⟨0, o, none⟩) l1 h1
  refine ⟨⟨mx, (hk.cell (p := ⟨1, 0, none⟩) l0 h0).trans g⟩, ?_⟩
  simp only [e1]
  exact ⟨c0, c1, c2, c3, c4, c5, c6, c7⟩
theorem Glob.drewN {w : World} (h : Glob w) (n : Nat) : Glob (w.drewN n) := h
theorem Glob.lt {w : World} (h : Glob w) : 1 < w.heap.size ∧ 0 < w.heap.size := by
  obtain ⟨⟨mx, g⟩, c0, _⟩ := h
  exact ⟨World.block_lt_of_cell? _ _ g, World.block_lt_of_cell? _ _ c0⟩
theorem isBuilder_kept {T e : TypeId} {B b : Nat} {bs : List Value} {w w' : World} (h : Lib.IsBuilder T e B b bs w) (hk : Kept [] w w') : Lib.IsBuilder T e B b bs w' := by
  have key : ∀ p, Lib.BuilderAt T e B b p bs w → Lib.BuilderAt T e B b p bs w' := by
    rintro p ⟨hB, v, hb, hown, hne⟩
    exact ⟨hB, v, by rw [hk.block b (Array.getElem?_eq_some_iff.1 hb).1 (by simp)]; exact hb, ownsRow_kept hown hk (by simp), hne⟩
  rcases h with h | h
  · exact .inl (key _ h)
  · exact .inr (key _ h)
theorem byteCells_snoc (l : List UInt8) (c : UInt8) : Lib.byteCells l ++ [.int .u8 (c.toNat : Int)] = Lib.byteCells (l ++ [c]) := by simp [Lib.byteCells]
set_option maxHeartbeats 1000000 in
theorem readSigns_any (s : ByteArray) (w : World) (hs : s.size ≤ 1099511627776) (hg : Glob w) :
    Calls Tryz.prog 187 #[.string s] w fun e w' => e = .returned (.string ⟨(signs s.data.toList).toArray⟩) ∧ Kept [] w w' := by
  go_enter Tryz.func187, Tryz.ntmps187
  go_wp2
  go_loopg [0] s.size (fun g x wr => ∃ t : ByteArray, ∃ out : List UInt8, g = t.size ∧ x = .string t ∧ Kept [] w wr ∧ w.heap.size ≤ wr.heap.size ∧ out.length + t.size ≤ s.size ∧ signs s.data.toList = out ++ signs t.data.toList ∧ Lib.IsBuilder 98 5 w.heap.size w.heap.size (Lib.byteCells out) wr)
  case atStart => exact ⟨s, [], rfl, rfl, (Kept.refl _ _).alloc _, by simp, by simp, by simp, .inl ⟨Nat.le_refl _, _, heap_alloc_new w _, World.ownsRow_nil _ _ _ _, by simp [Value.ownBlock]⟩⟩
  case round =>
    obtain ⟨t, out, hgk, rfl, hkept, hsz, hlen, hsig, hbd⟩ := hrel
    have HG : Hid (gk = t.size) := hgk
    have HS : Hid (signs s.data.toList = out ++ signs t.data.toList) := hsig
    clear hgk hsig
    by_cases hpos : 0 < t.size
    · have ht : t.data.toList ≠ [] := by
        intro e
        have : t.data.toList.length = 0 := by rw [e]; rfl
        simp at this
        subst this
        simp at hpos
      have h1 := sign1_pos t.data.toList
      have h2 := sign1_le t.data.toList ht
      have HC := signs_cons t.data.toList ht
      have h3 : t.data.toList.length = t.size := by simp
      rw [h3] at h2
      clear h3
      generalize hsg : sign1 t.data.toList = sg at *
      have HSG : Hid (sign1 t.data.toList = sg) := hsg
      have HCC : Hid (signs t.data.toList = sg.fst :: signs (List.drop sg.snd t.data.toList)) := HC
      clear hsg HC
      go_wp2_with fail
      refine (firstRead_any t _ ht (hg.kept hkept (by simp) (by simp))).mono ?_
      rintro e w1 ⟨rfl, hk1⟩
      rw [HSG.out]
      have hbd1 := isBuilder_kept hbd hk1
      have hz1 := hk1.size
      go_wp2_with fail
      refine (Tryz.writeByte w.heap.size w.heap.size (Lib.byteCells out) _ w1 hbd1 (by simp [Lib.byteCells]; omega) (by omega)).mono ?_
      rintro e w2 ⟨rfl, hb2, hbl2⟩
      go_wp2_with fail
      go_roundg (t.size - sg.snd)
      case measure => rw [HG.out]; omega
      case rel =>
        have he : (t.extract sg.snd t.size).data.toList = List.drop sg.snd t.data.toList := by simp [List.take_of_length_le]
        refine ⟨t.extract sg.snd t.size, out ++ [sg.fst], by simp, rfl, (hkept.trans hk1).trans_below hbl2, by have := hbl2.size; omega, by simp; omega, ?_, ?_⟩
        · rw [HS.out, HCC.out, he]; simp
        · rw [← byteCells_snoc]; exact .inr hb2
    · have ht : t.data.toList = [] := by
        apply List.eq_nil_of_length_eq_zero
        simp
        have : t.size = 0 := by omega
        exact ByteArray.size_eq_zero_iff.1 this
      have hout : Hid (signs s.data.toList = out) := by show _ = _; rw [HS.out, ht]; simp [signs_nil]
      clear ht
      go_wp2_with fail
      refine (Tryz.Builder_String_any w.heap.size w.heap.size out _ hbd hsz).mono ?_
      rintro e w1 ⟨rfl, hbl⟩
      go_wp2_with fail
      go_ret
      rw [hout.out]
      exact ⟨rfl, hkept.trans_below hbl⟩
end Go.Proofs.YtlpmjpmefdpcmaaGreatDoor
namespace Go.Proofs.YtlpmjpmefdpcmaaGreatDoor
open Go.RowKit Scrub
set_option maxHeartbeats 1000000 in
theorem small_any (s : ByteArray) (w : World) (hs : s.size ≤ 1099511627776) :
    Calls Tryz.prog 178 #[.string s] w fun e w' => e = .returned (.string ⟨(small s.data.toList).toArray⟩) ∧ Kept [] w w' := by
  obtain ⟨cap, w1, hcv, hk1, hb1⟩ := conv_bytes (P := Tryz.prog) w 9 60 5 s Tryz.underlying9 Tryz.underlying60 Tryz.underlying5
  go_enter Tryz.func178, Tryz.ntmps178
  go_wp2
  go_loopg [10] s.size (fun g x wr => ∃ k : Nat, k ≤ s.size ∧ g = s.size - k ∧ x = .int .i64 (k : Int) ∧ Kept [] w wr ∧ BytesAt wr w.heap.size (smallRow s.data.toList k))
  case atStart => exact ⟨0, by omega, by omega, rfl, hk1, by rw [smallRow_zero]; exact hb1⟩
  case round =>
    obtain ⟨k, hk, hg, rfl, hkept, hba⟩ := hrel
    have HG : Hid (gk = s.size - k) := hg
    clear hg hcv hb1
    by_cases hlt : k < s.size
    · have hlt' : k < s.data.toList.length := by simpa using hlt
      have hll : k < (smallRow s.data.toList k).length := by rw [smallRow_length _ _ (Nat.le_of_lt hlt')]; exact hlt'
      obtain ⟨hc1, hf1⟩ := hba k hll
      rw [smallRow_get _ _ hlt' hll] at hc1
      have hc2 : wr.cell? ⟨w.heap.size, k, none⟩ = some (.int .u8 (s[k].toNat : Int)) := hc1
      clear hc1
      go_wp2_with fail
      refine (smallByte_any s[k] _).mono ?_
      rintro e w2 ⟨rfl, rfl⟩
      go_wp2_with fail
      go_roundg (s.size - (k + 1))
      case measure => rw [HG.out]; omega
      case rel =>
        refine ⟨k + 1, by omega, rfl, by go_num, hkept.setCell (by simp) _, ?_⟩
        rw [← smallRow_set _ _ hlt']
        exact hba.set k (smallB s[k]) hll
    · have hback := conv_back (P := Tryz.prog) wr 60 9 5 w.heap.size cap s.size (smallRow s.data.toList k) (by rw [smallRow_length _ _ (by simpa using hk)]; simp) Tryz.underlying60 Tryz.underlying5 Tryz.underlying9 hba
      rw [smallRow_all _ _ (by simp; omega)] at hback
      go_wp2_with fail
      go_ret
      exact ⟨rfl, hkept⟩
end Go.Proofs.YtlpmjpmefdpcmaaGreatDoor
namespace Go.Proofs.YtlpmjpmefdpcmaaGreatDoor
open Go.RowKit Scrub
theorem begins_close {t : ByteArray} {n : Int} (h : n = beginsP t.data.toList) : Ending.returned (.int .i64 n) = .returned (.int .i64 (beginsP t.data.toList)) := by rw [h]
set_option maxHeartbeats 1000000 in
theorem begins_any (rb : Nat) (m : ByteArray) (r : List UInt8) (w : World) (h : Rd w rb m r) (h0 : r ≠ []) :
    Calls Tryz.prog 111 #[.pointer (some ⟨rb, 0, none⟩)] w fun e w' => e = .returned (.int .i64 (beginsP r)) ∧ ∃ n, w' = w.drewN n := by
  go_enter Tryz.func111, Tryz.ntmps111
  go_wp2_with fail
  refine (rest_any rb m r _ h).mono ?_
  rintro e w' ⟨⟨t, rfl, ht⟩, n, rfl⟩
  have hts : 0 < t.size := by
    have h1 : t.data.toList.length = t.size := by simp
    rw [ht] at h1
    cases r with
    | nil => exact absurd rfl h0
    | cons a l => simp at h1; omega
  subst ht
  clear h h0
  go_wp2_with (first | (go_at_call 175; refine (Tryz.strings_HasPrefix _ _ _).mono ?_; rintro e w' ⟨rfl, rfl⟩) | (go_at_call 176; refine (isLetter_any _ _).mono ?_; rintro e w' ⟨rfl, rfl⟩))
  all_goals go_ret
  all_goals refine ⟨begins_close ?_, _, rfl⟩
  · exact begins_w1 hts ‹_›
  · exact begins_w2 hts ‹_› ‹_›
  · exact begins_w3 hts ‹_› ‹_› (by omega) ‹_›
  · rw [begins_w4 hts ‹_› ‹_› (by omega) ‹_› (by omega), if_pos ⟨by omega, ‹_›⟩]
  · rw [begins_w4 hts ‹_› ‹_› (by omega) ‹_› (by omega), if_neg (by simp [*])]
  · rw [begins_w4 hts ‹_› ‹_› (by omega) ‹_› (by omega), if_neg (by omega)]
  · exact begins_w5 hts ‹_› ‹_› (fun _ => ‹_›) (by omega)
  · exact begins_w5 hts ‹_› ‹_› (fun h => by omega) (by omega)
/-- How far a cut leaves the reader. -/
theorem cut_drop (l sep : List UInt8) : (Lib.cut l sep).2.1 = l.drop (l.length - (Lib.cut l sep).2.1.length) := by
  unfold Lib.cut
  split
  · simp only [List.length_drop]
    congr 1
    have := Lib.index_room l sep ‹_›
    omega
  · simp
theorem cut_le (l sep : List UInt8) : (Lib.cut l sep).2.1.length ≤ l.length := by
  unfold Lib.cut
  split
  · simp
  · simp
set_option maxHeartbeats 1000000 in
theorem passTo_any (rb : Nat) (m sep : ByteArray) (r : List UInt8) (w : World) (h : Rd w rb m r) (hm : m.size < 4294967281) (hg : Glob w) :
    Calls Tryz.prog 177 #[.pointer (some ⟨rb, 0, none⟩), .string sep] w
      fun e w' => e = .returned (.tuple #[.string ⟨(Lib.cut r sep.data.toList).1.toArray⟩, .bool (Lib.cut r sep.data.toList).2.2]) ∧ Rd w' rb m (Lib.cut r sep.data.toList).2.1 ∧ Kept [rb] w w' := by
  obtain ⟨⟨mx, hmx⟩, _⟩ := hg
  have HRd := h
  obtain ⟨k, hk, hr⟩ := h
  have hkm := hk.2
  have HR : Hid (r = m.data.toList.drop k) := hr
  clear hr
  go_enter Tryz.func177, Tryz.ntmps177
  go_wp2_with fail
  refine (rest_any rb m r _ HRd).mono ?_
  rintro e w1 ⟨⟨t, rfl, ht⟩, n, rfl⟩
  have hts : t.size ≤ m.size := by
    have h1 : t.data.toList.length = t.size := by simp
    rw [ht, HR.out] at h1
    simp at h1
    omega
  go_wp2_with fail
  refine (Tryz.strings_Cut t sep mx _ (by omega) (by exact hmx)).mono ?_
  rintro e w2 ⟨rfl, n2, rfl⟩
  rw [ht]
  have hle := cut_le r sep.data.toList
  have hdr := cut_drop r sep.data.toList
  generalize hc : Lib.cut r sep.data.toList = c at *
  have HC : Hid (Lib.cut r sep.data.toList = c) := hc
  clear hc
  have HD : Hid (c.2.1 = r.drop (r.length - c.2.1.length)) := hdr
  clear hdr
  have hrl : r.length ≤ m.size := by rw [HR.out]; simp
  obtain ⟨h0, h1, h2⟩ := hk.cells
  go_wp2_with fail
  go_ret2
  rw [HC.out]
  exact ⟨rfl, RdK.setRest (hk.drewN _) HR.out hle HD.out rfl, Kept.setCell ((Kept.refl [rb] _).drewN _) (.inl (List.mem_singleton.2 rfl)) _⟩
theorem prefix_drop {p l : List UInt8} (h : List.isPrefixOf p l = true) : p ++ l.drop p.length = l := by
  obtain ⟨t, rfl⟩ := List.isPrefixOf_iff_prefix.1 h
  simp
set_option maxHeartbeats 1000000 in
theorem passComment_any (rb : Nat) (m : ByteArray) (r : List UInt8) (w : World) (h : Rd w rb m r) (h4 : 4 ≤ r.length) (hm : m.size < 4294967281) (hg : Glob w) (hrb : 1 ∉ [rb] ∧ 0 ∉ [rb]) :
    Calls Tryz.prog 112 #[.pointer (some ⟨rb, 0, none⟩)] w
      fun e w' => e = .returned (.tuple #[]) ∧ Rd w' rb m (Lib.cut (r.drop 4) [45, 45, 62]).2.1 ∧ Kept [rb] w w' := by
  obtain ⟨k, hk, hr⟩ := h
  have hkm := hk.2
  have HR : Hid (r = m.data.toList.drop k) := hr
  have hrl : k + 4 ≤ m.size := by rw [hr] at h4; simp at h4; omega
  clear hr
  obtain ⟨h0, h1, h2⟩ := hk.cells
  go_enter Tryz.func112, Tryz.ntmps112
  go_wp2_with fail
  have hk1 : Kept [rb] w (w.setCell ⟨rb, 1, none⟩ (.int .i64 ((k : Int) + 4))) := (Kept.refl _ _).setCell (by simp) _
  refine (passTo_any rb m _ (r.drop 4) _ ?_ hm (hg.kept hk1 hrb.1 hrb.2)).mono ?_
  · refine ⟨k + 4, hk.set (k' := k + 4) hrl, ?_⟩
    rw [HR.out, List.drop_drop]
  rintro e w2 ⟨rfl, hrd, hk2⟩
  go_wp2_with fail
  go_end0
  exact ⟨rfl, hrd, hk1.trans hk2⟩
end Go.Proofs.YtlpmjpmefdpcmaaGreatDoor
namespace Go.Proofs.YtlpmjpmefdpcmaaGreatDoor
open Go.RowKit Scrub Go.Shelf
set_option maxHeartbeats 400000 in
theorem attrName1_any (c : UInt8) (w : World) :
    Calls Tryz.prog 214 #[.int .u8 (c.toNat : Int)] w fun e w' => e = .returned (.bool (!endsAttrB c)) ∧ w' = w := by
  go_enter Tryz.func214, Tryz.ntmps214
  go_wp2_with (go_at_call 215; refine (endsAttrName_any _ _).mono ?_; rintro e w' ⟨rfl, rfl⟩)
  go_ret
  exact ⟨rfl, rfl⟩
set_option maxHeartbeats 400000 in
theorem value1_any (c : UInt8) (w : World) :
    Calls Tryz.prog 216 #[.int .u8 (c.toNat : Int)] w fun e w' => e = .returned (.bool (!endsValueB c)) ∧ w' = w := by
  go_enter Tryz.func216, Tryz.ntmps216
  go_wp2_with (go_at_call 217; refine (endsValue_any _ _).mono ?_; rintro e w' ⟨rfl, rfl⟩)
  go_ret
  exact ⟨rfl, rfl⟩
theorem enters_attrName1 (args : Array Value) (w : World) : (callFunc 214 args).run Tryz.prog w = .ok (.enter 214 args) w := enters_of Tryz.func214 (by kernel_rfl) rfl args w
theorem enters_value1 (args : Array Value) (w : World) : (callFunc 216 args).run Tryz.prog w = .ok (.enter 216 args) w := enters_of Tryz.func216 (by kernel_rfl) rfl args w
theorem enters_isNameByte (args : Array Value) (w : World) : (callFunc 180 args).run Tryz.prog w = .ok (.enter 180 args) w := enters_of Tryz.func180 (by kernel_rfl) rfl args w
theorem enters_isBlank (args : Array Value) (w : World) : (callFunc 183 args).run Tryz.prog w = .ok (.enter 183 args) w := enters_of Tryz.func183 (by kernel_rfl) rfl args w
theorem enters_isBlankOrSlash (args : Array Value) (w : World) : (callFunc 181 args).run Tryz.prog w = .ok (.enter 181 args) w := enters_of Tryz.func181 (by kernel_rfl) rfl args w
theorem ret_str {a b : List UInt8} (h : a = b) : Ending.returned (.string ⟨a.toArray⟩) = .returned (.string ⟨b.toArray⟩) := by rw [h]
theorem ret_ext {t : ByteArray} {l : List UInt8} (h : t.data.toList = l) : Ending.returned (.string t) = .returned (.string ⟨l.toArray⟩) := by
  subst h
  cases t
  simp
set_option maxHeartbeats 1000000 in
theorem attrName_any (rb : Nat) (m : ByteArray) (r : List UInt8) (w : World) (h : Rd w rb m r) (h1 : r ≠ []) (hm : m.size ≤ 1099511627776) :
    Calls Tryz.prog 182 #[.pointer (some ⟨rb, 0, none⟩)] w
      fun e w' => e = .returned (.string ⟨(attrNameP r).1.toArray⟩) ∧ Rd w' rb m (attrNameP r).2 ∧ Kept [rb] w w' := by
  obtain ⟨k, hk, hr⟩ := h
  have hkm := hk.2
  have HR : Hid (r = m.data.toList.drop k) := hr
  have hrl : k + 1 ≤ m.size := by
    have : r.length ≠ 0 := fun e => h1 (List.eq_nil_of_length_eq_zero e)
    rw [hr] at this
    simp at this
    omega
  clear hr
  obtain ⟨c0, c1, c2⟩ := hk.cells
  go_enter Tryz.func182, Tryz.ntmps182
  go_wp2_with fail
  have hk1 : Kept [rb] w (w.setCell ⟨rb, 1, none⟩ (.int .i64 ((k : Int) + 1))) := (Kept.refl _ _).setCell (by simp) _
  refine (pass_any rb m (r.drop 1) _ (fun c => !endsAttrB c) _ ?_ (by unfold maxLen; omega) enters_attrName1 attrName1_any).mono ?_
  · refine ⟨k + 1, hk.set (k' := k + 1) hrl, ?_⟩
    rw [HR.out, List.drop_drop]
  rintro e w2 ⟨⟨t, rfl, ht⟩, hrd, hk2⟩
  obtain ⟨k2, hk3, hr2⟩ := hrd
  obtain ⟨d0, d1, d2⟩ := hk3.cells
  have hkm2 := hk3.2
  have HR2 : Hid (_ = m.data.toList.drop k2) := hr2
  clear hr2
  have hb0 : (0 : Int) ≤ (k : Int) := by omega
  have hlt := attrNameP_lt h1
  have hcut := attrNameP_cut h1
  have e2 : (attrNameP r).2.length = m.size - k2 := by
    have : (attrNameP r).2 = m.data.toList.drop k2 := HR2.out
    rw [this]
    simp
  have e1 : r.length = m.size - k := by rw [HR.out]; simp
  rw [e1, e2] at hcut
  rw [e1, e2] at hlt
  have e3 : m.size - k - (m.size - k2) = k2 - k := by omega
  rw [e3, HR.out] at hcut
  have HC : Hid ((attrNameP r).1 = small (List.take (k2 - k) (List.drop k m.data.toList))) := by rw [HR.out]; exact hcut
  have hb1 : (k : Int) ≤ (k2 : Int) := by omega
  clear e1 e2 e3 hcut
  have hb2 : (k2 : Int) ≤ (m.size : Int) := by omega
  clear c0 c1 c2
  go_wp2_with fail
  go_region_with (go_at_call 178; refine (small_any _ _ (by simp; omega)).mono ?_; rintro e w3 ⟨rfl, hk4⟩)
  all_goals
    go_wp2_with fail
    go_ret
    refine ⟨ret_str HC.out.symm, ?_, ?_⟩
    · exact Rd.kept ⟨k2, hk3.drewN _, HR2.out⟩ hk4 (by simp)
    · exact ((hk1.trans hk2).drewN _).trans (hk4.mono (by simp))
end Go.Proofs.YtlpmjpmefdpcmaaGreatDoor
