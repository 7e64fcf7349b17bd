import Derived.Test.YtlpmjpmefdpcmaaGreatDoorQReader
import Derived.Test.YtlpmjpmefdpcmaaGreatDoorQWs
namespace Go.Proofs.YtlpmjpmefdpcmaaGreatDoor
open Go.RowKit Scrub
/-- The package variables that the road reads: the signs' table; the search's own bound. -/
def Glob (w : World) : Prop :=
  (∃ mx, w.cell? ⟨1, 0, none⟩ = some (.int .i64 mx)) ∧
  w.cell? ⟨0, 0, none⟩ = some (.string ⟨#[38, 97, 109, 112, 59]⟩) ∧ w.cell? ⟨0, 1, none⟩ = some (.int .u8 38) ∧
  w.cell? ⟨0, 2, none⟩ = some (.string ⟨#[38, 108, 116, 59]⟩) ∧ w.cell? ⟨0, 3, none⟩ = some (.int .u8 60) ∧
  w.cell? ⟨0, 4, none⟩ = some (.string ⟨#[38, 103, 116, 59]⟩) ∧ w.cell? ⟨0, 5, none⟩ = some (.int .u8 62) ∧
  w.cell? ⟨0, 6, none⟩ = some (.string ⟨#[38, 113, 117, 111, 116, 59]⟩) ∧ w.cell? ⟨0, 7, none⟩ = some (.int .u8 34)
set_option maxHeartbeats 1000000 in
theorem firstRead_any (s : ByteArray) (w : World) (h0 : s.data.toList ≠ []) (hg : Glob w) :
    Calls Tryz.prog 220 #[.string s] w fun e w' => e = .returned (.tuple #[.int .u8 ((sign1 s.data.toList).1.toNat : Int), .int .i64 ((sign1 s.data.toList).2 : Int)]) ∧ Kept [] w w' := by
  obtain ⟨_, c0, c1, c2, c3, c4, c5, c6, c7⟩ := hg
  have hs : 0 < s.size := by
    have : s.data.toList.length ≠ 0 := fun e => h0 (List.eq_nil_of_length_eq_zero e)
    simp at this
    exact Nat.pos_of_ne_zero (fun e => this (ByteArray.size_eq_zero_iff.1 e))
  go_enter Tryz.func220, Tryz.ntmps220
  have i0 : ∀ w, (Instr.index 212 (.agg #[.string ⟨#[38, 97, 109, 112, 59]⟩, .int .u8 38, .string ⟨#[38, 108, 116, 59]⟩, .int .u8 60, .string ⟨#[38, 103, 116, 59]⟩, .int .u8 62, .string ⟨#[38, 113, 117, 111, 116, 59]⟩, .int .u8 34]) (.int .i64 0)).run Tryz.prog w = .ok (.agg #[.string ⟨#[38, 97, 109, 112, 59]⟩, .int .u8 38]) w := fun _ => by kernel_rfl
  have i1 : ∀ w, (Instr.index 212 (.agg #[.string ⟨#[38, 97, 109, 112, 59]⟩, .int .u8 38, .string ⟨#[38, 108, 116, 59]⟩, .int .u8 60, .string ⟨#[38, 103, 116, 59]⟩, .int .u8 62, .string ⟨#[38, 113, 117, 111, 116, 59]⟩, .int .u8 34]) (.int .i64 1)).run Tryz.prog w = .ok (.agg #[.string ⟨#[38, 108, 116, 59]⟩, .int .u8 60]) w := fun _ => by kernel_rfl
  have i2 : ∀ w, (Instr.index 212 (.agg #[.string ⟨#[38, 97, 109, 112, 59]⟩, .int .u8 38, .string ⟨#[38, 108, 116, 59]⟩, .int .u8 60, .string ⟨#[38, 103, 116, 59]⟩, .int .u8 62, .string ⟨#[38, 113, 117, 111, 116, 59]⟩, .int .u8 34]) (.int .i64 2)).run Tryz.prog w = .ok (.agg #[.string ⟨#[38, 103, 116, 59]⟩, .int .u8 62]) w := fun _ => by kernel_rfl
  have i3 : ∀ w, (Instr.index 212 (.agg #[.string ⟨#[38, 97, 109, 112, 59]⟩, .int .u8 38, .string ⟨#[38, 108, 116, 59]⟩, .int .u8 60, .string ⟨#[38, 103, 116, 59]⟩, .int .u8 62, .string ⟨#[38, 113, 117, 111, 116, 59]⟩, .int .u8 34]) (.int .i64 3)).run Tryz.prog w = .ok (.agg #[.string ⟨#[38, 113, 117, 111, 116, 59]⟩, .int .u8 34]) w := fun _ => by kernel_rfl
  go_wp2
  go_loopg [7] 4 (fun g i wr => ∃ k : Nat, k ≤ 4 ∧ g = 4 - k ∧ i = .int .i64 (k : Int) ∧ Kept [] w wr ∧ NoSign k s.data.toList)
  case atStart => exact ⟨0, by omega, by omega, rfl, Kept.refl _ _, NoSign.zero _⟩
  case round =>
    obtain ⟨k, hk, hg, rfl, hkept, hno⟩ := hrel
    have HG : Hid (gk = 4 - k) := hg
    clear hg c0 c1 c2 c3 c4 c5 c6 c7
    have hcase : k = 0 ∨ k = 1 ∨ k = 2 ∨ k = 3 ∨ k = 4 := by omega
    rcases hcase with rfl | rfl | rfl | rfl | rfl
    · cases hp : Lib.hasPrefix s.data.toList [38, 97, 109, 112, 59] with
      | true =>
        go_wp2_with (go_at_call 175; refine (Tryz.strings_HasPrefix _ _ _).mono ?_; rintro e w' ⟨rfl, rfl⟩)
        go_quiet (fail)
        go_wp2
        go_ret2
        rw [sign1_amp hp]
        exact ⟨rfl, (hkept.alloc _).drewN _⟩
      | false =>
        go_wp2_with (go_at_call 175; refine (Tryz.strings_HasPrefix _ _ _).mono ?_; rintro e w' ⟨rfl, rfl⟩)
        go_roundg 3
        case measure => rw [HG.out]; omega
        case rel => exact ⟨1, by omega, by omega, rfl, hkept.alloc _, hno.s1 hp⟩
    · cases hp : Lib.hasPrefix s.data.toList [38, 108, 116, 59] with
      | true =>
        go_wp2_with (go_at_call 175; refine (Tryz.strings_HasPrefix _ _ _).mono ?_; rintro e w' ⟨rfl, rfl⟩)
        go_quiet (fail)
        go_wp2
        go_ret2
        rw [sign1_lt hno hp]
        exact ⟨rfl, (hkept.alloc _).drewN _⟩
      | false =>
        go_wp2_with (go_at_call 175; refine (Tryz.strings_HasPrefix _ _ _).mono ?_; rintro e w' ⟨rfl, rfl⟩)
        go_roundg 2
        case measure => rw [HG.out]; omega
        case rel => exact ⟨2, by omega, by omega, rfl, hkept.alloc _, hno.s2 hp⟩
    · cases hp : Lib.hasPrefix s.data.toList [38, 103, 116, 59] with
      | true =>
        go_wp2_with (go_at_call 175; refine (Tryz.strings_HasPrefix _ _ _).mono ?_; rintro e w' ⟨rfl, rfl⟩)
        go_quiet (fail)
        go_wp2
        go_ret2
        rw [sign1_gt hno hp]
        exact ⟨rfl, (hkept.alloc _).drewN _⟩
      | false =>
        go_wp2_with (go_at_call 175; refine (Tryz.strings_HasPrefix _ _ _).mono ?_; rintro e w' ⟨rfl, rfl⟩)
        go_roundg 1
        case measure => rw [HG.out]; omega
        case rel => exact ⟨3, by omega, by omega, rfl, hkept.alloc _, hno.s3 hp⟩
    · cases hp : Lib.hasPrefix s.data.toList [38, 113, 117, 111, 116, 59] with
      | true =>
        go_wp2_with (go_at_call 175; refine (Tryz.strings_HasPrefix _ _ _).mono ?_; rintro e w' ⟨rfl, rfl⟩)
        go_quiet (fail)
        go_wp2
        go_ret2
        rw [sign1_quot hno hp]
        exact ⟨rfl, (hkept.alloc _).drewN _⟩
      | false =>
        go_wp2_with (go_at_call 175; refine (Tryz.strings_HasPrefix _ _ _).mono ?_; rintro e w' ⟨rfl, rfl⟩)
        go_roundg 0
        case measure => rw [HG.out]; omega
        case rel => exact ⟨4, by omega, by omega, rfl, hkept.alloc _, hno.s4 hp⟩
    · go_wp2
      go_ret2
      rw [sign1_none hno]
      refine ⟨?_, hkept⟩
      have e : s.data.toList.headD 0 = s[0] := by
        have := drop_get (m := s) (k := 0) hs
        simp only [List.drop_zero] at this
        rw [this]
        rfl
      rw [e]
      rfl
theorem Glob.kept {S : List Nat} {w w' : World} (h : Glob w) (hk : Kept S w w') (h0 : 1 ∉ S) (h1 : 0 ∉ S) : Glob w' := by
  obtain ⟨⟨mx, g⟩, c0, c1, c2, c3, c4, c5, c6, c7⟩ := h
  have l0 := World.block_lt_of_cell? _ _ g
  have l1 := World.block_lt_of_cell? _ _ c0
  have e1 : ∀ o, w'.cell? ⟨0, o, none⟩ = w.cell? ⟨0, o, none⟩ := fun o => hk.cell (p := ⟨0, o, none⟩) l1 h1
  refine ⟨⟨mx, (hk.cell (p := ⟨1, 0, none⟩) l0 h0).trans g⟩, ?_⟩
  simp only [e1]
  exact ⟨c0, c1, c2, c3, c4, c5, c6, c7⟩
theorem Glob.drewN {w : World} (h : Glob w) (n : Nat) : Glob (w.drewN n) := h
theorem Glob.lt {w : World} (h : Glob w) : 1 < w.heap.size ∧ 0 < w.heap.size := by
  obtain ⟨⟨mx, g⟩, c0, _⟩ := h
  exact ⟨World.block_lt_of_cell? _ _ g, World.block_lt_of_cell? _ _ c0⟩
theorem isBuilder_kept {T e : TypeId} {B b : Nat} {bs : List Value} {w w' : World} (h : Lib.IsBuilder T e B b bs w) (hk : Kept [] w w') : Lib.IsBuilder T e B b bs w' := by
  have key : ∀ p, Lib.BuilderAt T e B b p bs w → Lib.BuilderAt T e B b p bs w' := by
    rintro p ⟨hB, v, hb, hown, hne⟩
    exact ⟨hB, v, by rw [hk.block b (Array.getElem?_eq_some_iff.1 hb).1 (by simp)]; exact hb, ownsRow_kept hown hk (by simp), hne⟩
  rcases h with h | h
  · exact .inl (key _ h)
  · exact .inr (key _ h)
theorem byteCells_snoc (l : List UInt8) (c : UInt8) : Lib.byteCells l ++ [.int .u8 (c.toNat : Int)] = Lib.byteCells (l ++ [c]) := by simp [Lib.byteCells]
set_option maxHeartbeats 1000000 in
theorem readSigns_any (s : ByteArray) (w : World) (hs : s.size ≤ 1099511627776) (hg : Glob w) :
    Calls Tryz.prog 187 #[.string s] w fun e w' => e = .returned (.string ⟨(signs s.data.toList).toArray⟩) ∧ Kept [] w w' := by
  go_enter Tryz.func187, Tryz.ntmps187
  go_wp2
  go_loopg [0] s.size (fun g x wr => ∃ t : ByteArray, ∃ out : List UInt8, g = t.size ∧ x = .string t ∧ Kept [] w wr ∧ w.heap.size ≤ wr.heap.size ∧ out.length + t.size ≤ s.size ∧ signs s.data.toList = out ++ signs t.data.toList ∧ Lib.IsBuilder 98 5 w.heap.size w.heap.size (Lib.byteCells out) wr)
  case atStart => exact ⟨s, [], rfl, rfl, (Kept.refl _ _).alloc _, by simp, by simp, by simp, .inl ⟨Nat.le_refl _, _, heap_alloc_new w _, World.ownsRow_nil _ _ _ _, by simp [Value.ownBlock]⟩⟩
  case round =>
    obtain ⟨t, out, hgk, rfl, hkept, hsz, hlen, hsig, hbd⟩ := hrel
    have HG : Hid (gk = t.size) := hgk
    have HS : Hid (signs s.data.toList = out ++ signs t.data.toList) := hsig
    clear hgk hsig
    by_cases hpos : 0 < t.size
    · have ht : t.data.toList ≠ [] := by
        intro e
        have : t.data.toList.length = 0 := by rw [e]; rfl
        simp at this
        subst this
        simp at hpos
      have h1 := sign1_pos t.data.toList
      have h2 := sign1_le t.data.toList ht
      have HC := signs_cons t.data.toList ht
      have h3 : t.data.toList.length = t.size := by simp
      rw [h3] at h2
      clear h3
      generalize hsg : sign1 t.data.toList = sg at *
      have HSG : Hid (sign1 t.data.toList = sg) := hsg
      have HCC : Hid (signs t.data.toList = sg.fst :: signs (List.drop sg.snd t.data.toList)) := HC
      clear hsg HC
      go_wp2_with fail
      refine (firstRead_any t _ ht (hg.kept hkept (by simp) (by simp))).mono ?_
      rintro e w1 ⟨rfl, hk1⟩
      rw [HSG.out]
      have hbd1 := isBuilder_kept hbd hk1
      have hz1 := hk1.size
      go_wp2_with fail
      refine (Tryz.writeByte w.heap.size w.heap.size (Lib.byteCells out) _ w1 hbd1 (by simp [Lib.byteCells]; omega) (by omega)).mono ?_
      rintro e w2 ⟨rfl, hb2, hbl2⟩
      go_wp2_with fail
      go_roundg (t.size - sg.snd)
      case measure => rw [HG.out]; omega
      case rel =>
        have he : (t.extract sg.snd t.size).data.toList = List.drop sg.snd t.data.toList := by simp [List.take_of_length_le]
        refine ⟨t.extract sg.snd t.size, out ++ [sg.fst], by simp, rfl, (hkept.trans hk1).trans_below hbl2, by have := hbl2.size; omega, by simp; omega, ?_, ?_⟩
        · rw [HS.out, HCC.out, he]; simp
        · rw [← byteCells_snoc]; exact .inr hb2
    · have ht : t.data.toList = [] := by
        apply List.eq_nil_of_length_eq_zero
        simp
        have : t.size = 0 := by omega
        exact ByteArray.size_eq_zero_iff.1 this
      have hout : Hid (signs s.data.toList = out) := by show _ = _; rw [HS.out, ht]; simp [signs_nil]
      clear ht
      go_wp2_with fail
      refine (Tryz.Builder_String_any w.heap.size w.heap.size out _ hbd hsz).mono ?_
      rintro e w1 ⟨rfl, hbl⟩
      go_wp2_with fail
      go_ret
      rw [hout.out]
      exact ⟨rfl, hkept.trans_below hbl⟩
end Go.Proofs.YtlpmjpmefdpcmaaGreatDoor
