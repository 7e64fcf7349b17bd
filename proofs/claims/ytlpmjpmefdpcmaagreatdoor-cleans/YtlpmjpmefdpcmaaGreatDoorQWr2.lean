import Derived.Test.YtlpmjpmefdpcmaaGreatDoorQWs
import Derived.Test.YtlpmjpmefdpcmaaGreatDoorQTok2
import Derived.Test.YtlpmjpmefdpcmaaGreatDoorQLies
namespace Go.Proofs.YtlpmjpmefdpcmaaGreatDoor
open Go.RowKit Scrub Go.Shelf
set_option maxHeartbeats 2000000 in
theorem signOf_any (c : UInt8) (w : World) (hg : Glob w) :
    Calls Tryz.prog 166 #[.int .u8 (c.toNat : Int)] w fun e w' => e = .returned (.string ⟨(signOfP c).toArray⟩) ∧ Kept [] w w' := by
  obtain ⟨_, c0, c1, c2, c3, c4, c5, c6, c7⟩ := hg
  have hc := c.toNat_lt
  go_enter Tryz.func166, Tryz.ntmps166
  have i0 : ∀ w, (Instr.index 212 (.agg #[.string ⟨#[38, 97, 109, 112, 59]⟩, .int .u8 38, .string ⟨#[38, 108, 116, 59]⟩, .int .u8 60, .string ⟨#[38, 103, 116, 59]⟩, .int .u8 62, .string ⟨#[38, 113, 117, 111, 116, 59]⟩, .int .u8 34]) (.int .i64 0)).run Tryz.prog w = .ok (.agg #[.string ⟨#[38, 97, 109, 112, 59]⟩, .int .u8 38]) w := fun _ => by kernel_rfl
  have i1 : ∀ w, (Instr.index 212 (.agg #[.string ⟨#[38, 97, 109, 112, 59]⟩, .int .u8 38, .string ⟨#[38, 108, 116, 59]⟩, .int .u8 60, .string ⟨#[38, 103, 116, 59]⟩, .int .u8 62, .string ⟨#[38, 113, 117, 111, 116, 59]⟩, .int .u8 34]) (.int .i64 1)).run Tryz.prog w = .ok (.agg #[.string ⟨#[38, 108, 116, 59]⟩, .int .u8 60]) w := fun _ => by kernel_rfl
  have i2 : ∀ w, (Instr.index 212 (.agg #[.string ⟨#[38, 97, 109, 112, 59]⟩, .int .u8 38, .string ⟨#[38, 108, 116, 59]⟩, .int .u8 60, .string ⟨#[38, 103, 116, 59]⟩, .int .u8 62, .string ⟨#[38, 113, 117, 111, 116, 59]⟩, .int .u8 34]) (.int .i64 2)).run Tryz.prog w = .ok (.agg #[.string ⟨#[38, 103, 116, 59]⟩, .int .u8 62]) w := fun _ => by kernel_rfl
  have i3 : ∀ w, (Instr.index 212 (.agg #[.string ⟨#[38, 97, 109, 112, 59]⟩, .int .u8 38, .string ⟨#[38, 108, 116, 59]⟩, .int .u8 60, .string ⟨#[38, 103, 116, 59]⟩, .int .u8 62, .string ⟨#[38, 113, 117, 111, 116, 59]⟩, .int .u8 34]) (.int .i64 3)).run Tryz.prog w = .ok (.agg #[.string ⟨#[38, 113, 117, 111, 116, 59]⟩, .int .u8 34]) w := fun _ => by kernel_rfl
  go_wp2_with fail
  go_loopg [6] 4 (fun g i wr => ∃ k : Nat, k ≤ 4 ∧ g = 4 - k ∧ i = .int .i64 (k : Int) ∧ Kept [] w wr ∧ (0 < k → c.toNat ≠ 38) ∧ (1 < k → c.toNat ≠ 60) ∧ (2 < k → c.toNat ≠ 62) ∧ (3 < k → c.toNat ≠ 34))
  case atStart => exact ⟨0, by omega, by omega, rfl, Kept.refl _ _, by omega, by omega, by omega, by omega⟩
  case round =>
    obtain ⟨k, hk, hgk, rfl, hkept, n0, n1, n2, n3⟩ := hrel
    have HG : Hid (gk = 4 - k) := hgk
    have N0 : Hid _ := n0
    have N1 : Hid _ := n1
    have N2 : Hid _ := n2
    have N3 : Hid _ := n3
    clear hgk c0 c1 c2 c3 c4 c5 c6 c7 n0 n1 n2 n3
    have hcase : k = 0 ∨ k = 1 ∨ k = 2 ∨ k = 3 ∨ k = 4 := by omega
    rcases hcase with rfl | rfl | rfl | rfl | rfl
    · by_cases hp : c.toNat = 38
      · have hb : ((38 : Int) == (c.toNat : Int)) = true := by simp [hp]
        have HP : Hid (c.toNat = 38) := hp
        clear hp
        go_wp2_with fail
        go_ret
        refine ⟨?_, hkept.alloc _⟩
        have : c = 38 := UInt8.toNat_inj.1 HP.out
        rw [this]
        rfl
      · have hb : ((38 : Int) == (c.toNat : Int)) = false := by rw [beq_eq_false_iff_ne]; omega
        have HP : Hid (¬ c.toNat = 38) := hp
        clear hp
        go_wp2_with fail
        go_roundg 3
        case measure => rw [HG.out]; omega
        case rel => exact ⟨1, by omega, by omega, rfl, hkept.alloc _, fun _ => HP.out, by omega, by omega, by omega⟩
    · by_cases hp : c.toNat = 60
      · have hb : ((60 : Int) == (c.toNat : Int)) = true := by simp [hp]
        have HP : Hid (c.toNat = 60) := hp
        clear hp
        go_wp2_with fail
        go_ret
        refine ⟨?_, hkept.alloc _⟩
        have : c = 60 := UInt8.toNat_inj.1 HP.out
        rw [this]
        rfl
      · have hb : ((60 : Int) == (c.toNat : Int)) = false := by rw [beq_eq_false_iff_ne]; omega
        have HP : Hid (¬ c.toNat = 60) := hp
        clear hp
        go_wp2_with fail
        go_roundg 2
        case measure => rw [HG.out]; omega
        case rel => exact ⟨2, by omega, by omega, rfl, hkept.alloc _, fun _ => N0.out (by omega), fun _ => HP.out, by omega, by omega⟩
    · by_cases hp : c.toNat = 62
      · have hb : ((62 : Int) == (c.toNat : Int)) = true := by simp [hp]
        have HP : Hid (c.toNat = 62) := hp
        clear hp
        go_wp2_with fail
        go_ret
        refine ⟨?_, hkept.alloc _⟩
        have : c = 62 := UInt8.toNat_inj.1 HP.out
        rw [this]
        rfl
      · have hb : ((62 : Int) == (c.toNat : Int)) = false := by rw [beq_eq_false_iff_ne]; omega
        have HP : Hid (¬ c.toNat = 62) := hp
        clear hp
        go_wp2_with fail
        go_roundg 1
        case measure => rw [HG.out]; omega
        case rel => exact ⟨3, by omega, by omega, rfl, hkept.alloc _, fun _ => N0.out (by omega), fun _ => N1.out (by omega), fun _ => HP.out, by omega⟩
    · by_cases hp : c.toNat = 34
      · have hb : ((34 : Int) == (c.toNat : Int)) = true := by simp [hp]
        have HP : Hid (c.toNat = 34) := hp
        clear hp
        go_wp2_with fail
        go_ret
        refine ⟨?_, hkept.alloc _⟩
        have : c = 34 := UInt8.toNat_inj.1 HP.out
        rw [this]
        rfl
      · have hb : ((34 : Int) == (c.toNat : Int)) = false := by rw [beq_eq_false_iff_ne]; omega
        have HP : Hid (¬ c.toNat = 34) := hp
        clear hp
        go_wp2_with fail
        go_roundg 0
        case measure => rw [HG.out]; omega
        case rel => exact ⟨4, by omega, by omega, rfl, hkept.alloc _, fun _ => N0.out (by omega), fun _ => N1.out (by omega), fun _ => N2.out (by omega), fun _ => HP.out⟩
    · have hba : BytesAt (wr.alloc (.cells #[.int .u8 (c.toNat : Int)] 5)) wr.heap.size [c] := by
        intro j hj
        have hj0 : j = 0 := by simp at hj; exact hj
        subst hj0
        have h := heap_alloc_new wr (.cells #[.int .u8 (c.toNat : Int)] 5)
        refine ⟨?_, ?_⟩
        · show (wr.alloc (.cells #[.int .u8 (c.toNat : Int)] 5)).cell? ⟨wr.heap.size, 0, none⟩ = some (.int .u8 (c.toNat : Int))
          unfold World.cell?
          rw [h]
          rfl
        · unfold World.frozen?
          rw [h]
          rfl
      have hcv := conv_back (P := Tryz.prog) (wr.alloc (.cells #[.int .u8 (c.toNat : Int)] 5)) 60 9 5 wr.heap.size 1 1 [c] rfl Tryz.underlying60 Tryz.underlying5 Tryz.underlying9 hba
      have HSP : Hid (signOfP c = [c]) := by
        show _ = _
        unfold signOfP
        rw [if_neg (fun e => N0.out (by omega) (by rw [e]; rfl)), if_neg (fun e => N1.out (by omega) (by rw [e]; rfl)), if_neg (fun e => N2.out (by omega) (by rw [e]; rfl)), if_neg (fun e => N3.out (by omega) (by rw [e]; rfl))]
      clear hba
      go_wp2_with fail
      go_ret
      rw [HSP.out]
      exact ⟨rfl, hkept.alloc _⟩
end Go.Proofs.YtlpmjpmefdpcmaaGreatDoor
namespace Scrub
theorem indexByte_ge (c : UInt8) : ∀ l : List UInt8, -1 ≤ Go.Lib.indexByte l c
  | [] => by simp [Go.Lib.indexByte]
  | b :: l => by
    have := indexByte_ge c l
    unfold Go.Lib.indexByte
    split
    · omega
    · split
      · omega
      · omega
theorem indexByte_mem (c : UInt8) : ∀ l : List UInt8, decide (0 ≤ Go.Lib.indexByte l c) = l.contains c
  | [] => by simp [Go.Lib.indexByte]
  | b :: l => by
    have h1 := indexByte_ge c l
    have ih := indexByte_mem c l
    unfold Go.Lib.indexByte
    by_cases hb : b = c
    · subst hb
      simp
    · have hb1 : (b == c) = false := by simpa using hb
      have hb2 : (c == b) = false := by simpa using fun e => hb e.symm
      rw [hb1, List.contains_cons, hb2, ← ih]
      simp only [Bool.false_eq_true, if_false, Bool.false_or]
      split
      · rename_i h
        have : Go.Lib.indexByte l c = -1 := by simpa using h
        rw [this]
      · rename_i h
        have : Go.Lib.indexByte l c ≠ -1 := by simpa using h
        rw [Bool.eq_iff_iff]
        simp
        omega
theorem escP_snoc (these s : List UInt8) (c : UInt8) : escP these (s ++ [c]) = escP these s ++ (if these.contains c then signOfP c else [c]) := by simp [escP]
theorem signOfP_len (c : UInt8) : (signOfP c).length ≤ 6 := by
  unfold signOfP
  repeat' split
  all_goals simp
theorem escP_len (these s : List UInt8) : (escP these s).length ≤ 6 * s.length := by
  induction s with
  | nil => simp [escP]
  | cons a t ih =>
    have h := signOfP_len a
    have e : escP these (a :: t) = (if these.contains a then signOfP a else [a]) ++ escP these t := by simp [escP]
    rw [e, List.length_append, List.length_cons]
    split
    · omega
    · simp
      omega
end Scrub
namespace Go.Proofs.YtlpmjpmefdpcmaaGreatDoor
open Go.RowKit Scrub Go.Shelf
theorem isBuilderF_kept {T e : TypeId} {B b : Nat} {bs : List Value} {w w' : World} (h : Lib.IsBuilderF T e B b bs w) (hk : Kept [] w w') : Lib.IsBuilderF T e B b bs w' := by
  have key : ∀ p, Lib.BuilderAtF T e B b p bs w → Lib.BuilderAtF T e B b p bs w' := by
    rintro p ⟨hB, v, hb, hown, hne⟩
    refine ⟨hB, v, by rw [hk.block b (Array.getElem?_eq_some_iff.1 hb).1 (by simp)]; exact hb, ?_, hne⟩
    exact hown.kept (hk.toGrown none) (Classical.em _)
  rcases h with h | h
  · exact .inl (key _ h)
  · exact .inr (key _ h)
set_option maxHeartbeats 2000000 in
theorem writeSigns_any (s these : List UInt8) (w : World) (hs : s.length ≤ 1099511627776) (hg : Glob w) :
    Calls Tryz.prog 103 #[.string ⟨s.toArray⟩, .string ⟨these.toArray⟩] w fun e w' => e = .returned (.string ⟨(escP these s).toArray⟩) ∧ Kept [] w w' := by
  have hsz : (⟨s.toArray⟩ : ByteArray).size = s.length := by simp [ByteArray.size]
  generalize hss : (⟨s.toArray⟩ : ByteArray) = S at *
  have HSS : Hid (S.data.toList = s) := by show _ = _; rw [← hss]
  clear hss
  have hte : ((⟨these.toArray⟩ : ByteArray).data.toList) = these := by simp
  have hix := fun c w' => Tryz.strings_IndexByte ⟨these.toArray⟩ c w'
  rw [hte] at hix
  have HIX : Hid _ := hix
  clear hix hte
  go_enter Tryz.func103, Tryz.ntmps103
  go_wp2_with fail
  go_loopg [9] s.length (fun g x wr => ∃ k : Nat, k ≤ s.length ∧ g = s.length - k ∧ x = .int .i64 (k : Int) ∧ Kept [] w wr ∧ w.heap.size ≤ wr.heap.size ∧ Lib.IsBuilderF 98 5 w.heap.size w.heap.size (Lib.byteCells (escP these (s.take k))) wr)
  case atStart => exact ⟨0, by omega, rfl, rfl, (Kept.refl _ _).alloc _, by simp, Lib.IsBuilderF.of (.inl ⟨Nat.le_refl _, _, heap_alloc_new w _, World.ownsRow_nil _ _ _ _, by simp [Value.ownBlock]⟩)⟩
  case round =>
    obtain ⟨k, hk, hgk, rfl, hK, hws, hbd⟩ := hrel
    have HG : Hid _ := hgk
    clear hgk
    have hel := escP_len these (s.take k)
    have htl : (s.take k).length ≤ s.length := by simp; omega
    by_cases hlt : k < s.length
    · have hltS : k < S.size := by omega
      have hlt' : (k : Int) < (S.size : Int) := by omega
      have hge : (0 : Int) ≤ (k : Int) := by omega
      have hgs : S[k] = s[k] := by
        have h1 := drop_get hltS
        rw [HSS.out, List.drop_eq_getElem_cons hlt] at h1
        injection h1 with h1 _
        exact h1.symm
      have HTK : Hid (s.take (k + 1) = s.take k ++ [s[k]]) := List.take_succ_eq_append_getElem hlt
      have HES : Hid (escP these (s.take (k + 1)) = escP these (s.take k) ++ (if these.contains s[k] then signOfP s[k] else [s[k]])) := by show _ = _; rw [HTK.out, escP_snoc]
      have hg1 : Glob wr := hg.kept hK (by simp) (by simp)
      have hix1 := fun w' => HIX.out (s[k].toNat : Int) w'
      have htn : ((s[k].toNat : Int).toNat.toUInt8) = s[k] := by simp
      rw [htn] at hix1
      have hic := indexByte_mem s[k] these
      have hsl := signOfP_len s[k]
      generalize s[k] = c at *
      have HIX1 : Hid _ := hix1
      clear hix1 htn HTK
      generalize hout : escP these (s.take k) = out at *
      have hol : out.length ≤ 6 * s.length := by omega
      clear hout hel htl
      generalize hgi : Lib.indexByte these c = ii at *
      clear hgi
      go_wp2_with fail
      refine (HIX1.out _).mono ?_
      rintro e w1 ⟨rfl, rfl⟩
      cases hcc : these.contains c with
      | true =>
        have hii : (0 : Int) ≤ ii := by rw [hcc] at hic; simpa using hic
        have HES2 : Hid (escP these (s.take (k + 1)) = out ++ signOfP c) := by show _ = _; rw [HES.out, hcc]; rfl
        clear hic hcc HES
        go_wp2_with fail
        refine (signOf_any c _ hg1).mono ?_
        rintro e w2 ⟨rfl, hk2⟩
        go_wp2_with fail
        have hssz : (⟨(signOfP c).toArray⟩ : ByteArray).size ≤ 6 := by simpa [ByteArray.size] using hsl
        refine (Tryz.writeStringK w.heap.size w.heap.size (Lib.byteCells out) ⟨(signOfP c).toArray⟩ w2 (isBuilderF_kept hbd hk2) (by simp only [Lib.byteCells, List.length_map]; omega) (by have := hk2.size; omega)).mono ?_
        rintro e w3 ⟨rfl, hb3, hbl3, hok3⟩
        go_wp2_with fail
        go_roundg (s.length - (k + 1))
        case measure => rw [HG.out]; omega
        case rel =>
          refine ⟨k + 1, by omega, rfl, rfl, (hK.trans hk2).trans_below hbl3, by have := hk2.size; have := hbl3.size; omega, ?_⟩
          rw [HES2.out]
          have e1 : Lib.byteCells (out ++ signOfP c) = Lib.byteCells out ++ Lib.strCells ⟨(signOfP c).toArray⟩ := by simp [Lib.byteCells, Lib.strCells]
          rw [e1]
          exact .inr hb3
      | false =>
        have hii : ((0 : Int) ≤ ii) = False := by rw [hcc] at hic; simpa using hic
        have HES2 : Hid (escP these (s.take (k + 1)) = out ++ [c]) := by show _ = _; rw [HES.out, hcc]; rfl
        clear hic hcc HES
        go_wp2_with fail
        refine (Tryz.writeByteK w.heap.size w.heap.size (Lib.byteCells out) (c.toNat : Int) _ hbd (by simp only [Lib.byteCells, List.length_map]; omega) hws).mono ?_
        rintro e w3 ⟨rfl, hb3, hbl3, hok3⟩
        go_wp2_with fail
        go_roundg (s.length - (k + 1))
        case measure => rw [HG.out]; omega
        case rel =>
          refine ⟨k + 1, by omega, rfl, rfl, hK.trans_below hbl3, by have := hbl3.size; omega, ?_⟩
          rw [HES2.out, ← byteCells_snoc]
          exact .inr hb3
    · have hlt' : ((k : Int) < (S.size : Int)) = False := by simp; omega
      have HKL : Hid (s.take k = s) := List.take_of_length_le (by omega)
      rw [HKL.out] at hbd
      go_wp2_with fail
      refine (Tryz.Builder_String_any_f w.heap.size w.heap.size (escP these s) _ hbd hws).mono ?_
      rintro e w3 ⟨rfl, hb3, hbl3⟩
      go_wp2_with fail
      go_ret
      exact ⟨rfl, hK.trans_below hbl3⟩
end Go.Proofs.YtlpmjpmefdpcmaaGreatDoor
