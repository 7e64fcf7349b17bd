import Derived.Test.YtlpmjpmefdpcmaaGreatDoorQWr2
import Derived.Test.YtlpmjpmefdpcmaaGreatDoorQLies
import Derived.Test.YtlpmjpmefdpcmaaGreatDoorQBld2
import Derived.Deep.RegionWith
namespace Go.Proofs.YtlpmjpmefdpcmaaGreatDoor
open Go.RowKit Scrub Go.Shelf
/-- The Builder at b holds these bytes. -/
def WBd (w : World) (B b : Nat) (out : List UInt8) : Prop := Lib.IsBuilderF 98 5 B b (Lib.byteCells out) w
/-- What a writer leaves as it was. -/
structure WFr (B b : Nat) (w w' : World) : Prop where
  below : Below B w w'
  oth : Lib.OthersKept 5 (some b) w w'
theorem WFr.refl (B b : Nat) (w : World) : WFr B b w w := ⟨Below.refl _ _, Lib.OthersKept.refl _ _ _⟩
theorem WFr.trans {B b : Nat} {w w1 w2 : World} (h : WFr B b w w1) (k : WFr B b w1 w2) : WFr B b w w2 := ⟨h.below.trans k.below, h.oth.trans k.oth⟩
theorem WFr.ofKept {B b : Nat} {w w' : World} (h : Kept [] w w') (hB : B ≤ w.heap.size) : WFr B b w w' :=
  ⟨⟨h.os, h.tape, h.output, h.size, fun k hk => h.block k (by omega) (by simp)⟩, fun k o ho _ _ => (h.block k (Array.getElem?_eq_some_iff.1 ho).1 (by simp)).trans ho⟩
theorem WFr.size {B b : Nat} {w w' : World} (h : WFr B b w w') : w.heap.size ≤ w'.heap.size := h.below.size
theorem WFr.base {B b : Nat} {w0 w w' : World} (h : WFr B b w w') (hk : Kept [] w0 w) (hB : w0.heap.size ≤ B) : Kept [] w0 w' :=
  ⟨h.below.os.trans hk.os, h.below.tape.trans hk.tape, h.below.output.trans hk.output, Nat.le_trans hk.size h.below.size, fun k hk' _ => (h.below.block k (by omega)).trans (hk.block k hk' (by simp))⟩
theorem WFr.box {B b : Nat} {w w' : World} (h : WFr B b w w') {k : Nat} {c : Array Value} {T : TypeId} {fz : Nat × Nat} (hb : w.heap[k]? = some (.cells c T fz)) (hne : k ≠ b) (hT : T ≠ 5) : w'.heap[k]? = some (.cells c T fz) :=
  h.oth k _ hb (fun e => hne (by injection e)) (fun c' fz' e => hT (by injection e))
theorem WBd.lt {w : World} {B b : Nat} {out : List UInt8} (h : WBd w B b out) : b < w.heap.size := by
  rcases h with ⟨_, v, hb, _⟩ | ⟨_, v, hb, _⟩
  · exact (Array.getElem?_eq_some_iff.1 hb).1
  · exact (Array.getElem?_eq_some_iff.1 hb).1
theorem WBd.kept {w w' : World} {B b : Nat} {out : List UInt8} (h : WBd w B b out) (hk : Kept [] w w') : WBd w' B b out := isBuilderF_kept h hk
/-- A string is written. -/
theorem ws_any (B b : Nat) (out s : List UInt8) (w : World) (h : WBd w B b out) (hlen : (out ++ s).length ≤ 140737488355328) (hB : B ≤ w.heap.size) :
    Calls Tryz.prog 102 #[.pointer (some ⟨b, 0, none⟩), .string ⟨s.toArray⟩] w fun e w' => e = .returned (.tuple #[.int .i64 s.length, .nilIface]) ∧ WBd w' B b (out ++ s) ∧ WFr B b w w' := by
  have hsz : (⟨s.toArray⟩ : ByteArray).size = s.length := by simp [ByteArray.size]
  have h1 := Tryz.writeStringK B b (Lib.byteCells out) ⟨s.toArray⟩ w h (by rw [hsz]; simp only [Lib.byteCells, List.length_map]; simpa using hlen) hB
  rw [hsz] at h1
  refine h1.mono ?_
  rintro e w' ⟨rfl, h2, h3, h4⟩
  refine ⟨rfl, ?_, h3, h4⟩
  have e1 : Lib.byteCells (out ++ s) = Lib.byteCells out ++ Lib.strCells ⟨s.toArray⟩ := by simp [Lib.byteCells, Lib.strCells]
  show Lib.IsBuilderF _ _ _ _ (Lib.byteCells (out ++ s)) _
  rw [e1]
  exact .inr h2
theorem ba_cat (a b : List UInt8) : (⟨a.toArray⟩ : ByteArray) ++ ⟨b.toArray⟩ = ⟨(a ++ b).toArray⟩ := by
  apply ByteArray.ext
  simp [ByteArray.data_append]
theorem Glob.below {B : Nat} {w w' : World} (h : Glob w) (hb : Below B w w') (hB : 1 < B ∧ 0 < B) : Glob w' := by
  obtain ⟨⟨mx, g⟩, c0, c1, c2, c3, c4, c5, c6, c7⟩ := h
  have e1 : ∀ o, w'.cell? ⟨0, o, none⟩ = w.cell? ⟨0, o, none⟩ := fun o => World.cell?_of_block (w := w) (hb.block _ hB.2)
  refine ⟨⟨mx, (World.cell?_of_block (w := w) (a := ⟨1, 0, none⟩) (hb.block _ hB.1)).trans g⟩, ?_⟩
  simp only [e1]
  exact ⟨c0, c1, c2, c3, c4, c5, c6, c7⟩
set_option maxHeartbeats 4000000 in
theorem writeStart_any (B b : Nat) (out nm : List UInt8) (al : List (List UInt8 × List UInt8)) (kv : Value) (tx : List UInt8) (av : Value) (w : World) (h : WBd w B b out) (hA : LiesA w av al) (hka : ∃ a n c, kv = .slice a n c) (hB : B ≤ w.heap.size) (hal : bulkA al ≤ 1099511627776) (hnl : nm.length ≤ 1099511627776) (hlen : (out ++ startW nm al).length ≤ 140737488355328) (hg : Glob w) (hgB : 1 < B ∧ 0 < B) (hAB : ∀ (w' : World), WFr B b w w' → LiesA w' av al) :
    Calls Tryz.prog 168 #[.pointer (some ⟨b, 0, none⟩), .agg #[.string ⟨nm.toArray⟩, av, kv, .string ⟨tx.toArray⟩]] w
      fun e w' => e = .returned (.tuple #[]) ∧ WBd w' B b (out ++ startW nm al) ∧ WFr B b w w' := by
  obtain ⟨ka, kn, kc, rfl⟩ := hka
  have hall : al.length ≤ 1099511627776 := Nat.le_trans (bulkA_len al) hal
  obtain ⟨aa, ac, rfl⟩ := hA.form
  have hk0 : Kept [] w (w.alloc (.cells #[.string ⟨nm.toArray⟩, .slice aa al.length ac, .slice ka kn kc, .string ⟨tx.toArray⟩] 42)) := (Kept.refl [] _).alloc _
  have hbx := heap_alloc_new w (.cells #[.string ⟨nm.toArray⟩, .slice aa al.length ac, .slice ka kn kc, .string ⟨tx.toArray⟩] 42)
  have hf0 : WFr B b w _ := WFr.ofKept hk0 hB
  have hwb0 := h.kept hk0
  have hbw : b ≠ w.heap.size := by have := h.lt; omega
  have HL : Hid _ := hlen
  have hl1 : (out ++ (60 :: nm)).length ≤ 140737488355328 := by simp [startW] at hlen ⊢; omega
  have hB0 := Nat.le_trans hB hk0.size
  have hcat : ∀ a b : List UInt8, (⟨a.toArray⟩ : ByteArray) ++ ⟨b.toArray⟩ = ⟨(a ++ b).toArray⟩ := ba_cat
  have HAB : Hid _ := hAB
  clear hA hAB hlen
  go_enter Tryz.func168, Tryz.ntmps168
  go_wp2_with fail
  refine (ws_any B b out (60 :: nm) _ hwb0 hl1 hB0).mono ?_
  rintro e w1 ⟨rfl, hwb1, hf1⟩
  have hbx1 := hf1.box hbx hbw.symm (by decide)
  have hF1 := hf0.trans hf1
  obtain ⟨⟨q0, q1, q2, q3⟩, _⟩ := cells4 hbx1
  clear hk0 hbx hf0 hwb0 hbx1 hf1 hB0
  go_wp2_with fail
  go_loopg [14] al.length (fun g x wr => ∃ k : Nat, k ≤ al.length ∧ g = al.length - k ∧ x = .int .i64 (k : Int) ∧ WFr B b w wr ∧ WBd wr B b (out ++ (60 :: nm) ++ (al.take k).flatMap attrW))
  case atStart => exact ⟨0, by omega, rfl, rfl, hF1, by simpa using hwb1⟩
  case round =>
    clear hwb1 hF1 q0 q1 q2 q3
    obtain ⟨k, hk, hgk, rfl, hF, hwb⟩ := hrel
    have HG : Hid _ := hgk
    clear hgk
    have hBr : B ≤ wr.heap.size := Nat.le_trans hB hF.size
    have hgr : Glob wr := hg.below hF.below hgB
    by_cases hlt : k < al.length
    · obtain ⟨a', c', hv, hcells⟩ := HAB.out wr hF
      injection hv with e1 e2 e3
      subst e1 e3
      obtain ⟨g, o, rfl, c0, c1⟩ := hcells k hlt
      have hlt' : (k : Int) < (al.length : Int) := by omega
      have hge : (0 : Int) ≤ (k : Int) := by omega
      have HTK : Hid ((al.take (k + 1)).flatMap attrW = (al.take k).flatMap attrW ++ attrW al[k]) := by show _ = _; rw [List.take_succ_eq_append_getElem hlt, List.flatMap_append]; simp
      have hbm := bulkA_mem (List.getElem_mem hlt)
      have hsub : ((al.take k).flatMap attrW ++ attrW al[k]).length ≤ (al.flatMap attrW).length := by
        rw [← HTK.out]
        have e : al.flatMap attrW = (al.take (k + 1)).flatMap attrW ++ (al.drop (k + 1)).flatMap attrW := by rw [← List.flatMap_append, List.take_append_drop]
        rw [e, List.length_append]
        omega
      have HLN : Hid ((out ++ (60 :: nm) ++ (al.take k).flatMap attrW ++ attrW al[k]).length ≤ 140737488355328) := by
        have := HL.out
        show _ ≤ _
        simp only [startW, List.length_append, List.length_cons] at this hsub ⊢
        omega
      have HAW : Hid (attrW al[k] = 32 :: ((al[k]).1 ++ (61 :: 34 :: (escP [38, 60, 34] (al[k]).2 ++ [34])))) := rfl
      generalize attrW al[k] = aw at *
      generalize (al[k]).1 = an at *
      generalize (al[k]).2 = avl at *
      have havl : avl.length ≤ 1099511627776 := by omega
      have han : an.length ≤ 1099511627776 := by omega
      have hesc : (escP [38, 60, 34] avl).length ≤ 6597069766656 := by have := escP_len [38, 60, 34] avl; omega
      generalize hout2 : out ++ (60 :: nm) ++ (al.take k).flatMap attrW = out2 at *
      have HO2 : Hid (out ++ (60 :: nm) ++ (al.take k).flatMap attrW = out2) := hout2
      clear hout2
      have hkz : Kept [] wr (wr.alloc (.cells #[.string ⟨an.toArray⟩, .string ⟨avl.toArray⟩] 63)) := (Kept.refl [] _).alloc _
      have hwbz := hwb.kept hkz
      have hgz : Glob (wr.alloc (.cells #[.string ⟨an.toArray⟩, .string ⟨avl.toArray⟩] 63)) := hgr.kept hkz (by simp) (by simp)
      have hFz := hF.trans (WFr.ofKept (b := b) hkz hBr)
      have hbz := heap_alloc_new wr (.cells #[.string ⟨an.toArray⟩, .string ⟨avl.toArray⟩] 63)
      clear hcells hsub HAB hwb
      have x0 : (wr.alloc (.cells #[.string ⟨an.toArray⟩, .string ⟨avl.toArray⟩] 63)).cell? ⟨wr.heap.size, 0, none⟩ = some (.string ⟨an.toArray⟩) := by unfold World.cell?; rw [hbz]; rfl
      have HX0 : Hid _ := x0
      clear x0
      go_wp2_with fail
      go_region_with (first
        | (go_at_call 103; refine (writeSigns_any avl [38, 60, 34] _ havl (by first | exact hgz | exact hgz.drewN _)).mono ?_; rintro e w2 ⟨rfl, hk2⟩; have hkd : Kept [] (wr.alloc (.cells #[.string ⟨an.toArray⟩, .string ⟨avl.toArray⟩] 63)) w2 := ((Kept.refl [] _).drew).trans hk2; have y0 := cell_kept hkd HX0.out)
        | (go_at_call 102; refine (ws_any B b out2 (32 :: (an ++ (61 :: 34 :: (escP [38, 60, 34] avl ++ [34])))) _ (hwbz.kept hkd) (by rw [← HAW.out]; exact HLN.out) (by have := hkd.size; have := hkz.size; omega)).mono ?_; rintro e w3 ⟨rfl, hwb3, hf3⟩))
      all_goals
        go_wp2_with fail
        go_roundg (al.length - (k + 1))
        case measure => rw [HG.out]; omega
        case rel =>
          refine ⟨k + 1, by omega, rfl, rfl, (hFz.trans (WFr.ofKept hkd (Nat.le_trans hBr hkz.size))).trans hf3, ?_⟩
          rw [HTK.out, ← List.append_assoc, HAW.out, HO2.out]
          exact hwb3
    · have hlt' : ((k : Int) < (al.length : Int)) = False := by simp; omega
      have HTK : Hid (al.take k = al) := List.take_of_length_le (by omega)
      rw [HTK.out] at hwb
      have HSW : Hid (out ++ startW nm al = out ++ (60 :: nm) ++ al.flatMap attrW ++ [62]) := by show _ = _; simp [startW]
      have hl2 := HL.out
      rw [HSW.out] at hl2
      have HL2 : Hid _ := hl2
      clear hl2
      go_wp2_with fail
      refine (ws_any B b _ [62] _ hwb HL2.out hBr).mono ?_
      rintro e w3 ⟨rfl, hwb3, hf3⟩
      go_wp2_with fail
      go_end0
      rw [HSW.out]
      exact ⟨rfl, hwb3, hF.trans hf3⟩
end Go.Proofs.YtlpmjpmefdpcmaaGreatDoor
