import Derived.Test.YtlpmjpmefdpcmaaGreatDoorQWr3
namespace Go.Proofs.YtlpmjpmefdpcmaaGreatDoor
open Go.RowKit Scrub Go.Shelf
set_option maxHeartbeats 2000000 in
theorem writeRaw_zero (w0 : World) (B b : Nat) (v : Value) (f : GF 0) (out : List UInt8) (w : World) (hL : Lies 0 w0 v f) (h : WBd w B b out) :
    Calls Tryz.prog 170 #[.pointer (some ⟨b, 0, none⟩), v] w
      fun e w' => e = .returned (.tuple #[]) ∧ WBd w' B b (out ++ rawW 0 f) ∧ WFr B b w w' := by
  obtain ⟨a, c, rfl⟩ := hL
  have HW : Hid (WBd w B b out) := h
  clear h
  go_enter Tryz.func170, Tryz.ntmps170
  go_wp2_with fail
  go_loopg [8] 0 (fun g x wr => g = 0 ∧ wr = w ∧ x = .int .i64 0)
  case atStart => exact ⟨rfl, rfl, rfl⟩
  case round =>
    obtain ⟨rfl, rfl, rfl⟩ := hrel
    go_wp2_with fail
    go_end0
    refine ⟨rfl, ?_, WFr.refl _ _ _⟩
    have e1 : out ++ rawW 0 f = out := by simp [rawW]
    rw [e1]
    exact HW.out
set_option maxHeartbeats 2000000 in
theorem writeRaw_succ (w0 : World) (B b : Nat) (d : Nat) (v : Value) (f : GF (d + 1)) (out : List UInt8) (w : World) (hL : Lies (d + 1) w0 v f) (hb : bulkF (d + 1) f ≤ 1099511627776) (hK : Kept [] w0 w) (hB0 : w0.heap.size ≤ B) (h : WBd w B b out) (hB : B ≤ w.heap.size) (hlen : (out ++ rawW (d + 1) f).length ≤ 140737488355328) :
    Calls Tryz.prog 170 #[.pointer (some ⟨b, 0, none⟩), v] w
      fun e w' => e = .returned (.tuple #[]) ∧ WBd w' B b (out ++ rawW (d + 1) f) ∧ WFr B b w w' := by
  have hfl := Nat.le_trans (bulkF_len f) hb
  obtain ⟨a, c, rfl, hcells⟩ := hL
  have HC : Hid (∀ i (h : i < (gnodes d f).length), ∃ g o, a = some ⟨g, o, none⟩ ∧ LiesN (Lies d w0) w0 g (o + i * 4) (gnodes d f)[i]) := hcells
  have HR : Hid (rawW (d + 1) f = (gnodes d f).flatMap (fun n => n.2.2.2)) := rfl
  have HL : Hid _ := hlen
  clear hcells hb hlen
  generalize gnodes d f = l at *
  go_enter Tryz.func170, Tryz.ntmps170
  go_wp2_with fail
  go_loopg [8] l.length (fun g x wr => ∃ k : Nat, k ≤ l.length ∧ g = l.length - k ∧ x = .int .i64 (k : Int) ∧ WFr B b w wr ∧ WBd wr B b (out ++ (l.take k).flatMap (fun n => n.2.2.2)))
  case atStart => exact ⟨0, by omega, rfl, rfl, WFr.refl _ _ _, by simpa using h⟩
  case round =>
    obtain ⟨k, hk, hgk, rfl, hF, hwb⟩ := hrel
    have HG : Hid _ := hgk
    clear hgk
    have hBr : B ≤ wr.heap.size := Nat.le_trans hB hF.size
    have hKr := hF.base hK hB0
    by_cases hlt : k < l.length
    · have hlt' : (k : Int) < (l.length : Int) := by omega
      have hge : (0 : Int) ≤ (k : Int) := by omega
      obtain ⟨g, o, rfl, hn⟩ := HC.out k hlt
      obtain ⟨av, kv, e0, e1, e2, e3, hA, hKd⟩ := hn
      obtain ⟨aa, ac, rfl⟩ := hA.form
      obtain ⟨ka, kc, hkv⟩ := hKd.form
      subst hkv
      have HT : Hid ((l.take (k + 1)).flatMap (fun n => n.2.2.2) = (l.take k).flatMap (fun n => n.2.2.2) ++ (l[k]).2.2.2) := by show _ = _; rw [List.take_succ_eq_append_getElem hlt, List.flatMap_append]; simp
      have HLN : Hid ((out ++ (l.take k).flatMap (fun n => n.2.2.2) ++ (l[k]).2.2.2).length ≤ 140737488355328) := by
        have h1 := HL.out
        rw [HR.out] at h1
        have e : l.flatMap (fun n => n.2.2.2) = (l.take (k + 1)).flatMap (fun n => n.2.2.2) ++ (l.drop (k + 1)).flatMap (fun n => n.2.2.2) := by rw [← List.flatMap_append, List.take_append_drop]
        rw [e, HT.out] at h1
        show _ ≤ _
        simp only [List.length_append] at h1 ⊢
        omega
      have e0' := cell_kept hKr e0
      have e1' := cell_kept hKr e1
      have e2' := cell_kept hKr e2
      have e3' := cell_kept hKr e3
      clear e0 e1 e2 e3 hA hKd
      generalize (l[k]).1 = nm at *
      generalize (l[k]).2.2.2 = tx at *
      generalize (l[k]).2.1.length = an at *
      generalize glen d (l[k]).2.2.1 = kn at *
      generalize hout2 : out ++ (l.take k).flatMap (fun n => n.2.2.2) = out2 at *
      have HO2 : Hid (out ++ (l.take k).flatMap (fun n => n.2.2.2) = out2) := hout2
      clear hout2
      have hkz : Kept [] wr (wr.alloc (.cells #[.string ⟨nm.toArray⟩, .slice aa an ac, .slice ka kn kc, .string ⟨tx.toArray⟩] 42)) := (Kept.refl [] _).alloc _
      have hwbz := hwb.kept hkz
      have hFz := hF.trans (WFr.ofKept (b := b) hkz hBr)
      have hBz := Nat.le_trans hBr hkz.size
      clear hwb h
      go_wp2_with fail
      refine (ws_any B b out2 tx _ hwbz HLN.out hBz).mono ?_
      rintro e w3 ⟨rfl, hwb3, hf3⟩
      go_wp2_with fail
      go_roundg (l.length - (k + 1))
      case measure => rw [HG.out]; omega
      case rel =>
        refine ⟨k + 1, by omega, rfl, rfl, hFz.trans hf3, ?_⟩
        rw [HT.out, ← List.append_assoc, HO2.out]
        exact hwb3
    · have hlt' : ((k : Int) < (l.length : Int)) = False := by simp; omega
      have HTK : Hid (l.take k = l) := List.take_of_length_le (by omega)
      rw [HTK.out] at hwb
      go_wp2_with fail
      go_end0
      rw [HR.out]
      exact ⟨rfl, hwb, hF⟩
theorem writeRaw_any (w0 : World) (B b : Nat) : ∀ (d : Nat) (v : Value) (f : GF d) (out : List UInt8) (w : World), Lies d w0 v f → bulkF d f ≤ 1099511627776 → Kept [] w0 w → w0.heap.size ≤ B → WBd w B b out → B ≤ w.heap.size → (out ++ rawW d f).length ≤ 140737488355328 →
    Calls Tryz.prog 170 #[.pointer (some ⟨b, 0, none⟩), v] w
      fun e w' => e = .returned (.tuple #[]) ∧ WBd w' B b (out ++ rawW d f) ∧ WFr B b w w'
  | 0, v, f, out, w, hL, _, _, _, h, _, _ => writeRaw_zero w0 B b v f out w hL h
  | d + 1, v, f, out, w, hL, hb, hK, hB0, h, hB, hlen => writeRaw_succ w0 B b d v f out w hL hb hK hB0 h hB hlen
/-- writeList, to a depth. -/
def WListOk (w0 : World) (B b d : Nat) : Prop := ∀ (v : Value) (f : GF d) (out : List UInt8) (w : World), Lies d w0 v f → bulkF d f ≤ 1099511627776 → Kept [] w0 w → WBd w B b out → B ≤ w.heap.size → (out ++ writeF d f).length ≤ 140737488355328 →
  Calls Tryz.prog 71 #[.pointer (some ⟨b, 0, none⟩), v] w
    fun e w' => e = .returned (.tuple #[]) ∧ WBd w' B b (out ++ writeF d f) ∧ WFr B b w w'
set_option maxHeartbeats 4000000 in
theorem writeElement_any (w0 : World) (B b : Nat) (hg : Glob w0) (hB0 : w0.heap.size ≤ B) (d : Nat) (ih : WListOk w0 B b d) (n : GN d) (av kv : Value) (out : List UInt8) (w : World) (hnm : n.1 ≠ []) (hA : LiesA w0 av n.2.1) (hKd : Lies d w0 kv n.2.2.1) (hb : bulkN (bulkF d) n ≤ 1099511627776) (hK : Kept [] w0 w) (h : WBd w B b out) (hB : B ≤ w.heap.size) (hlen : (out ++ nodeW (writeF d) n).length ≤ 140737488355328) :
    Calls Tryz.prog 104 #[.pointer (some ⟨b, 0, none⟩), .agg #[.string ⟨n.1.toArray⟩, av, kv, .string ⟨n.2.2.2.toArray⟩]] w
      fun e w' => e = .returned (.tuple #[]) ∧ WBd w' B b (out ++ nodeW (writeF d) n) ∧ WFr B b w w' := by
  obtain ⟨nm, al, k, tx⟩ := n
  simp only at hnm hA hKd hb hlen ⊢
  have hb1 : nm.length ≤ 1099511627776 := by unfold bulkN at hb; simp only at hb; omega
  have hb2 : bulkA al ≤ 1099511627776 := by unfold bulkN at hb; simp only at hb; omega
  have hb3 : bulkF d k ≤ 1099511627776 := by unfold bulkN at hb; simp only at hb; omega
  have hgl := hg.lt
  have HND : Hid (nodeW (writeF d) (nm, al, k, tx) = startW nm al ++ (if kindP nm = 1 then [] else (if kindP nm = 2 then rawW d k else writeF d k) ++ endW nm)) := by
    show _ = _
    unfold nodeW
    rw [if_neg hnm]
  obtain ⟨ka, kc, hkv⟩ := hKd.form
  subst hkv
  have HWS : Hid (∀ w1, Kept [] w0 w1 → WBd w1 B b out → B ≤ w1.heap.size → Calls Tryz.prog 168 #[.pointer (some ⟨b, 0, none⟩), .agg #[.string ⟨nm.toArray⟩, av, .slice ka (glen d k) kc, .string ⟨tx.toArray⟩]] w1
      fun e w' => e = .returned (.tuple #[]) ∧ WBd w' B b (out ++ startW nm al) ∧ WFr B b w1 w') := fun w1 hK1 h1 hB1 =>
    writeStart_any B b out nm al _ tx av w1 h1 (hA.kept hK1) ⟨_, _, _, rfl⟩ hB1 hb2 hb1 (by have h2 := hlen; rw [HND.out] at h2; simp only [List.length_append] at h2 ⊢; omega) (hg.kept hK1 (by simp) (by simp)) ⟨by omega, by omega⟩ (fun w' hf => hA.kept (hf.base hK1 hB0))
  have HKD : Hid _ := hKd
  obtain ⟨aa, ac, hav⟩ := hA.form
  subst hav
  have HL : Hid _ := hlen
  clear hA hKd hlen hb
  have hk0 : Kept [] w (w.alloc (.cells #[.string ⟨nm.toArray⟩, .slice aa al.length ac, .slice ka (glen d k) kc, .string ⟨tx.toArray⟩] 42)) := (Kept.refl [] _).alloc _
  have hbx := heap_alloc_new w (.cells #[.string ⟨nm.toArray⟩, .slice aa al.length ac, .slice ka (glen d k) kc, .string ⟨tx.toArray⟩] 42)
  have hf0 : WFr B b w _ := WFr.ofKept (b := b) hk0 hB
  have hwb0 := h.kept hk0
  have hbw : w.heap.size ≠ b := by have := h.lt; omega
  have hB1 := Nat.le_trans hB hk0.size
  have hcat : ∀ a b : List UInt8, (⟨a.toArray⟩ : ByteArray) ++ ⟨b.toArray⟩ = ⟨(a ++ b).toArray⟩ := ba_cat
  go_enter Tryz.func104, Tryz.ntmps104
  go_wp2_with fail
  refine (HWS.out _ (hK.trans hk0) hwb0 hB1).mono ?_
  rintro e w1 ⟨rfl, hwb1, hf1⟩
  have hbx1 := hf1.box hbx hbw (by decide)
  have hF1 := hf0.trans hf1
  have hK1 := hF1.base hK hB0
  have hBr := Nat.le_trans hB hF1.size
  obtain ⟨⟨q0, q1, q2, q3⟩, _⟩ := cells4 hbx1
  clear hk0 hbx hf0 hwb0 hf1 hB1
  go_wp2_with fail
  refine (kindOf_any _ _).mono ?_
  rintro e w2 ⟨rfl, rfl⟩
  have hks : (({ data := nm.toArray } : ByteArray).data.toList) = nm := by simp
  rw [hks]
  clear hks
  by_cases h1 : kindP nm = 1
  · have HR : Hid (nodeW (writeF d) (nm, al, k, tx) = startW nm al) := by show _ = _; rw [HND.out, if_pos h1, List.append_nil]
    rw [h1]
    clear h1
    go_wp2_with fail
    refine bodyPost_ret (v := .tuple #[]) (by simp [results, Tryz.results104, go_sem]) rfl ?_
    rw [HR.out]
    exact ⟨rfl, hwb1, hF1⟩
  · by_cases h2 : kindP nm = 2
    · have HR : Hid (out ++ nodeW (writeF d) (nm, al, k, tx) = out ++ startW nm al ++ rawW d k ++ endW nm) := by show _ = _; rw [HND.out, if_neg h1, if_pos h2]; simp
      have hl2 := HL.out
      rw [HR.out] at hl2
      have HL2 : Hid _ := hl2
      rw [h2]
      clear h1 h2 hl2
      go_wp2_with fail
      refine (writeRaw_any w0 B b d _ k _ _ HKD.out hb3 hK1 hB0 hwb1 hBr (by have := HL2.out; simp only [List.length_append] at this ⊢; omega)).mono ?_
      rintro e w3 ⟨rfl, hwb3, hf3⟩
      have hbx3 := hf3.box hbx1 hbw (by decide)
      have hF3 := hF1.trans hf3
      have hB3 := Nat.le_trans hB hF3.size
      clear q0 q1 q2 q3
      obtain ⟨⟨q0, q1, q2, q3⟩, _⟩ := cells4 hbx3
      go_wp2_with fail
      refine (ws_any B b (out ++ startW nm al ++ rawW d k) (60 :: 47 :: (nm ++ [62])) _ hwb3 HL2.out hB3).mono ?_
      rintro e w4 ⟨rfl, hwb4, hf4⟩
      go_wp2_with fail
      go_end0
      rw [HR.out]
      exact ⟨rfl, hwb4, hF3.trans hf4⟩
    · have HR : Hid (out ++ nodeW (writeF d) (nm, al, k, tx) = out ++ startW nm al ++ writeF d k ++ endW nm) := by show _ = _; rw [HND.out, if_neg h1, if_neg h2]; simp
      have hl2 := HL.out
      rw [HR.out] at hl2
      have HL2 : Hid _ := hl2
      have hk1 : (kindP nm == 1) = false := by simpa using h1
      have hk2 : (kindP nm == 2) = false := by simpa using h2
      clear h1 h2 hl2
      go_wp2_with fail
      refine (ih _ k _ _ HKD.out hb3 hK1 hwb1 hBr (by have := HL2.out; simp only [List.length_append] at this ⊢; omega)).mono ?_
      rintro e w3 ⟨rfl, hwb3, hf3⟩
      have hbx3 := hf3.box hbx1 hbw (by decide)
      have hF3 := hF1.trans hf3
      have hB3 := Nat.le_trans hB hF3.size
      clear q0 q1 q2 q3
      obtain ⟨⟨q0, q1, q2, q3⟩, _⟩ := cells4 hbx3
      go_wp2_with fail
      refine (ws_any B b (out ++ startW nm al ++ writeF d k) (60 :: 47 :: (nm ++ [62])) _ hwb3 HL2.out hB3).mono ?_
      rintro e w4 ⟨rfl, hwb4, hf4⟩
      go_wp2_with fail
      go_end0
      rw [HR.out]
      exact ⟨rfl, hwb4, hF3.trans hf4⟩
set_option maxHeartbeats 2000000 in
theorem writeList_zero (w0 : World) (B b : Nat) : WListOk w0 B b 0 := by
  intro v f out w hL hb hK h hB hlen
  obtain ⟨a, c, rfl⟩ := hL
  have HW : Hid (WBd w B b out) := h
  clear h hK
  go_enter Tryz.func71, Tryz.ntmps71
  go_wp2_with fail
  go_loopg [8] 0 (fun g x wr => g = 0 ∧ wr = w ∧ x = .int .i64 0)
  case atStart => exact ⟨rfl, rfl, rfl⟩
  case round =>
    obtain ⟨rfl, rfl, rfl⟩ := hrel
    go_wp2_with fail
    go_end0
    refine ⟨rfl, ?_, WFr.refl _ _ _⟩
    have e1 : out ++ writeF 0 f = out := by simp [writeF]
    rw [e1]
    exact HW.out
set_option maxHeartbeats 4000000 in
theorem writeList_succ (w0 : World) (B b : Nat) (hg : Glob w0) (hB0 : w0.heap.size ≤ B) (d : Nat) (ih : WListOk w0 B b d) : WListOk w0 B b (d + 1) := by
  intro v f out w hL hb hK h hB hlen
  have hfl := Nat.le_trans (bulkF_len f) hb
  have HBN : Hid (∀ n ∈ gnodes d f, bulkN (bulkF d) n ≤ 1099511627776) := fun n hn => Nat.le_trans (bulkF_mem hn) hb
  obtain ⟨a, c, rfl, hcells⟩ := hL
  have HC : Hid (∀ i (h : i < (gnodes d f).length), ∃ g o, a = some ⟨g, o, none⟩ ∧ LiesN (Lies d w0) w0 g (o + i * 4) (gnodes d f)[i]) := hcells
  have HR : Hid (writeF (d + 1) f = (gnodes d f).flatMap (nodeW (writeF d))) := rfl
  have HL : Hid _ := hlen
  clear hcells hb hlen
  generalize gnodes d f = l at *
  go_enter Tryz.func71, Tryz.ntmps71
  go_wp2_with fail
  go_loopg [8] l.length (fun g x wr => ∃ k : Nat, k ≤ l.length ∧ g = l.length - k ∧ x = .int .i64 (k : Int) ∧ WFr B b w wr ∧ WBd wr B b (out ++ (l.take k).flatMap (nodeW (writeF d))))
  case atStart => exact ⟨0, by omega, rfl, rfl, WFr.refl _ _ _, by simpa using h⟩
  case round =>
    obtain ⟨k, hk, hgk, rfl, hF, hwb⟩ := hrel
    have HG : Hid _ := hgk
    clear hgk
    have hBr : B ≤ wr.heap.size := Nat.le_trans hB hF.size
    have hKr := hF.base hK hB0
    by_cases hlt : k < l.length
    · have hlt' : (k : Int) < (l.length : Int) := by omega
      have hge : (0 : Int) ≤ (k : Int) := by omega
      obtain ⟨g, o, rfl, hn⟩ := HC.out k hlt
      have HT : Hid ((l.take (k + 1)).flatMap (nodeW (writeF d)) = (l.take k).flatMap (nodeW (writeF d)) ++ nodeW (writeF d) l[k]) := by show _ = _; rw [List.take_succ_eq_append_getElem hlt, List.flatMap_append]; simp
      have hln : (out ++ (l.take k).flatMap (nodeW (writeF d)) ++ nodeW (writeF d) l[k]).length ≤ 140737488355328 := by
        have h1 := HL.out
        rw [HR.out] at h1
        have e : l.flatMap (nodeW (writeF d)) = (l.take (k + 1)).flatMap (nodeW (writeF d)) ++ (l.drop (k + 1)).flatMap (nodeW (writeF d)) := by rw [← List.flatMap_append, List.take_append_drop]
        rw [e, HT.out] at h1
        simp only [List.length_append] at h1 ⊢
        omega
      have hbn := HBN.out l[k] (List.getElem_mem hlt)
      generalize l[k] = n at *
      generalize hout2 : out ++ (l.take k).flatMap (nodeW (writeF d)) = out2 at *
      have HO2 : Hid (out ++ (l.take k).flatMap (nodeW (writeF d)) = out2) := hout2
      clear hout2
      obtain ⟨av, kv, e0, e1, e2, e3, hA, hKd⟩ := hn
      have e0' := cell_kept hKr e0
      have e1' := cell_kept hKr e1
      have e2' := cell_kept hKr e2
      have e3' := cell_kept hKr e3
      have HWE : Hid (n.1 ≠ [] → ∀ w1, Kept [] w0 w1 → WBd w1 B b out2 → B ≤ w1.heap.size → Calls Tryz.prog 104 #[.pointer (some ⟨b, 0, none⟩), .agg #[.string ⟨n.1.toArray⟩, av, kv, .string ⟨n.2.2.2.toArray⟩]] w1
          fun e w' => e = .returned (.tuple #[]) ∧ WBd w' B b (out2 ++ nodeW (writeF d) n) ∧ WFr B b w1 w') := fun hne w1 hK1 h1 hB1 => writeElement_any w0 B b hg hB0 d ih n av kv out2 w1 hne hA hKd hbn hK1 h1 hB1 hln
      have HTW : Hid (n.1 = [] → nodeW (writeF d) n = escP [38, 60, 62] n.2.2.2) := fun e => by unfold nodeW; rw [if_pos e]
      have htl : n.2.2.2.length ≤ 1099511627776 := by unfold bulkN at hbn; omega
      obtain ⟨aa, ac, hav⟩ := hA.form
      obtain ⟨ka, kc, hkv⟩ := hKd.form
      subst hav hkv
      have HLN : Hid _ := hln
      clear e0 e1 e2 e3 hA hKd hbn hln
      generalize nodeW (writeF d) n = piece at *
      generalize n.1 = nm at *
      generalize n.2.2.2 = tx at *
      generalize n.2.1.length = an at *
      generalize glen d n.2.2.1 = kn at *
      have hkz : Kept [] wr (wr.alloc (.cells #[.string ⟨nm.toArray⟩, .slice aa an ac, .slice ka kn kc, .string ⟨tx.toArray⟩] 42)) := (Kept.refl [] _).alloc _
      have hwbz := hwb.kept hkz
      have hFz := hF.trans (WFr.ofKept (b := b) hkz hBr)
      have hKz := hKr.trans hkz
      have hBz := Nat.le_trans hBr hkz.size
      have hgz : Glob (wr.alloc (.cells #[.string ⟨nm.toArray⟩, .slice aa an ac, .slice ka kn kc, .string ⟨tx.toArray⟩] 42)) := hg.kept hKz (by simp) (by simp)
      clear hwb h
      by_cases hnm : nm = []
      · subst hnm
        have HPC : Hid (piece = escP [38, 60, 62] tx) := HTW.out rfl
        clear HWE HTW
        go_wp2_with fail
        refine (writeSigns_any tx [38, 60, 62] _ htl hgz).mono ?_
        rintro e w2 ⟨rfl, hk2⟩
        go_wp2_with fail
        refine (ws_any B b out2 (escP [38, 60, 62] tx) _ (hwbz.kept hk2) (by rw [← HPC.out]; exact HLN.out) (by have := hk2.size; omega)).mono ?_
        rintro e w3 ⟨rfl, hwb3, hf3⟩
        go_wp2_with fail
        go_roundg (l.length - (k + 1))
        case measure => rw [HG.out]; omega
        case rel =>
          refine ⟨k + 1, by omega, rfl, rfl, (hFz.trans (WFr.ofKept hk2 hBz)).trans hf3, ?_⟩
          rw [HT.out, ← List.append_assoc, HO2.out, HPC.out]
          exact hwb3
      · have hne : (nm == []) = false := by simpa using hnm
        have hne2 : nm.isEmpty = false := by simpa using hnm
        have HNE : Hid (nm ≠ []) := hnm
        clear hnm HTW
        go_wp2_with fail
        refine (HWE.out HNE.out _ hKz hwbz hBz).mono ?_
        rintro e w3 ⟨rfl, hwb3, hf3⟩
        go_wp2_with fail
        go_roundg (l.length - (k + 1))
        case measure => rw [HG.out]; omega
        case rel =>
          refine ⟨k + 1, by omega, rfl, rfl, hFz.trans hf3, ?_⟩
          rw [HT.out, ← List.append_assoc, HO2.out]
          exact hwb3
    · have hlt' : ((k : Int) < (l.length : Int)) = False := by simp; omega
      have HTK : Hid (l.take k = l) := List.take_of_length_le (by omega)
      rw [HTK.out] at hwb
      go_wp2_with fail
      go_end0
      rw [HR.out]
      exact ⟨rfl, hwb, hF⟩
theorem writeList_any (w0 : World) (B b : Nat) (hg : Glob w0) (hB0 : w0.heap.size ≤ B) : ∀ d, WListOk w0 B b d
  | 0 => writeList_zero w0 B b
  | d + 1 => writeList_succ w0 B b hg hB0 d (writeList_any w0 B b hg hB0 d)
set_option maxHeartbeats 1000000 in
theorem markup_any (d : Nat) (f : GF d) (v : Value) (w : World) (hL : Lies d w v f) (hb : bulkF d f ≤ 1099511627776) (hlen : (writeF d f).length ≤ 140737488355328) (hg : Glob w) :
    Calls Tryz.prog 49 #[v] w fun e w' => e = .returned (.string ⟨(writeF d f).toArray⟩) ∧ Kept [] w w' := by
  have hk0 : Kept [] w (w.alloc (.cells #[.pointer none, .slice none 0 0] 98)) := (Kept.refl [] _).alloc _
  have hwb0 : WBd (w.alloc (.cells #[.pointer none, .slice none 0 0] 98)) w.heap.size w.heap.size [] := Lib.IsBuilderF.of (.inl ⟨Nat.le_refl _, _, heap_alloc_new w _, World.ownsRow_nil _ _ _ _, by simp [Value.ownBlock]⟩)
  have HWL := writeList_any w w.heap.size w.heap.size hg (Nat.le_refl _) d v f [] _ hL hb hk0 hwb0 hk0.size (by simpa using hlen)
  have HW : Hid _ := HWL
  obtain ⟨va, vc, hv⟩ := hL.form
  subst hv
  clear HWL hL
  go_enter Tryz.func49, Tryz.ntmps49
  go_wp2_with fail
  refine Calls.mono HW.out ?_
  rintro e w1 ⟨rfl, hwb1, hf1⟩
  have hK1 := hf1.base hk0 (Nat.le_refl _)
  rw [List.nil_append] at hwb1
  go_wp2_with fail
  refine (Tryz.Builder_String_any_f w.heap.size w.heap.size (writeF d f) _ hwb1 hK1.size).mono ?_
  rintro e w2 ⟨rfl, _, hbl2⟩
  go_wp2_with fail
  go_ret
  exact ⟨rfl, hK1.trans_below hbl2⟩
end Go.Proofs.YtlpmjpmefdpcmaaGreatDoor
