import Derived.Test.YtlpmjpmefdpcmaaGreatDoorQTok3
namespace Go.Proofs.YtlpmjpmefdpcmaaGreatDoor
open Go.RowKit Scrub Go.Shelf
/-- A token in the walk's form. -/
def tokV (sort : Int) (name : List UInt8) (attrs : Value) (text : List UInt8) : Value := .agg #[.int .i64 sort, .string ⟨name.toArray⟩, attrs, .string ⟨text.toArray⟩]
/-- A token, or the empty one. -/
def tokOr (b : Bool) (v : Value) : Value := match b with | true => v | false => tokV 0 [] (.slice none 0 0) []
set_option maxHeartbeats 1000000 in
theorem end_any (rb : Nat) (m : ByteArray) (r : List UInt8) (w : World) (h : Rd w rb m r) (h2 : 2 ≤ r.length) (hm : m.size < 4294967281) (hg : Glob w) (hrb : 1 ∉ [rb] ∧ 0 ∉ [rb]) :
    Calls Tryz.prog 113 #[.pointer (some ⟨rb, 0, none⟩)] w
      fun e w' => e = .returned (.tuple #[tokOr (endP r).1 (tokV 2 (endP r).2.1 (.slice none 0 0) []), .bool (endP r).1]) ∧ Rd w' rb m (endP r).2.2 ∧ Kept [rb] w w' := by
  obtain ⟨k, hk, hr⟩ := h
  have hkm := hk.2
  have HR : Hid (r = m.data.toList.drop k) := hr
  have hrl : k + 2 ≤ m.size := by rw [hr] at h2; simp at h2; omega
  clear hr
  obtain ⟨c0, c1, c2⟩ := hk.cells
  have hrs := hk.lt
  go_enter Tryz.func113, Tryz.ntmps113
  go_wp2_with fail
  generalize hW1 : ((w.setCell ⟨rb, 1, none⟩ (.int .i64 ((k : Int) + 2))).alloc (.cells #[.int .i64 0, .string ⟨#[]⟩, .slice none 0 0, .string ⟨#[]⟩] 108)) = W1
  have hk1 : Kept [rb] w W1 := by rw [← hW1]; exact ((Kept.refl _ _).setCell (by simp) _).alloc _
  have hz1 : W1.heap.size = w.heap.size + 1 := by rw [← hW1]; simp [World.setCell]
  have hb1 : W1.heap[w.heap.size]? = some (.cells #[.int .i64 0, .string ⟨#[]⟩, .slice none 0 0, .string ⟨#[]⟩] 108 (0, 0)) := by
    rw [← hW1]
    have := heap_alloc_new (w.setCell ⟨rb, 1, none⟩ (.int .i64 ((k : Int) + 2))) (.cells #[.int .i64 0, .string ⟨#[]⟩, .slice none 0 0, .string ⟨#[]⟩] 108)
    simpa [World.setCell] using this
  have hrd1 : RdK W1 rb m (k + 2) := by
    rw [← hW1]
    exact (hk.set (k' := k + 2) hrl).kept ((Kept.refl [] _).alloc _) (by simp)
  clear hW1
  refine (pass_any rb m (r.drop 2) _ nameB _ ⟨k + 2, hrd1, by rw [HR.out, List.drop_drop]⟩ (by unfold maxLen; omega) enters_isNameByte isNameByte_any).mono ?_
  rintro e w2 ⟨⟨t, rfl, ht⟩, hrd2, hk2⟩
  have hts : t.size ≤ m.size := by
    have h1 : t.data.toList.length = t.size := by simp
    have h3 := takeWhile_le nameB (r.drop 2)
    rw [ht] at h1
    have h4 : r.length = m.size - k := by rw [HR.out]; simp
    simp at h3
    omega
  have HT : Hid (t.data.toList = (r.drop 2).takeWhile nameB) := ht
  clear ht
  go_wp2_with fail
  refine (small_any t _ (by omega)).mono ?_
  rintro e w3 ⟨rfl, hk3⟩
  go_wp2_with fail
  have hg3 : Glob w3 := ((hg.kept hk1 hrb.1 hrb.2).kept hk2 hrb.1 hrb.2).kept hk3 (by simp) (by simp)
  refine (passTo_any rb m _ ((r.drop 2).dropWhile nameB) _ (hrd2.kept hk3 (by simp)) hm hg3).mono ?_
  rintro e w4 ⟨rfl, hrd4, hk4⟩
  have hkk : Kept [rb] W1 w4 := (hk2.trans (hk3.mono (by simp))).trans hk4
  have hb4 : w4.heap[w.heap.size]? = some (.cells #[.int .i64 0, .string ⟨#[]⟩, .slice none 0 0, .string ⟨#[]⟩] 108 (0, 0)) := by
    rw [hkk.block _ (by omega) (by simp; omega)]
    exact hb1
  obtain ⟨⟨q0, q1, q2, q3⟩, ⟨f0, f1, f2, f3⟩⟩ := cells4 hb4
  have HEP : Hid ((endP r).2.1 = small t.data.toList) := by show _ = _; rw [HT.out]; rfl
  have HER : Hid ((endP r).2.2 = (Lib.cut ((r.drop 2).dropWhile nameB) [62]).2.1) := rfl
  have hrd4' : Rd w4 rb m (Lib.cut ((r.drop 2).dropWhile nameB) [62]).2.1 := hrd4
  have hkall : Kept [rb] w w4 := hk1.trans hkk
  clear hrd4 hb1 hb4 hrd1 hk1 hk2 hk3 hk4 hg3 hrd2
  cases hf : (Lib.cut ((r.drop 2).dropWhile nameB) [62]).2.2 with
  | true =>
    have HEF : Hid ((endP r).1 = true) := hf
    go_wp2_with fail
    refine bodyPost_ret (v := .tuple #[.agg #[.int .i64 2, .string ⟨(small t.data.toList).toArray⟩, .slice none 0 0, .string ⟨#[]⟩], .bool true]) (by simp [results, Tryz.results113, go_sem, q0, q1, q2, q3]) rfl ⟨?_, ?_, ?_⟩
    · rw [HEP.out, HEF.out]; rfl
    · rw [HER.out]; exact Rd.kept hrd4' ((Kept.refl [w.heap.size] w4).set4 (by simp) _ _ _ _) (by simp; omega)
    · exact hkall.set4 (by simp) _ _ _ _
  | false =>
    have HEF : Hid ((endP r).1 = false) := hf
    go_wp2_with fail
    refine bodyPost_ret (v := .tuple #[.agg #[.int .i64 0, .string ⟨#[]⟩, .slice none 0 0, .string ⟨#[]⟩], .bool false]) (by simp [results, Tryz.results113, go_sem, q0, q1, q2, q3]) rfl ⟨?_, ?_, ?_⟩
    · rw [HEF.out]; rfl
    · rw [HER.out]; exact Rd.kept hrd4' ((Kept.refl [w.heap.size] w4).set4 (by simp) _ _ _ _) (by simp; omega)
    · exact hkall.set4 (by simp) _ _ _ _
end Go.Proofs.YtlpmjpmefdpcmaaGreatDoor
namespace Go.Proofs.YtlpmjpmefdpcmaaGreatDoor
open Go.RowKit Scrub Go.Shelf
set_option maxHeartbeats 2000000 in
theorem text_any (rb : Nat) (m : ByteArray) (r : List UInt8) (w : World) (h : Rd w rb m r) (hm : m.size ≤ 1099511627776) (hg : Glob w) (hrb : 1 ∉ [rb] ∧ 0 ∉ [rb]) :
    Calls Tryz.prog 115 #[.pointer (some ⟨rb, 0, none⟩)] w
      fun e w' => e = .returned (tokV 0 [] (.slice none 0 0) (signs (textP r).1)) ∧ Rd w' rb m (textP r).2 ∧ Kept [rb] w w' := by
  obtain ⟨k0, hk, hr⟩ := h
  have HR : Hid (r = m.data.toList.drop k0) := hr
  clear hr
  have H := hk
  obtain ⟨h0, h1, h2⟩ := hk.cells
  have hk2 := hk.2
  have hrs := hk.lt
  clear hk
  go_enter Tryz.func115, Tryz.ntmps115
  go_wp2_with fail
  go_loopg [] (m.size - k0) (fun g wr => ∃ k : Nat, k0 ≤ k ∧ g = m.size - k ∧ RdK wr rb m k ∧ Kept [rb] w wr ∧ wr.heap[w.heap.size]? = some (.cells #[.int .i64 0, .string ⟨#[]⟩, .slice none 0 0, .string ⟨#[]⟩] 108 (0, 0)) ∧ RunInv (fun x => beginsP x != 0) m.data.toList k0 k)
  case atStart => exact ⟨k0, Nat.le_refl _, rfl, H.kept ((Kept.refl [] _).alloc _) (by simp), (Kept.refl _ _).alloc _, heap_alloc_new w _, RunInv.start _ _ _⟩
  case round =>
    obtain ⟨k, hk0, hg', hrd, hkept, hres, hpi⟩ := hrel
    obtain ⟨g0, g1, g2⟩ := hrd.cells
    obtain ⟨⟨q0, q1, q2, q3⟩, ⟨f0, f1, f2, f3⟩⟩ := cells4 hres
    have hkm := hrd.2
    have hb1 : (0 : Int) ≤ (k : Int) := by omega
    have hb0 : (0 : Int) ≤ (k0 : Int) := by omega
    have hb3 : (k0 : Int) ≤ (k : Int) := by omega
    have hb4 : (k : Int) ≤ (m.size : Int) := by omega
    have HG : Hid (gk = m.size - k) := hg'
    have HRES : Hid _ := hres
    have hlt0 : w.heap.size < wr.heap.size := (Array.getElem?_eq_some_iff.1 hres).1
    clear hg' h0 h1 h2 hres
    have fin : (m.size ≤ k ∨ (beginsP (m.data.toList.drop k) != 0) = true) → Hid (signs (textP r).1 = signs (List.take (k - k0) (List.drop k0 m.data.toList)) ∧ (textP r).2 = List.drop k m.data.toList) := by
      intro hs
      have hst := hpi.stop (by rcases hs with hs | hs; exact .inl (by simpa using hs); exact .inr hs)
      rw [HR.out]
      exact ⟨by rw [textP, hst.1], hst.2⟩
    by_cases hlt : k < m.size
    · have hdn : decide (m.size ≤ k) = false := by simp; omega
      have hne : m.data.toList.drop k ≠ [] := by
        intro e
        have := congrArg List.length e
        simp at this
        omega
      cases hp : (beginsP (m.data.toList.drop k) == 0) with
      | true =>
        clear fin
        go_wp2_with fail
        refine (done_k rb m k _ hrd).mono ?_
        rintro e w1 ⟨rfl, n1, rfl⟩
        go_wp2_with fail
        refine (begins_any rb m _ _ ⟨k, hrd.drewN _, rfl⟩ hne).mono ?_
        rintro e w2 ⟨rfl, n2, rfl⟩
        go_wp2_with fail
        go_roundg (m.size - (k + 1))
        case measure => rw [HG.out]; omega
        case rel => exact ⟨k + 1, by omega, rfl, (hrd.drewN _).set (k' := k + 1) (by omega), (hkept.drewN _).setCell (by simp) _, by rw [Below.heap_setCell _ _ _ _ (by show _ ≠ rb; omega)]; exact HRES.out, hpi.step hk0 (by simpa using hlt) (by simpa using hp)⟩
      | false =>
        have HF := fin (.inr (by simpa using hp))
        clear fin
        go_wp2_with fail
        refine (done_k rb m k _ hrd).mono ?_
        rintro e w1 ⟨rfl, n1, rfl⟩
        go_wp2_with fail
        refine (begins_any rb m _ _ ⟨k, hrd.drewN _, rfl⟩ hne).mono ?_
        rintro e w2 ⟨rfl, n2, rfl⟩
        go_wp2_with fail
        go_region_with (go_at_call 187; refine (readSigns_any _ _ (by simp; omega) ((hg.kept hkept hrb.1 hrb.2).drewN _)).mono ?_; rintro e w3 ⟨rfl, hk3⟩; obtain ⟨⟨p0, p1, p2, p3⟩, ⟨e0, e1, e2, e3⟩⟩ := cells4 ((hk3.block w.heap.size hlt0 (by simp)).trans HRES.out))
        all_goals
          go_wp2_with fail
          refine bodyPost_ret (v := .agg #[.int .i64 0, .string ⟨#[]⟩, .slice none 0 0, .string ⟨(signs (List.take (k - k0) (List.drop k0 m.data.toList))).toArray⟩]) (by simp [results, Tryz.results115, go_sem, p0, p1, p2, p3]) rfl ⟨?_, ?_, ?_⟩
          · rw [HF.out.1]; rfl
          · rw [HF.out.2]; exact ⟨k, RdK.kept (RdK.kept (w := wr.drewN _) (hrd.drewN _) hk3 (by simp)) ((Kept.refl [w.heap.size] w3).set4 (by simp) _ _ _ _) (by simp; omega), rfl⟩
          · exact ((hkept.drewN _).trans (hk3.mono (by simp))).set4 (by simp) _ _ _ _
    · have HF := fin (.inl (by omega))
      have hdn : decide (m.size ≤ k) = true := by simp; omega
      clear fin
      go_wp2_with fail
      refine (done_k rb m k _ hrd).mono ?_
      rintro e w1 ⟨rfl, n1, rfl⟩
      go_wp2_with fail
      go_region_with (go_at_call 187; refine (readSigns_any _ _ (by simp; omega) ((hg.kept hkept hrb.1 hrb.2).drewN _)).mono ?_; rintro e w3 ⟨rfl, hk3⟩; obtain ⟨⟨p0, p1, p2, p3⟩, ⟨e0, e1, e2, e3⟩⟩ := cells4 ((hk3.block w.heap.size hlt0 (by simp)).trans HRES.out))
      all_goals
        go_wp2_with fail
        refine bodyPost_ret (v := .agg #[.int .i64 0, .string ⟨#[]⟩, .slice none 0 0, .string ⟨(signs (List.take (k - k0) (List.drop k0 m.data.toList))).toArray⟩]) (by simp [results, Tryz.results115, go_sem, p0, p1, p2, p3]) rfl ⟨?_, ?_, ?_⟩
        · rw [HF.out.1]; rfl
        · rw [HF.out.2]; exact ⟨k, RdK.kept (RdK.kept (w := wr.drewN _) (hrd.drewN _) hk3 (by simp)) ((Kept.refl [w.heap.size] w3).set4 (by simp) _ _ _ _) (by simp; omega), rfl⟩
        · exact ((hkept.drewN _).trans (hk3.mono (by simp))).set4 (by simp) _ _ _ _
end Go.Proofs.YtlpmjpmefdpcmaaGreatDoor
