import Derived.Test.YtlpmjpmefdpcmaaGreatDoorQCl7
import Derived.Test.YtlpmjpmefdpcmaaGreatDoorQParse
import Derived.Test.YtlpmjpmefdpcmaaGreatDoorQWrite
namespace Go.Proofs.YtlpmjpmefdpcmaaGreatDoor
open Go.RowKit Scrub Go.Shelf
theorem Tree.lies {w : World} {v : Value} {ev : List Ev} {fp : List Nat} (h : Tree w v ev fp) : ∃ (d : Nat) (f : GF d), Lies d w v f ∧ evF d f = ev ∧ niceF d f := by
  obtain ⟨d, hr⟩ := h
  obtain ⟨f, h1, h2, h3⟩ := Rep.lies d hr
  exact ⟨d, f, h1, h2, h3⟩
/-- Ahead of a round: k rounds are left. -/
def RnInv (p : Pol) (s : List UInt8) (w : World) (bx : Obj) (k : Nat) (lv : Value) (wr : World) : Prop :=
  Kept [] w wr ∧ wr.heap[w.heap.size]? = some bx ∧ ∃ (d : Nat) (f : GF d), Lies d wr lv f ∧ niceF d f ∧ fitEv [] (evF d f) ∧ evW (aW k) (k + 1) 1 (evF d f) ≤ 1068000 ∧ roundsP p k (evF d f) = cleanP p s
theorem evBulk_le {k : Nat} {l : List Ev} (h : evW (aW k) (k + 1) 1 l ≤ 1068000) : evBulk l ≤ 1068000 := Nat.le_trans (evBulk_w (aW_pos k) (by omega) (by omega) l) h
theorem filt_le {k : Nat} {l : List Ev} (p : Pol) (h : evW (aW k) (k + 1) 1 l ≤ 1068000) : evBulk (filtE p l) ≤ 1068000 := Nat.le_trans (evBulk_w (aW_pos k) (by omega) (by omega) _) (Nat.le_trans (filt_w _ _ _ p l) h)
theorem clean_rounds (p : Pol) (s : List UInt8) : roundsP p 8 (readP s) = cleanP p s := rfl
set_option maxRecDepth 100000 in
set_option maxHeartbeats 4000000 in
theorem cleanM_any (ev av : Value) (p : Pol) (s : ByteArray) (w : World) (hp : PreC ev av p w) (hg : Glob w) (hs : s.size ≤ 600) :
    Calls Tryz.prog 52 #[.agg #[ev, av], .string s] w fun e w' => e = .returned (.string ⟨(cleanP p s.data.toList).toArray⟩) ∧ Kept [] w w' := by
  have HG : Hid (∀ w', Kept [] w w' → Glob w') := fun w' hk => hg.kept hk (by simp) (by simp)
  have HP : Hid (∀ w', Kept [] w w' → PreC ev av p w') := fun w' hk => hp.kept hk
  obtain ⟨a1, c1, rfl⟩ := hp.1.1.form
  obtain ⟨a2, c2, rfl⟩ := hp.1.2.form
  clear hp hg
  have hk1 : Kept [] w (w.alloc (.cells #[.slice a1 p.1.length c1, .slice a2 p.2.length c2] 33)) := (Kept.refl [] w).alloc _
  have HRD : Hid _ := read_any s (w.alloc (.cells #[.slice a1 p.1.length c1, .slice a2 p.2.length c2] 33)) (by omega) (HG.out _ hk1)
  have hfirst := first_w s.data.toList (by simpa using hs)
  have hfit := (read_fit s.data.toList).1
  have HF1 : Hid _ := hfirst
  have HF2 : Hid _ := hfit
  clear hfirst hfit
  go_enter Tryz.func52, Tryz.ntmps52
  go_wp2_with fail
  refine Calls.mono HRD.out ?_
  rintro e w1 ⟨v1, fp1, rfl, ht1, hnd1, hb1, hk2⟩
  have hbx : w1.heap[w.heap.size]? = some (.cells #[.slice a1 p.1.length c1, .slice a2 p.2.length c2] 33 (0, 0)) := (hk2.block _ (by simp) (by simp)).trans (heap_alloc_new w _)
  obtain ⟨d0, f0, hl0, he0, hn0⟩ := ht1.lies
  have hR : RnInv p s.data.toList w (.cells #[.slice a1 p.1.length c1, .slice a2 p.2.length c2] 33 (0, 0)) 8 v1 w1 := by
    refine ⟨hk1.trans hk2, hbx, d0, f0, hl0, hn0, ?_, ?_, ?_⟩
    · rw [he0]; exact HF2.out
    · rw [he0]; exact HF1.out
    · rw [he0]; exact clean_rounds p _
  have HR : Hid (RnInv _ _ _ _ _ _ _) := hR
  obtain ⟨va, vc, hv⟩ := hl0.form
  subst hv
  clear hR hl0 he0 hn0 hbx ht1 hnd1 hb1 HRD HF1 HF2
  generalize glen d0 f0 = vn at *
  go_wp2_with fail
  go_loopg [5, 10] 8 (fun g lv x wr => ∃ k : Nat, k ≤ 8 ∧ g = k ∧ x = .int .i64 ((8 : Int) - k) ∧ (∃ a n c, lv = .slice a n c) ∧ RnInv p s.data.toList w (.cells #[.slice a1 p.1.length c1, .slice a2 p.2.length c2] 33 (0, 0)) k lv wr)
  case atStart => exact ⟨8, by omega, rfl, rfl, ⟨_, _, _, rfl⟩, HR.out⟩
  case round =>
    obtain ⟨k, hk, hgk, rfl, ⟨la, ln, lc, rfl⟩, hkept, hbx, d, f, hL, hni, hft, hW, hro⟩ := hrel
    have HGK : Hid _ := hgk
    clear hgk
    have q0 : wr.cell? ⟨w.heap.size, 0, none⟩ = some (.slice a1 p.1.length c1) := by simp [World.cell?, hbx]
    have q1 : wr.cell? ⟨w.heap.size, 1, none⟩ = some (.slice a2 p.2.length c2) := by simp [World.cell?, hbx]
    have hlt0 : w.heap.size < wr.heap.size := (Array.getElem?_eq_some_iff.1 hbx).1
    have HBX : Hid _ := hbx
    cases k with
    | zero =>
      have HRO : Hid ([] = cleanP p s.data.toList) := hro
      clear hbx hL hni hft hW hro
      go_wp2_with fail
      go_ret
      exact ⟨by rw [← HRO.out]; rfl, hkept⟩
    | succ k =>
      have hlt' : (8 : Int) - ((k + 1 : Nat) : Int) < 8 := by omega
      have hbk := evBulk_le hW
      have hfk := filt_le p hW
      have hrw := round_w k p hft
      have hfi := fit_filt p hft
      have hfr := read_fit (wEv [] (filtE p (evF d f)))
      have HFT : Hid (Calls Tryz.prog 74 #[.agg #[.slice a1 p.1.length c1, .slice a2 p.2.length c2], .slice la ln lc] wr fun e w'' => ∃ v' ns, e = .returned v' ∧ Left (wr.heap.size + 1) w'' v' ns ∧ evsOf ns = mergeE (rawF p d f) ∧ Kept [] wr w'') :=
        filter_any _ _ p d f _ wr (HP.out _ hkept) hL hni (by rw [bulkF_ev d f hni]; omega)
      have HPURE : Hid ((fitEv [] (filtE p (evF d f)) ∧ evBulk (filtE p (evF d f)) ≤ 1068000) ∧ filtE p (evF d f) = mergeE (rawF p d f) ∧ (fitEv [] (readP (wEv [] (filtE p (evF d f)))) ∧ evW (aW k) (k + 1) 1 (readP (wEv [] (filtE p (evF d f)))) ≤ 1068000) ∧ (if sameEv (readP (wEv [] (filtE p (evF d f)))) (filtE p (evF d f)) = true then wEv [] (filtE p (evF d f)) else roundsP p k (readP (wEv [] (filtE p (evF d f))))) = cleanP p s.data.toList) :=
        ⟨⟨hfi, hfk⟩, filtE_tree p d f, ⟨hfr.1, Nat.le_trans hrw hW⟩, hro⟩
      generalize filtE p (evF d f) = FE at *
      clear hbx hL hni hft hW hro hbk hfk hrw hfi hfr
      generalize mergeE (rawF p d f) = ME at *
      go_wp2_with fail
      refine Calls.mono HFT.out ?_
      rintro e w2 ⟨v2, ns, rfl, hlf, hev, hk3⟩
      obtain ⟨⟨h1, h2⟩, h3, ⟨h4, h5⟩, h6⟩ := HPURE.out
      obtain ⟨d2, f2, hL2, he2, hn2⟩ := hlf.tree.lies
      have hb2 : bulkF d2 f2 ≤ 1068000 := by rw [bulkF_ev d2 f2 hn2, he2, hev, ← h3]; exact h2
      have hwf := fit_write hn2 (by rw [he2, hev, ← h3]; exact h1)
      have hwl := writeF_len d2 f2
      have heF : evF d2 f2 = FE := by rw [he2, hev, ← h3]
      rw [heF] at hwf
      have HMK : Hid (Calls Tryz.prog 49 #[v2] w2 fun e w'' => e = .returned (.string ⟨(wEv [] FE).toArray⟩) ∧ Kept [] w2 w'') := by
        have := markup_any d2 f2 v2 w2 hL2 (by omega) (by omega) (HG.out _ (hkept.trans hk3))
        rw [hwf.1] at this
        exact this
      have hWl : (wEv [] FE).length ≤ 8544000 := by rw [← hwf.1]; omega
      have HL2 : Hid (Lies d2 w2 v2 f2) := hL2
      have HE2 : Hid (evF d2 f2 = FE) := heF
      have HN2 : Hid (niceF d2 f2) := hn2
      obtain ⟨a3, c3, hv2⟩ := hL2.form
      subst hv2
      generalize glen d2 f2 = n2 at *
      clear hlf hev hL2 he2 hn2 heF hwf hwl h1 h2 h3 h4 h5 h6 HFT
      have hk4 := hkept.trans hk3
      go_wp2_with fail
      refine Calls.mono HMK.out ?_
      rintro e w3 ⟨rfl, hk5⟩
      have hk6 := hk4.trans hk5
      have hsz : (⟨(wEv [] FE).toArray⟩ : ByteArray).size = (wEv [] FE).length := by simp [ByteArray.size]
      have HRD : Hid _ := read_any ⟨(wEv [] FE).toArray⟩ w3 (by rw [hsz]; omega) (HG.out _ hk6)
      go_wp2_with fail
      refine Calls.mono HRD.out ?_
      rintro e w4 ⟨v4, fp4, rfl, ht4, hnd4, hb4, hk7⟩
      have ht4' : Tree w4 v4 (readP (wEv [] FE)) fp4 := ht4
      obtain ⟨d4, f4, hL4, he4, hn4⟩ := ht4'.lies
      obtain ⟨⟨h1, h2⟩, h3, ⟨h4, h5⟩, h6⟩ := HPURE.out
      have hb4' : bulkF d4 f4 ≤ 1068000 := by rw [bulkF_ev d4 f4 hn4, he4]; exact evBulk_le h5
      have HSM : Hid (Calls Tryz.prog 75 #[v4, .slice a3 n2 c3] w4 (EFPost (SameF d4 d2 f4 f2) w4)) := sameC_any d4 d2 f4 f2 v4 _ w4 hL4 (HL2.out.kept d2 (hk5.trans hk7)) (by omega)
      have hsf : SameF d4 d2 f4 f2 ↔ sameEv (readP (wEv [] FE)) FE = true := by
        rw [sameEv_iff]
        constructor
        · intro h
          have := h.ev
          rw [he4, HE2.out] at this
          exact this
        · intro h
          exact sameF_of hn4 HN2.out (by rw [he4, HE2.out]; exact h)
      have HSF : Hid _ := hsf
      have hk8 := hk6.trans hk7
      have hbx4 : w4.heap[w.heap.size]? = some (.cells #[.slice a1 p.1.length c1, .slice a2 p.2.length c2] 33 (0, 0)) := (((hk3.trans hk5).trans hk7).block _ hlt0 (by simp)).trans HBX.out
      have hR : ∀ w5, Kept [] w4 w5 → ¬ sameEv (readP (wEv [] FE)) FE = true → RnInv p s.data.toList w (.cells #[.slice a1 p.1.length c1, .slice a2 p.2.length c2] 33 (0, 0)) k v4 w5 := by
        intro w5 hk9 hne
        rw [if_neg hne] at h6
        refine ⟨hk8.trans hk9, (hk9.block _ (by have := hk8.size; have := (hk3.trans hk5).trans hk7 |>.size; omega) (by simp)).trans hbx4, d4, f4, hL4.kept d4 hk9, hn4, ?_, ?_, ?_⟩
        · rw [he4]; exact h4
        · rw [he4]; exact h5
        · rw [he4]; exact h6
      have HR2 : Hid _ := hR
      have HT : Hid (sameEv (readP (wEv [] FE)) FE = true → wEv [] FE = cleanP p s.data.toList) := fun h => by rw [if_pos h] at h6; exact h6
      obtain ⟨a5, c5, hv4⟩ := hL4.form
      subst hv4
      generalize glen d4 f4 = n4 at *
      clear h1 h2 h3 h4 h5 h6 ht4 ht4' hnd4 hb4 hb4' hL4 he4 hn4 hsf hbx4 hR HRD HMK
      go_wp2_with fail
      refine Calls.mono HSM.out ?_
      rintro e w5 ⟨r, rfl, hr, hk9⟩
      cases r with
      | true =>
        have h := HT.out (HSF.out.1 (hr.1 rfl))
        have HH : Hid _ := h
        clear h hr
        go_wp2_with fail
        go_ret
        exact ⟨by rw [← HH.out]; rfl, hk8.trans hk9⟩
      | false =>
        have hne : ¬ sameEv (readP (wEv [] FE)) FE = true := fun h => by have := hr.2 (HSF.out.2 h); simp at this
        have h := HR2.out w5 hk9 hne
        have HH : Hid (RnInv _ _ _ _ _ _ _) := h
        clear h hne hr
        go_wp2_with fail
        go_roundg k
        case measure => rw [HGK.out]; omega
        case rel => exact ⟨k, by omega, rfl, by congr 1; omega, ⟨_, _, _, rfl⟩, HH.out⟩
end Go.Proofs.YtlpmjpmefdpcmaaGreatDoor
namespace Go.Proofs.YtlpmjpmefdpcmaaGreatDoor
open Go.RowKit Scrub Go.Shelf
theorem isPol_len {p : Pol} (h : isPolP p = true) : p.1.length ≤ 12 ∧ p.2.length ≤ 12 := by
  unfold isPolP areNamesP at h
  simp only [Bool.and_eq_true, decide_eq_true_eq] at h
  exact ⟨h.1.1, h.2.1⟩
set_option maxHeartbeats 1000000 in
theorem clean_bad (ev av : Value) (p : Pol) (s : ByteArray) (w : World) (hp : PolAt w ev av p) (hb : isPolP p = false) :
    Calls Tryz.prog 20 #[.agg #[ev, av], .string s] w fun e w' => e = .returned (.tuple #[.string ⟨#[]⟩, .int .i64 4]) ∧ Kept [] w w' := by
  have HI : Hid (∀ w', Kept [] w w' → Calls Tryz.prog 50 #[.agg #[ev, av]] w' fun e w'' => e = .returned (.bool false) ∧ Kept [] w' w'') := fun w' hk => by
    have := isPolicy_any ev av p w' (hp.kept hk)
    rw [hb] at this
    exact this
  obtain ⟨a1, c1, rfl⟩ := hp.1.form
  obtain ⟨a2, c2, rfl⟩ := hp.2.form
  clear hp hb
  generalize p.1.length = n1 at *
  generalize p.2.length = n2 at *
  have hk1 : Kept [] w (w.alloc (.cells #[.slice a1 n1 c1, .slice a2 n2 c2] 33)) := (Kept.refl [] w).alloc _
  go_enter Tryz.func20, Tryz.ntmps20
  go_wp2_with fail
  refine (HI.out _ hk1).mono ?_
  rintro e w1 ⟨rfl, hk2⟩
  go_wp2_with fail
  refine bodyPost_ret (v := .tuple #[.string ⟨#[]⟩, .int .i64 4]) (by simp [results, Tryz.results20, go_sem]) rfl ?_
  exact ⟨rfl, hk1.trans hk2⟩
set_option maxHeartbeats 1000000 in
theorem clean_long (ev av : Value) (p : Pol) (s : ByteArray) (w : World) (hp : PolAt w ev av p) (hb : isPolP p = true) (hs : 600 < s.size) :
    Calls Tryz.prog 20 #[.agg #[ev, av], .string s] w fun e w' => e = .returned (.tuple #[.string ⟨#[]⟩, .int .i64 1]) ∧ Kept [] w w' := by
  have HI : Hid (∀ w', Kept [] w w' → Calls Tryz.prog 50 #[.agg #[ev, av]] w' fun e w'' => e = .returned (.bool true) ∧ Kept [] w' w'') := fun w' hk => by
    have := isPolicy_any ev av p w' (hp.kept hk)
    rw [hb] at this
    exact this
  have HL : Hid (∀ w', Calls Tryz.prog 51 #[.string s] w' fun e w'' => e = .returned (.bool true) ∧ w'' = w') := fun w' => by
    have := isLong_any s w'
    rw [decide_eq_true hs] at this
    exact this
  obtain ⟨a1, c1, rfl⟩ := hp.1.form
  obtain ⟨a2, c2, rfl⟩ := hp.2.form
  clear hp hb hs
  generalize p.1.length = n1 at *
  generalize p.2.length = n2 at *
  have hk1 : Kept [] w (w.alloc (.cells #[.slice a1 n1 c1, .slice a2 n2 c2] 33)) := (Kept.refl [] w).alloc _
  go_enter Tryz.func20, Tryz.ntmps20
  go_wp2_with fail
  refine (HI.out _ hk1).mono ?_
  rintro e w1 ⟨rfl, hk2⟩
  go_wp2_with fail
  refine (HL.out _).mono ?_
  rintro e w2 ⟨rfl, rfl⟩
  go_wp2_with fail
  refine bodyPost_ret (v := .tuple #[.string ⟨#[]⟩, .int .i64 1]) (by simp [results, Tryz.results20, go_sem]) rfl ?_
  exact ⟨rfl, hk1.trans hk2⟩
set_option maxHeartbeats 1000000 in
theorem clean_ok (ev av : Value) (p : Pol) (s : ByteArray) (w : World) (hp : PolAt w ev av p) (hg : Glob w) (hgb : GlobB w) (hb : isPolP p = true) (hs : s.size ≤ 600) :
    Calls Tryz.prog 20 #[.agg #[ev, av], .string s] w fun e w' => e = .returned (.tuple #[.string ⟨(cleanP p s.data.toList).toArray⟩, .int .i64 0]) ∧ Kept [] w w' := by
  have HI : Hid (∀ w', Kept [] w w' → Calls Tryz.prog 50 #[.agg #[ev, av]] w' fun e w'' => e = .returned (.bool true) ∧ Kept [] w' w'') := fun w' hk => by
    have := isPolicy_any ev av p w' (hp.kept hk)
    rw [hb] at this
    exact this
  have HL : Hid (∀ w', Calls Tryz.prog 51 #[.string s] w' fun e w'' => e = .returned (.bool false) ∧ w'' = w') := fun w' => by
    have := isLong_any s w'
    rw [decide_eq_false (by omega)] at this
    exact this
  obtain ⟨hl1, hl2⟩ := isPol_len hb
  have HM : Hid (∀ w', Kept [] w w' → Calls Tryz.prog 52 #[.agg #[ev, av], .string s] w' fun e w'' => e = .returned (.string ⟨(cleanP p s.data.toList).toArray⟩) ∧ Kept [] w' w'') := fun w' hk => cleanM_any ev av p s w' ⟨hp.kept hk, hgb.kept hk, by omega, by omega⟩ (hg.kept hk (by simp) (by simp)) hs
  obtain ⟨a1, c1, rfl⟩ := hp.1.form
  obtain ⟨a2, c2, rfl⟩ := hp.2.form
  clear hp hb hs hl1 hl2 hg hgb
  generalize cleanP p s.data.toList = ans at *
  generalize p.1.length = n1 at *
  generalize p.2.length = n2 at *
  have hk1 : Kept [] w (w.alloc (.cells #[.slice a1 n1 c1, .slice a2 n2 c2] 33)) := (Kept.refl [] w).alloc _
  have hb1 : (w.alloc (.cells #[.slice a1 n1 c1, .slice a2 n2 c2] 33)).heap[w.heap.size]? = some (.cells #[.slice a1 n1 c1, .slice a2 n2 c2] 33 (0, 0)) := heap_alloc_new w _
  have HB1 : Hid _ := hb1
  clear hb1
  go_enter Tryz.func20, Tryz.ntmps20
  go_wp2_with fail
  refine (HI.out _ hk1).mono ?_
  rintro e w1 ⟨rfl, hk2⟩
  have hb2 := (hk2.block w.heap.size (by simp) (by simp)).trans HB1.out
  have q0 : w1.cell? ⟨w.heap.size, 0, none⟩ = some (.slice a1 n1 c1) := by unfold World.cell?; rw [hb2]; rfl
  have q1 : w1.cell? ⟨w.heap.size, 1, none⟩ = some (.slice a2 n2 c2) := by unfold World.cell?; rw [hb2]; rfl
  clear hb2
  go_wp2_with fail
  refine (HL.out _).mono ?_
  rintro e w2 ⟨rfl, rfl⟩
  go_wp2_with fail
  refine (HM.out _ (hk1.trans hk2)).mono ?_
  rintro e w3 ⟨rfl, hk3⟩
  go_wp2_with fail
  refine bodyPost_ret (v := .tuple #[.string ⟨ans.toArray⟩, .int .i64 0]) (by simp [results, Tryz.results20, go_sem]) rfl ?_
  exact ⟨rfl, (hk1.trans hk2).trans hk3⟩
end Go.Proofs.YtlpmjpmefdpcmaaGreatDoor
