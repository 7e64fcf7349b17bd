import Derived.Test.YtlpmjpmefdpcmaaGreatDoorQSy
import Derived.Test.YtlpmjpmefdpcmaaGreatDoorQSu
import Derived.Test.YtlpmjpmefdpcmaaGreatDoorQRSm
import Derived.Test.YtlpmjpmefdpcmaaGreatDoorQRl
import Derived.Test.YtlpmjpmefdpcmaaGreatDoorQCl9
import Derived.Test.YtlpmjpmefdpcmaaGreatDoorQCln
import Derived.Deep.RegionHeld3
import Derived.Test.YtlpmjpmefdpcmaaGreatDoorQTa
/- The reference's clean: the rounds. -/
namespace Go.Proofs.YtlpmjpmefdpcmaaGreatDoor
open Go.RowKit Scrub Go.Shelf
/-- What comes back is a list of nodes of these events; nothing else has changed. -/
def TPost (E : List Ev) (w : World) (e : Ending) (w' : World) : Prop := ∃ (a : Option Addr) (n c d : Nat) (f : GF d), e = .returned (.slice a n c) ∧ Lies d w' (.slice a n c) f ∧ niceF d f ∧ evF d f = E ∧ Kept [] w w'
theorem tRead (m : List UInt8) (w : World) (hm : m.length ≤ 4294967296) : Calls Tryz.prog 58 #[.string ⟨m.toArray⟩] w (TPost (readP m) w) := by
  refine (rRead ⟨m.toArray⟩ w (by simpa [ByteArray.size] using hm)).mono ?_
  rintro e w' ⟨v, rfl, hnt⟩
  have hnt' : NewTree w w' v (readP m) := hnt
  obtain ⟨d, f, hL, hev, hni⟩ := hnt'.lies
  obtain ⟨a, c, hv⟩ := hL.form
  subst hv
  exact ⟨a, _, c, d, f, rfl, hL, hni, hev, hnt'.kept⟩
theorem tFilt (ev av : Value) (p : Pol) (d : Nat) (f : GF d) (v : Value) (w : World) (hp : PreR ev av p w) (hL : Lies d w v f) (hn : niceF d f) (hb : bulkF d f < 1099511627776) :
    Calls Tryz.prog 99 #[.agg #[ev, av], v, .slice none 0 0] w (TPost (filtE p (evF d f)) w) := by
  refine (rFilter_any ev av p d f v (.slice none 0 0) [] [] w w hp hL hn (Kept.refl [] w) (LeftX.nil _ _) rfl (by simpa [evBulk] using hb)).mono ?_
  rintro e w' ⟨out', ns', rfl, hx⟩
  obtain ⟨d2, hr⟩ := hx.left.tree
  obtain ⟨f2, h1, h2, h3⟩ := RepX.lies d2 hr
  obtain ⟨a, c, hv⟩ := h1.form
  subst hv
  refine ⟨a, _, c, d2, f2, rfl, h1, h3, ?_, hx.kept⟩
  rw [h2, hx.evs, filtE_tree, List.nil_append]
theorem check_sound {d : Nat} {f : GF d} (h : checkF d f = 0) : soundF d f = true := by
  unfold checkF at h
  split at h
  · cases h
  · split at h
    · assumption
    · cases h
/-- Ahead of a round: k rounds are left, m is cleaned. -/
def RnR (p : Pol) (s : List UInt8) (w : World) (bx : Obj) (k : Nat) (m : List UInt8) (wr : World) : Prop :=
  Kept [] w wr ∧ wr.heap[w.heap.size]? = some bx ∧ m.length ≤ 8544000 ∧ evW (aW k) (k + 1) 1 (readP m) ≤ 1068000 ∧ roundsP p k (readP m) = cleanP p s
set_option maxRecDepth 100000 in
set_option maxHeartbeats 4000000 in
theorem rClean_any (ev av : Value) (p : Pol) (s : List UInt8) (w : World) (hp : PreR ev av p w) (hs : s.length ≤ 600) :
    Calls Tryz.prog 66 #[.agg #[ev, av], .string ⟨s.toArray⟩] w fun e w' => e = .returned (.string ⟨(cleanP p s).toArray⟩) ∧ Kept [] w w' := by
  have HP : Hid (∀ w', Kept [] w w' → PreR ev av p w') := fun w' hk => hp.kept hk
  obtain ⟨a1, c1, rfl⟩ := hp.1.1.form
  obtain ⟨a2, c2, rfl⟩ := hp.1.2.form
  clear hp
  generalize p.1.length = n1 at *
  generalize p.2.length = n2 at *
  have hk1 : Kept [] w (w.alloc (.cells #[.slice a1 n1 c1, .slice a2 n2 c2] 33)) := (Kept.refl [] w).alloc _
  have HR : Hid (RnR p s w (.cells #[.slice a1 n1 c1, .slice a2 n2 c2] 33 (0, 0)) 8 s (w.alloc (.cells #[.slice a1 n1 c1, .slice a2 n2 c2] 33))) := ⟨hk1, heap_alloc_new w _, by omega, first_w s hs, clean_rounds p s⟩
  clear hs hk1
  go_enter Tryz.func66, Tryz.ntmps66
  go_wp2_with fail
  go_loopg [1, 5] 8 (fun g sv x wr => ∃ (k : Nat) (m : List UInt8), k ≤ 8 ∧ g = k ∧ sv = .string ⟨m.toArray⟩ ∧ x = .int .i64 ((8 : Int) - k) ∧ RnR p s w (.cells #[.slice a1 n1 c1, .slice a2 n2 c2] 33 (0, 0)) k m wr)
  case atStart => exact ⟨8, s, by omega, rfl, rfl, rfl, HR.out⟩
  case round =>
    obtain ⟨w0, hw0⟩ : ∃ x, x = wr := ⟨_, rfl⟩
    subst hw0
    obtain ⟨k, m, hk, hgk, rfl, rfl, hkept, hbx, hml, hW, hro⟩ := hrel
    have HGK : Hid _ := hgk
    clear hgk HR
    cases k with
    | zero =>
      have HRO : Hid ([] = cleanP p s) := hro
      clear hbx hml hW hro
      go_wp2_with fail
      go_ret
      exact ⟨by rw [← HRO.out]; rfl, hkept⟩
    | succ k =>
      have hlt' : (8 : Int) - ((k + 1 : Nat) : Int) < 8 := by omega
      have hlt0 : w.heap.size < w0.heap.size := (Array.getElem?_eq_some_iff.1 hbx).1
      have HBX : Hid (∀ W, Kept [] w0 W → W.heap[w.heap.size]? = some (.cells #[.slice a1 n1 c1, .slice a2 n2 c2] 33 (0, 0))) := fun W hW => (hW.block _ hlt0 (by simp)).trans hbx
      have HCL : Hid (∀ W, Kept [] w0 W → W.cell? ⟨w.heap.size, 0, none⟩ = some (.slice a1 n1 c1) ∧ W.cell? ⟨w.heap.size, 1, none⟩ = some (.slice a2 n2 c2)) := fun W hW => by
        have e := HBX.out W hW
        exact ⟨by unfold World.cell?; rw [e]; rfl, by unfold World.cell?; rw [e]; rfl⟩
      obtain ⟨q0, q1⟩ := HCL.out w0 (Kept.refl [] w0)
      have hft := (read_fit m).1
      have hbk := evBulk_le hW
      have hfk := filt_le p hW
      have hrw := round_w k p hft
      have hfi := fit_filt p hft
      have HRD : Hid (∀ W, Calls Tryz.prog 58 #[.string ⟨m.toArray⟩] W (TPost (readP m) W)) := fun W => tRead m W (by omega)
      have HFT : Hid (∀ (W : World) (a : Option Addr) (n c d : Nat) (f : GF d), Kept [] w0 W → Lies d W (.slice a n c) f → niceF d f → evF d f = readP m → Calls Tryz.prog 99 #[.agg #[.slice a1 n1 c1, .slice a2 n2 c2], .slice a n c, .slice none 0 0] W (TPost (filtE p (readP m)) W)) := by
        intro W a n c d f hkW hL hn he
        rw [← he]
        exact tFilt _ _ p d f _ W (HP.out _ (hkept.trans hkW)) hL hn (by rw [bulkF_ev d f hn, he]; omega)
      have HPURE : Hid ((fitEv [] (filtE p (readP m)) ∧ evBulk (filtE p (readP m)) ≤ 1068000) ∧ evW (aW k) (k + 1) 1 (readP (wEv [] (filtE p (readP m)))) ≤ 1068000 ∧ (if sameEv (readP (wEv [] (filtE p (readP m)))) (filtE p (readP m)) = true then wEv [] (filtE p (readP m)) else roundsP p k (readP (wEv [] (filtE p (readP m))))) = cleanP p s) :=
        ⟨⟨hfi, hfk⟩, Nat.le_trans hrw hW, hro⟩
      have HK0 : Hid (Kept [] w w0) := hkept
      clear hbx hft hW hro hbk hfk hrw hfi hml
      generalize filtE p (readP m) = FE at *
      generalize readP m = RE at *
      go_wp2_with fail
      go_region_held3 (fun w' => w'.cell? ⟨w.heap.size, 0, none⟩ = some (.slice a1 n1 c1) ∧ w'.cell? ⟨w.heap.size, 1, none⟩ = some (.slice a2 n2 c2)) (go_keep)
        (first
          | (go_at_call 58; refine (HRD.out _).mono ?_; rintro e w1 ⟨ra, rn, rc, rd, rf, rfl, hL1, hn1, he1, hk2'⟩; have hk2 : Kept [] w0 w1 := (by first | exact ((Kept.refl [] w0).drew).trans hk2' | exact ((Kept.refl [] w0).drewN _).trans hk2'); obtain ⟨r0, r1⟩ := HCL.out w1 hk2)
          | (go_at_call 99; refine (HFT.out _ ra rn rc rd rf (by first | exact hk2 | exact hk2.drew | exact hk2.drewN _) (by first | exact hL1 | exact hL1.kept rd (Kept.refl [] _).drew | exact hL1.kept rd ((Kept.refl [] _).drewN _)) hn1 he1).mono ?_; rintro e w3 ⟨ta, tn, tc, td, tf, rfl, hL3, hn3, he3, hk3'⟩; have hk3 : Kept [] w0 w3 := (by first | exact hk2.trans hk3' | exact hk2.drew.trans hk3' | exact (hk2.drewN _).trans hk3'); obtain ⟨u0, u1⟩ := HCL.out w3 hk3)
          | fail)
      obtain ⟨⟨h1, h2⟩, h5, h6⟩ := HPURE.out
      have hb2 : bulkF td tf ≤ 1068000 := by rw [bulkF_ev td tf hn3, he3]; exact h2
      have hwf := fit_write hn3 (by rw [he3]; exact h1)
      have hwl := writeF_len td tf
      rw [he3] at hwf
      have HMK : Hid (∀ W, Kept [] w3 W → Calls Tryz.prog 63 #[.slice ta tn tc] W fun e w'' => e = .returned (.string ⟨(wEv [] FE).toArray⟩) ∧ Kept [] W w'') := by
        intro W hW
        have := rWritten td tf _ W (hL3.kept td hW) (check_sound hwf.2) (by omega)
        rw [hwf.1] at this
        exact this
      have hWl : (wEv [] FE).length ≤ 8544000 := by rw [← hwf.1]; omega
      have HL3 : Hid (Lies td w3 (.slice ta tn tc) tf) := hL3
      have HE3 : Hid (evF td tf = FE) := he3
      have HN3 : Hid (niceF td tf) := hn3
      have HB3 : Hid (bulkF td tf ≤ 1068000) := hb2
      have HH5 : Hid _ := h5
      have HH6 : Hid _ := h6
      have HK3 : Hid (Kept [] w0 w3) := hk3
      clear hL1 hn1 he1 hk2 hk2' hL3 hn3 he3 hk3' hwf hwl h1 h2 h5 h6 hb2 HPURE HRD HFT
      go_wp2_with fail
      refine (HMK.out _ (by first | exact Kept.refl [] _ | exact (Kept.refl [] _).drew | exact (Kept.refl [] _).drewN _)).mono ?_
      rintro e w4 ⟨rfl, hk4'⟩
      have hk4 : Kept [] w3 w4 := by first | exact hk4' | exact (Kept.refl [] w3).drew.trans hk4' | exact ((Kept.refl [] w3).drewN _).trans hk4'
      go_wp2_with fail
      refine (tRead (wEv [] FE) w4 (by omega)).mono ?_
      rintro e w5 ⟨ra5, rn5, rc5, rd5, rf5, rfl, hL5, hn5, he5, hk5⟩
      have hkk := hk4.trans hk5
      have HSM : Hid (Calls Tryz.prog 29 #[.slice ta tn tc, .slice ra5 rn5 rc5] w5 (SmPost (SameF td rd5 tf rf5) w5)) := rSm_any td rd5 tf rf5 _ _ w5 (HL3.out.kept td hkk) hL5 (by have := HB3.out; omega)
      have HSF : Hid (SameF td rd5 tf rf5 ↔ sameEv (readP (wEv [] FE)) FE = true) := by
        show _ ↔ _
        rw [sameEv_iff]
        constructor
        · intro h
          have := h.ev
          rw [he5, HE3.out] at this
          exact this.symm
        · intro h
          exact sameF_of HN3.out hn5 (by rw [he5, HE3.out]; exact h.symm)
      have hk05 := HK0.out.trans (HK3.out.trans hkk)
      have HK5 : Hid (Kept [] w0 w5) := HK3.out.trans hkk
      clear hL5 hn5 he5 hk4' HMK
      go_wp2_with fail
      refine HSM.out.mono ?_
      rintro e w6 ⟨r, rfl, hr, n6, rfl⟩
      have hk06 : Kept [] w (w5.drewN n6) := hk05.drewN n6
      cases r with
      | true =>
        have h := HSF.out.1 (hr.1 rfl)
        have h' := HH6.out
        rw [if_pos h] at h'
        have HH : Hid (wEv [] FE = cleanP p s) := h'
        clear h h' hr
        go_wp2_with fail
        go_ret
        exact ⟨by rw [← HH.out]; rfl, hk06⟩
      | false =>
        have hne : ¬ sameEv (readP (wEv [] FE)) FE = true := fun h => by have := hr.2 (HSF.out.2 h); simp at this
        have h' := HH6.out
        rw [if_neg hne] at h'
        have HH : Hid (RnR p s w (.cells #[.slice a1 n1 c1, .slice a2 n2 c2] 33 (0, 0)) k (wEv [] FE) (w5.drewN n6)) := ⟨hk06, HBX.out _ (HK5.out.drewN n6), by omega, HH5.out, h'⟩
        clear h' hne hr
        go_wp2_with fail
        go_roundg k
        case measure => rw [HGK.out]; omega
        case rel => exact ⟨k, wEv [] FE, by omega, rfl, rfl, by congr 1; omega, HH.out⟩
end Go.Proofs.YtlpmjpmefdpcmaaGreatDoor
/- The reference's Clean. -/
namespace Go.Proofs.YtlpmjpmefdpcmaaGreatDoor
open Go.RowKit Scrub Go.Shelf
/-- What Clean answers, of whatever policy and text. -/
def cleanAns (p : Pol) (s : List UInt8) : List UInt8 := if isPolP p = true then (if 600 < s.length then [] else cleanP p s) else []
def cleanErr (p : Pol) (s : List UInt8) : Int := if isPolP p = true then (if 600 < s.length then 1 else 0) else 4
theorem clean_all (ev av : Value) (p : Pol) (s : List UInt8) (w : World) (hp : PolAt w ev av p) (hg : Glob w) (hgb : GlobB w) :
    Calls Tryz.prog 20 #[.agg #[ev, av], .string ⟨s.toArray⟩] w fun e w' => e = .returned (.tuple #[.string ⟨(cleanAns p s).toArray⟩, .int .i64 (cleanErr p s)]) ∧ Kept [] w w' := by
  have hsz : (⟨s.toArray⟩ : ByteArray).size = s.length := by simp [ByteArray.size]
  unfold cleanAns cleanErr
  by_cases h1 : isPolP p = true
  · rw [if_pos h1, if_pos h1]
    by_cases h2 : 600 < s.length
    · rw [if_pos h2, if_pos h2]
      exact clean_long ev av p _ w hp h1 (by omega)
    · rw [if_neg h2, if_neg h2]
      have := clean_ok ev av p ⟨s.toArray⟩ w hp hg hgb h1 (by omega)
      simpa using this
  · rw [if_neg h1, if_neg h1]
    exact clean_bad ev av p _ w hp (by simpa using h1)
set_option maxRecDepth 100000 in
set_option maxHeartbeats 1000000 in
theorem rCleanAll_any (ev av : Value) (p : Pol) (s : List UInt8) (w : World) (hp : PolAt w ev av p) :
    Calls Tryz.prog 36 #[.agg #[ev, av], .string ⟨s.toArray⟩] w fun e w' => e = .returned (.tuple #[.string ⟨(cleanAns p s).toArray⟩, .int .i64 (cleanErr p s)]) ∧ Kept [] w w' := by
  have HI : Hid (∀ w', Kept [] w w' → Calls Tryz.prog 65 #[.agg #[ev, av]] w' fun e w'' => e = .returned (.bool (isPolP p)) ∧ Kept [] w' w'') := fun w' hk => rIsPolicy_any ev av p w' (hp.kept hk)
  have HM : Hid (isPolP p = true → s.length ≤ 600 → ∀ w', Kept [] w w' → Calls Tryz.prog 66 #[.agg #[ev, av], .string ⟨s.toArray⟩] w' fun e w'' => e = .returned (.string ⟨(cleanP p s).toArray⟩) ∧ Kept [] w' w'') := fun h1 h2 w' hk => by
    obtain ⟨hl1, hl2⟩ := isPol_len h1
    exact rClean_any ev av p s w' ⟨hp.kept hk, by omega, by omega⟩ h2
  obtain ⟨a1, c1, rfl⟩ := hp.1.form
  obtain ⟨a2, c2, rfl⟩ := hp.2.form
  clear hp
  generalize p.1.length = n1 at *
  generalize p.2.length = n2 at *
  have hk1 : Kept [] w (w.alloc (.cells #[.slice a1 n1 c1, .slice a2 n2 c2] 33)) := (Kept.refl [] w).alloc _
  have hb1 : (w.alloc (.cells #[.slice a1 n1 c1, .slice a2 n2 c2] 33)).heap[w.heap.size]? = some (.cells #[.slice a1 n1 c1, .slice a2 n2 c2] 33 (0, 0)) := heap_alloc_new w _
  have HB1 : Hid _ := hb1
  have hsz : (⟨s.toArray⟩ : ByteArray).size = s.length := by simp [ByteArray.size]
  clear hb1
  have HCA : Hid (cleanAns p s = if isPolP p = true then (if 600 < s.length then [] else cleanP p s) else []) := rfl
  have HCE : Hid (cleanErr p s = if isPolP p = true then (if 600 < s.length then 1 else 0) else 4) := rfl
  generalize cleanAns p s = CA at *
  generalize cleanErr p s = CE at *
  generalize cleanP p s = CP at *
  generalize isPolP p = IP at *
  generalize s.length = SL at *
  go_enter Tryz.func36, Tryz.ntmps36
  go_wp2_with fail
  refine (HI.out _ hk1).mono ?_
  rintro e w1 ⟨rfl, hk2⟩
  have hb2 := (hk2.block w.heap.size (by simp) (by simp)).trans HB1.out
  have q0 : w1.cell? ⟨w.heap.size, 0, none⟩ = some (.slice a1 n1 c1) := by unfold World.cell?; rw [hb2]; rfl
  have q1 : w1.cell? ⟨w.heap.size, 1, none⟩ = some (.slice a2 n2 c2) := by unfold World.cell?; rw [hb2]; rfl
  clear hb2
  cases IP with
  | false =>
    obtain rfl : CA = [] := by simpa using HCA.out
    obtain rfl : CE = 4 := by simpa using HCE.out
    go_wp2_with fail
    refine bodyPost_ret (v := .tuple #[.string ⟨#[]⟩, .int .i64 4]) (by simp [results, Tryz.results36, go_sem]) rfl ?_
    exact ⟨rfl, hk1.trans hk2⟩
  | true =>
    by_cases hl : 600 < SL
    · obtain rfl : CA = [] := by simpa [hl] using HCA.out
      obtain rfl : CE = 1 := by simpa [hl] using HCE.out
      have hl' : (600 : Int) < (SL : Int) := by omega
      go_wp2_with fail
      refine bodyPost_ret (v := .tuple #[.string ⟨#[]⟩, .int .i64 1]) (by simp [results, Tryz.results36, go_sem]) rfl ?_
      exact ⟨rfl, hk1.trans hk2⟩
    · obtain rfl : CA = CP := by simpa [hl] using HCA.out
      obtain rfl : CE = 0 := by simpa [hl] using HCE.out
      have hl' : ((600 : Int) < (SL : Int)) = False := by simp; omega
      have HMM : Hid _ := HM.out rfl (by omega)
      clear hl
      go_wp2_with fail
      refine (HMM.out _ (hk1.trans hk2)).mono ?_
      rintro e w3 ⟨rfl, hk3⟩
      go_wp2_with fail
      refine bodyPost_ret (v := .tuple #[.string ⟨CA.toArray⟩, .int .i64 0]) (by simp [results, Tryz.results36, go_sem]) rfl ?_
      exact ⟨rfl, (hk1.trans hk2).trans hk3⟩
end Go.Proofs.YtlpmjpmefdpcmaaGreatDoor
