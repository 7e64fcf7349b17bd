import Derived.Test.YtlpmjpmefdpcmaaGreatDoorQPlD
import Derived.Test.YtlpmjpmefdpcmaaGreatDoorQCl9
import Derived.Deep.RegionHeld3
namespace Go.Proofs.YtlpmjpmefdpcmaaGreatDoor
open Go.RowKit Scrub Go.Shelf
theorem ba_list (t : ByteArray) : t = ⟨t.data.toList.toArray⟩ := by
  apply ByteArray.ext
  simp
/-- Clean of what is not too long, as a list of bytes. -/
theorem clean_list (ev av : Value) (p : Pol) (s : List UInt8) (w : World) (hp : PolAt w ev av p) (ht : Tabs w) (hb : isPolP p = true) (hs : s.length ≤ 600) :
    Calls Tryz.prog 20 #[.agg #[ev, av], .string ⟨s.toArray⟩] w fun e w' => e = .returned (.tuple #[.string ⟨(cleanP p s).toArray⟩, .int .i64 0]) ∧ Kept [] w w' := clean_call ev av p s w hp ht hb hs
set_option maxRecDepth 100000 in
set_option maxHeartbeats 1000000 in
theorem staysIn_any (ev av : Value) (p : Pol) (t : List UInt8) (w : World) (hp : PolAt w ev av p) (ht : Tabs w) (hb : isPolP p = true) (hst : cleanP p t = t) (hl : t.length ≤ 8544000) :
    Calls Tryz.prog 22 #[.agg #[ev, av], .string ⟨t.toArray⟩] w fun e w' => e = .returned (.bool true) ∧ Kept [] w w' := by
  have hsz : (⟨t.toArray⟩ : ByteArray).size = t.length := by simp [ByteArray.size]
  by_cases hlen : 600 < t.length
  · have HC : Hid (∀ w', Kept [] w w' → Calls Tryz.prog 20 #[.agg #[ev, av], .string ⟨t.toArray⟩] w' fun e w'' => e = .returned (.tuple #[.string ⟨#[]⟩, .int .i64 1]) ∧ Kept [] w' w'') := fun w' hk => clean_long ev av p ⟨t.toArray⟩ w' (hp.kept hk) hb (by omega)
    have hgt : (600 : Int) < (t.length : Int) := by omega
    obtain ⟨a1, c1, rfl⟩ := hp.1.form
    obtain ⟨a2, c2, rfl⟩ := hp.2.form
    clear hp ht hst hlen
    generalize p.1.length = n1 at *
    generalize p.2.length = n2 at *
    have hk1 : Kept [] w (w.alloc (.cells #[.slice a1 n1 c1, .slice a2 n2 c2] 33)) := (Kept.refl [] w).alloc _
    go_enter Tryz.func22, Tryz.ntmps22
    go_wp2_with fail
    refine (HC.out _ hk1).mono ?_
    rintro e w1 ⟨rfl, hk2⟩
    go_wp2_with fail
    go_ret
    exact ⟨rfl, hk1.trans hk2⟩
  · have HC : Hid (∀ w', Kept [] w w' → Calls Tryz.prog 20 #[.agg #[ev, av], .string ⟨t.toArray⟩] w' fun e w'' => e = .returned (.tuple #[.string ⟨t.toArray⟩, .int .i64 0]) ∧ Kept [] w' w'') := fun w' hk => by
      have := clean_list ev av p t w' (hp.kept hk) (ht.kept hk) hb (by omega)
      rw [hst] at this
      exact this
    have hgt : ((600 : Int) < (t.length : Int)) = False := eq_false (by omega)
    obtain ⟨a1, c1, rfl⟩ := hp.1.form
    obtain ⟨a2, c2, rfl⟩ := hp.2.form
    clear hp ht hst hlen
    generalize p.1.length = n1 at *
    generalize p.2.length = n2 at *
    have hk1 : Kept [] w (w.alloc (.cells #[.slice a1 n1 c1, .slice a2 n2 c2] 33)) := (Kept.refl [] w).alloc _
    go_enter Tryz.func22, Tryz.ntmps22
    go_wp2_with fail
    refine (HC.out _ hk1).mono ?_
    rintro e w1 ⟨rfl, hk2⟩
    go_wp2_with fail
    go_ret
    exact ⟨rfl, hk1.trans hk2⟩
set_option maxRecDepth 100000 in
set_option maxHeartbeats 4000000 in
theorem stays_any (HPOL : PolicyOk) (v1 v2 : Value) (es ats : List (List UInt8)) (s : ByteArray) (w : World) (ht : Tabs w) (h1 : StrsAt w v1 es) (h2 : StrsAt w v2 ats) (hb : ∀ e ∈ es ++ ats, e.length ≤ 140737488355328) (hl1 : es.length ≤ 140737488355328) (hl2 : ats.length ≤ 140737488355328) :
    Calls Tryz.prog 7 #[v1, v2, .string s] w fun e w' => e = .returned (.bool true) ∧ Kept [] w w' := by
  have HX : Hid _ := cleanX_any w ht
  have HT : Hid (∀ w', Kept [] w w' → Tabs w') := fun w' hk => ht.kept hk
  have HPL : Hid (∀ w', Kept [] w w' → Calls Tryz.prog 19 #[v1, v2] w' fun e w'' => ∃ ev av, e = .returned (.agg #[ev, av]) ∧ PolAt w'' ev av (polOf es ats) ∧ Kept [] w' w'') := fun w' hk => HPOL v1 v2 es ats w' (h1.kept hk) (h2.kept hk) hb hl1 hl2
  have hpk := polOf_ok es ats
  have HPK : Hid _ := hpk
  obtain ⟨sl, rfl⟩ : ∃ sl : List UInt8, s = ⟨sl.toArray⟩ := ⟨_, ba_list s⟩
  obtain ⟨a1, c1, rfl⟩ := h1.form
  obtain ⟨a2, c2, rfl⟩ := h2.form
  clear ht h1 h2 hb hpk HPOL
  generalize polOf es ats = p at *
  generalize es.length = n1 at *
  generalize ats.length = n2 at *
  go_enter Tryz.func7, Tryz.ntmps7
  go_wp2_with fail
  refine Calls.mono HX.out ?_
  rintro e w1 ⟨rfl, hk1⟩
  go_wp2_with fail
  refine (HPL.out _ hk1).mono ?_
  rintro e w2 ⟨ev, av, rfl, hpol, hk2⟩
  have hk3 := hk1.trans hk2
  have HPA : Hid (∀ w', Kept [] w2 w' → PolAt w' ev av p) := fun w' hk => hpol.kept hk
  obtain ⟨b1, d1, rfl⟩ := hpol.1.form
  obtain ⟨b2, d2, rfl⟩ := hpol.2.form
  clear hpol HPL HX
  generalize p.1.length = m1 at *
  generalize p.2.length = m2 at *
  have hka : Kept [] w2 (w2.alloc (.cells #[.slice b1 m1 d1, .slice b2 m2 d2] 33)) := (Kept.refl [] w2).alloc _
  have hg1 : (w2.alloc (.cells #[.slice b1 m1 d1, .slice b2 m2 d2] 33)).heap[w2.heap.size]? = some (.cells #[.slice b1 m1 d1, .slice b2 m2 d2] 33 (0, 0)) := heap_alloc_new w2 _
  have hg2 : w2.heap.size < (w2.alloc (.cells #[.slice b1 m1 d1, .slice b2 m2 d2] 33)).heap.size := by simp
  go_wp2_with fail
  generalize w2.alloc (.cells #[.slice b1 m1 d1, .slice b2 m2 d2] 33) = w3 at *
  have hbox : ∀ w', Kept [] w3 w' → w'.cell? ⟨w2.heap.size, 0, none⟩ = some (.slice b1 m1 d1) ∧ w'.cell? ⟨w2.heap.size, 1, none⟩ = some (.slice b2 m2 d2) := fun w' hk => by
    have e := (hk.block _ hg2 (by simp)).trans hg1
    exact ⟨by unfold World.cell?; rw [e]; rfl, by unfold World.cell?; rw [e]; rfl⟩
  have HBX : Hid _ := hbox
  obtain ⟨q0, q1⟩ := hbox w3 (Kept.refl _ _)
  have HCL : Hid (∀ w', Kept [] w3 w' → Calls Tryz.prog 20 #[.agg #[.slice b1 m1 d1, .slice b2 m2 d2], .string ⟨(sl.take 600).toArray⟩] w' fun e w'' => e = .returned (.tuple #[.string ⟨(cleanP p (sl.take 600)).toArray⟩, .int .i64 0]) ∧ Kept [] w' w'') := fun w' hk =>
    clean_list _ _ p (sl.take 600) w' (HPA.out _ (hka.trans hk)) (HT.out _ ((hk3.trans hka).trans hk)) HPK.out (by simp; omega)
  have HSH : Hid (∀ w', Calls Tryz.prog 21 #[.string ⟨sl.toArray⟩, .int .i64 600] w' fun e w'' => e = .returned (.string ⟨(sl.take 600).toArray⟩) ∧ w'' = w') := fun w' => short_list sl 600 w' (by omega)
  have hTl := clean_len p (sl.take 600) (by simp; omega)
  have HTS : Hid (cleanP p (cleanP p (sl.take 600)) = cleanP p (sl.take 600)) := clean_stays p _
  have HTI : Hid (wEv [] (readP (cleanP p (sl.take 600))) = cleanP p (sl.take 600)) := (clean_in p _).2
  have hk4 := hk3.trans hka
  generalize cleanP p (sl.take 600) = T at *
  have hka2 := hka
  clear hbox hg1 hg2 hka
  go_region_held3 (fun w' => w'.cell? ⟨w2.heap.size, 0, none⟩ = some (.slice b1 m1 d1) ∧ w'.cell? ⟨w2.heap.size, 1, none⟩ = some (.slice b2 m2 d2)) (go_keep)
    (first
      | (go_at_call 21; refine (HSH.out _).mono ?_; rintro e w4 ⟨rfl, rfl⟩)
      | (go_at_call 20; refine (HCL.out _ (by first | exact (Kept.refl [] _).drew | exact (Kept.refl [] _).drewN _)).mono ?_; rintro e w4 ⟨rfl, hk5'⟩; have hk5 : Kept [] w3 w4 := ((Kept.refl [] w3).drew).trans hk5'; obtain ⟨r0, r1⟩ := HBX.out w4 hk5)
      | fail)
  have hk6 : Kept [] w w4 := hk4.trans hk5
  have HSI : Hid _ := staysIn_any _ _ p T w4 (HPA.out _ (hka2.trans hk5)) (HT.out _ hk6) HPK.out HTS.out hTl
  go_wp2_with fail
  refine Calls.mono HSI.out ?_
  rintro e w5 ⟨rfl, hk7⟩
  have hk8 := hk6.trans hk7
  have hsz : (⟨T.toArray⟩ : ByteArray).size = T.length := by simp [ByteArray.size]
  by_cases hlen : 600 < T.length
  · have HPR : Hid _ := parse_long ⟨T.toArray⟩ w5 (by omega)
    have hgt : (600 : Int) < (T.length : Int) := by omega
    clear hlen
    go_wp2_with fail
    refine Calls.mono HPR.out ?_
    rintro e w6 ⟨rfl, hk9⟩
    have hk10 := hk8.trans hk9
    have HW : Hid _ := write_any 0 () (.slice none 0 0) w6 ⟨none, 0, rfl⟩ (Nat.zero_le _) (HT.out _ hk10).1
    go_wp2_with fail
    refine Calls.mono HW.out ?_
    rintro e w7 ⟨rfl, hk11⟩
    go_wp2_with fail
    go_ret
    exact ⟨rfl, hk10.trans hk11⟩
  · have HPR : Hid _ := parse_short ⟨T.toArray⟩ w5 (by omega) (HT.out _ hk8).1
    have hgt : ((600 : Int) < (T.length : Int)) = False := eq_false (by omega)
    clear hlen
    go_wp2_with fail
    refine Calls.mono HPR.out ?_
    rintro e w6 ⟨v, rfl, hnt⟩
    have hnt' : NewTree w5 w6 v (readP T) := hnt
    have hk10 := hk8.trans hnt'.kept
    obtain ⟨d, f, hL, hev, hni⟩ := hnt'.lies
    have hfw := fit_write hni (by rw [hev]; exact (read_fit T).1)
    rw [hev, HTI.out] at hfw
    have hwa : writeAns d f = T := by rw [writeAns, if_pos hfw.2, hfw.1]
    have hbk : bulkF d f ≤ 1099511627776 := by
      rw [bulkF_ev d f hni, hev]
      have := readP_bulk T
      omega
    have HW : Hid (Calls Tryz.prog 16 #[v] w6 fun e w' => e = .returned (.tuple #[.string ⟨T.toArray⟩, .int .i64 0]) ∧ Kept [] w6 w') := by
      have := write_any d f v w6 hL hbk (HT.out _ hk10).1
      rw [hwa, hfw.2] at this
      exact this
    obtain ⟨e1, e2, hv⟩ := hL.form
    subst hv
    generalize glen d f = gl at *
    clear hnt hnt' hL hev hni hfw hwa hbk HPR
    go_wp2_with fail
    refine Calls.mono HW.out ?_
    rintro e w7 ⟨rfl, hk11⟩
    go_wp2_with fail
    go_ret
    exact ⟨rfl, hk10.trans hk11⟩
end Go.Proofs.YtlpmjpmefdpcmaaGreatDoor
