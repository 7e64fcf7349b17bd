import Derived.Test.YtlpmjpmefdpcmaaGreatDoorQOnly1
import Derived.Deep.RegionHeld3
namespace Go.Proofs.YtlpmjpmefdpcmaaGreatDoor
open Go.RowKit Scrub Go.Shelf
set_option maxRecDepth 100000 in
set_option maxHeartbeats 4000000 in
theorem onlyS_any (HPOL : PolicyOk) (v1 v2 : Value) (es ats : List (List UInt8)) (s : ByteArray) (w : World) (ht : Tabs w) (h1 : StrsAt w v1 es) (h2 : StrsAt w v2 ats) (hb : ∀ e ∈ es ++ ats, e.length ≤ 140737488355328) (hl1 : es.length ≤ 140737488355328) (hl2 : ats.length ≤ 140737488355328) :
    Calls Tryz.prog 8 #[v1, v2, .string s] w fun e w' => e = .returned (.bool true) ∧ Kept [] w w' := by
  have HX : Hid _ := cleanX_any w ht
  have HT : Hid (∀ w', Kept [] w w' → Tabs w') := fun w' hk => ht.kept hk
  have HPL : Hid (∀ w', Kept [] w w' → Calls Tryz.prog 19 #[v1, v2] w' fun e w'' => ∃ ev av, e = .returned (.agg #[ev, av]) ∧ PolAt w'' ev av (polOf es ats) ∧ Kept [] w' w'') := fun w' hk => HPOL v1 v2 es ats w' (h1.kept hk) (h2.kept hk) hb hl1 hl2
  have hpk := polOf_ok es ats
  have HPK : Hid _ := hpk
  obtain ⟨sl, rfl⟩ : ∃ sl : List UInt8, s = ⟨sl.toArray⟩ := ⟨_, ba_list s⟩
  obtain ⟨a1, c1, rfl⟩ := h1.form
  obtain ⟨a2, c2, rfl⟩ := h2.form
  clear ht h1 h2 hb hpk HPOL
  generalize polOf es ats = p at *
  generalize es.length = n1 at *
  generalize ats.length = n2 at *
  go_enter Tryz.func8, Tryz.ntmps8
  go_wp2_with fail
  refine Calls.mono HX.out ?_
  rintro e w1 ⟨rfl, hk1⟩
  go_wp2_with fail
  refine (HPL.out _ hk1).mono ?_
  rintro e w2 ⟨ev, av, rfl, hpol, hk2⟩
  have hk3 := hk1.trans hk2
  have HPA : Hid (∀ w', Kept [] w2 w' → PolAt w' ev av p) := fun w' hk => hpol.kept hk
  obtain ⟨b1, d1, rfl⟩ := hpol.1.form
  obtain ⟨b2, d2, rfl⟩ := hpol.2.form
  clear hpol HPL HX
  generalize p.1.length = m1 at *
  generalize p.2.length = m2 at *
  have hka : Kept [] w2 (w2.alloc (.cells #[.slice b1 m1 d1, .slice b2 m2 d2] 33)) := (Kept.refl [] w2).alloc _
  have hg1 : (w2.alloc (.cells #[.slice b1 m1 d1, .slice b2 m2 d2] 33)).heap[w2.heap.size]? = some (.cells #[.slice b1 m1 d1, .slice b2 m2 d2] 33 (0, 0)) := heap_alloc_new w2 _
  have hg2 : w2.heap.size < (w2.alloc (.cells #[.slice b1 m1 d1, .slice b2 m2 d2] 33)).heap.size := by simp
  go_wp2_with fail
  generalize w2.alloc (.cells #[.slice b1 m1 d1, .slice b2 m2 d2] 33) = w3 at *
  have hbox : ∀ w', Kept [] w3 w' → w'.cell? ⟨w2.heap.size, 0, none⟩ = some (.slice b1 m1 d1) ∧ w'.cell? ⟨w2.heap.size, 1, none⟩ = some (.slice b2 m2 d2) := fun w' hk => by
    have e := (hk.block _ hg2 (by simp)).trans hg1
    exact ⟨by unfold World.cell?; rw [e]; rfl, by unfold World.cell?; rw [e]; rfl⟩
  have HBX : Hid _ := hbox
  obtain ⟨q0, q1⟩ := hbox w3 (Kept.refl _ _)
  have HCL : Hid (∀ w', Kept [] w3 w' → Calls Tryz.prog 20 #[.agg #[.slice b1 m1 d1, .slice b2 m2 d2], .string ⟨(sl.take 600).toArray⟩] w' fun e w'' => e = .returned (.tuple #[.string ⟨(cleanP p (sl.take 600)).toArray⟩, .int .i64 0]) ∧ Kept [] w' w'') := fun w' hk =>
    clean_list _ _ p (sl.take 600) w' (HPA.out _ (hka.trans hk)) (HT.out _ ((hk3.trans hka).trans hk)) HPK.out (by simp; omega)
  have HSH : Hid (∀ w', Calls Tryz.prog 21 #[.string ⟨sl.toArray⟩, .int .i64 600] w' fun e w'' => e = .returned (.string ⟨(sl.take 600).toArray⟩) ∧ w'' = w') := fun w' => short_list sl 600 w' (by omega)
  have hTl := clean_len p (sl.take 600) (by simp; omega)
  have HAI : Hid (allIn p (readP (cleanP p (sl.take 600)))) := (clean_in p _).1
  have hk4 := hk3.trans hka
  generalize cleanP p (sl.take 600) = T at *
  have hka2 := hka
  clear hbox hg1 hg2 hka
  go_region_held3 (fun w' => w'.cell? ⟨w2.heap.size, 0, none⟩ = some (.slice b1 m1 d1) ∧ w'.cell? ⟨w2.heap.size, 1, none⟩ = some (.slice b2 m2 d2)) (go_keep)
    (first
      | (go_at_call 21; refine (HSH.out _).mono ?_; rintro e w4 ⟨rfl, rfl⟩)
      | (go_at_call 20; refine (HCL.out _ (by first | exact (Kept.refl [] _).drew | exact (Kept.refl [] _).drewN _)).mono ?_; rintro e w4 ⟨rfl, hk5'⟩; have hk5 : Kept [] w3 w4 := ((Kept.refl [] w3).drew).trans hk5'; obtain ⟨r0, r1⟩ := HBX.out w4 hk5)
      | fail)
  have hk6 : Kept [] w w4 := hk4.trans hk5
  have HS2 : Hid (∀ w', Calls Tryz.prog 21 #[.string ⟨T.toArray⟩, .int .i64 600] w' fun e w'' => e = .returned (.string ⟨(T.take 600).toArray⟩) ∧ w'' = w') := fun w' => short_list T 600 w' (by omega)
  go_wp2_with fail
  refine (HS2.out _).mono ?_
  rintro e w5 ⟨rfl, rfl⟩
  have hsz : (⟨(T.take 600).toArray⟩ : ByteArray).size = (T.take 600).length := by simp [ByteArray.size]
  have htl : (T.take 600).length ≤ 600 := by simp; omega
  have HPR : Hid _ := parse_short ⟨(T.take 600).toArray⟩ w5 (by omega) (HT.out _ hk6).1
  go_wp2_with fail
  refine Calls.mono HPR.out ?_
  rintro e w6 ⟨v, rfl, hnt⟩
  have hnt' : NewTree w5 w6 v (readP (T.take 600)) := hnt
  have hkn := hnt'.kept
  have hk10 := hk6.trans hkn
  obtain ⟨d, f, hL, hev, hni⟩ := hnt'.lies
  have hbk : bulkF d f ≤ 1099511627776 := by
    rw [bulkF_ev d f hni, hev]
    have := readP_bulk (T.take 600)
    omega
  have HON : Hid (Calls Tryz.prog 24 #[.agg #[.slice b1 m1 d1, .slice b2 m2 d2], v] w6 (OPost (inF p d f) w6)) := only_any _ _ p (isPol_len HPK.out) d f v w6 (HPA.out _ ((hka2.trans hk5).trans hkn)) hL hbk
  have HIN : Hid (T.length ≤ 600 → inF p d f) := fun h => allIn_tree (by rw [hev, List.take_of_length_le h]; exact HAI.out)
  obtain ⟨r0', r1'⟩ := HBX.out w6 (hk5.trans hkn)
  obtain ⟨e1, e2, hv⟩ := hL.form
  subst hv
  generalize glen d f = gl at *
  generalize inF p d f = IN at *
  clear hnt hnt' hL hev hni hbk HPR hsz htl r0 r1
  go_wp2_with fail
  refine Calls.mono HON.out ?_
  rintro e w7 ⟨r, rfl, hr, hk11⟩
  have HR : Hid _ := hr
  clear hr
  by_cases hlen : 600 < T.length
  · have hgt : (600 : Int) < (T.length : Int) := by omega
    clear hlen
    cases r with
    | true =>
      go_wp2_with fail
      go_ret
      exact ⟨rfl, hk10.trans hk11⟩
    | false =>
      go_wp2_with fail
      go_ret
      exact ⟨rfl, hk10.trans hk11⟩
  · obtain rfl := HR.out (HIN.out (by omega))
    clear hlen
    go_wp2_with fail
    go_ret
    exact ⟨rfl, hk10.trans hk11⟩
end Go.Proofs.YtlpmjpmefdpcmaaGreatDoor
