import Derived.Test.YtlpmjpmefdpcmaaDoorQParse
import Derived.Test.YtlpmjpmefdpcmaaDoorQLies
import Derived.Test.YtlpmjpmefdpcmaaDoorQWrite
import Derived.Test.YtlpmjpmefdpcmaaDoorQSame1
import Derived.Test.YtlpmjpmefdpcmaaDoorQRt8
import Derived.Test.YtlpmjpmefdpcmaaDoorQBulk
namespace Go.Proofs.YtlpmjpmefdpcmaaDoor
open Go.RowKit Scrub Go.Shelf
set_option maxHeartbeats 1000000 in
theorem short_any (s : ByteArray) (n : Nat) (w : World) (hn : n ≤ 1000) :
    Calls Tryd.prog 7 #[.string s, .int .i64 (n : Int)] w fun e w' => ∃ t : ByteArray, e = .returned (.string t) ∧ t.data.toList = s.data.toList.take n ∧ t.size ≤ n ∧ w' = w := by
  by_cases h : n < s.size
  · have hgt : (n : Int) < (s.size : Int) := by omega
    have hle : (n : Int) ≤ (s.size : Int) := by omega
    have h0 : (0 : Int) ≤ (n : Int) := by omega
    have HT : Hid ((s.extract 0 n).data.toList = s.data.toList.take n) := by show _ = _; simp
    have HS : Hid ((s.extract 0 n).size ≤ n) := by show _ ≤ _; simp; omega
    go_enter Tryd.func7, Tryd.ntmps7
    go_wp2_with fail
    go_ret
    exact ⟨_, rfl, HT.out, HS.out, rfl⟩
  · have hgt : ((n : Int) < (s.size : Int)) = False := by simp; omega
    have HT : Hid (s.data.toList = s.data.toList.take n) := by show _ = _; rw [List.take_of_length_le (by simp; omega)]
    have HS : Hid (s.size ≤ n) := by show _ ≤ _; omega
    go_enter Tryd.func7, Tryd.ntmps7
    go_wp2_with fail
    go_ret
    exact ⟨_, rfl, HT.out, HS.out, rfl⟩
/-- A tree that was made, as plain data. -/
theorem NewTree.lies {w w' : World} {v : Value} {ev : List Ev} (h : NewTree w w' v ev) : ∃ (d : Nat) (f : GF d), Lies d w' v f ∧ evF d f = ev ∧ niceF d f := by
  obtain ⟨fp, ⟨d, hr⟩, _⟩ := h
  obtain ⟨f, h1, h2, h3⟩ := Rep.lies d hr
  exact ⟨d, f, h1, h2, h3⟩
theorem NewTree.kept {w w' : World} {v : Value} {ev : List Ev} (h : NewTree w w' v ev) : Kept [] w w' := by
  obtain ⟨fp, _, _, _, h4⟩ := h
  exact h4
end Go.Proofs.YtlpmjpmefdpcmaaDoor
namespace Go.Proofs.YtlpmjpmefdpcmaaDoor
open Go.RowKit Scrub Go.Shelf
/-- The document's first example. -/
def exG : GF 3 := [([112], [], ([([], [], ([] : GF 1), [97]), ([98], [], ([([], [], (), [99])] : GF 1), [])] : GF 2), []), ([], [], ([] : GF 2), [100])]
theorem exG_nice : niceF 3 exG := by
  intro n hn
  simp only [gnodes, exG, List.mem_cons, List.not_mem_nil, or_false] at hn
  rcases hn with rfl | rfl
  · refine ⟨fun h => by simp at h, fun _ => rfl, ?_⟩
    intro n hn
    simp only [gnodes, List.mem_cons, List.not_mem_nil, or_false] at hn
    rcases hn with rfl | rfl
    · exact ⟨fun _ => ⟨by simp, rfl, rfl⟩, fun h => absurd rfl h, by intro n hn; simp [gnodes] at hn⟩
    · refine ⟨fun h => by simp at h, fun _ => rfl, ?_⟩
      intro n hn
      simp only [gnodes, List.mem_cons, List.not_mem_nil, or_false] at hn
      subst hn
      exact ⟨fun _ => ⟨by simp, rfl, rfl⟩, fun h => absurd rfl h, trivial⟩
  · exact ⟨fun _ => ⟨by simp, rfl, rfl⟩, fun h => absurd rfl h, by intro n hn; simp [gnodes] at hn⟩
theorem exG_ev : readP [60, 80, 62, 97, 60, 98, 62, 99, 60, 47, 112, 62, 100] = evF 3 exG := by rfl
/-- The cells that the example's look asks for. -/
theorem ex_cells {d : Nat} {f : GF d} {w : World} {v : Value} (hL : Lies d w v f) (hs : SameF d 3 f exG) :
    ∃ (g o c : Nat) (kg ko kc : Nat), v = .slice (some ⟨g, o, none⟩) 2 c ∧ w.cell? ⟨g, o, none⟩ = some (.string ⟨#[112]⟩) ∧ w.cell? ⟨g, o + 2, none⟩ = some (.slice (some ⟨kg, ko, none⟩) 2 kc) ∧ w.cell? ⟨kg, ko + 4, none⟩ = some (.string ⟨#[98]⟩) ∧ w.cell? ⟨g, o + 4 + 3, none⟩ = some (.string ⟨#[100]⟩) ∧ w.cell? ⟨kg, ko, none⟩ = some (.string ⟨#[]⟩) ∧ w.cell? ⟨kg, ko + 3, none⟩ = some (.string ⟨#[97]⟩) := by
  cases d with
  | zero => exact absurd hs (by simp [SameF, glen, gnodes, exG])
  | succ d =>
    have hs' : SameL d 2 (SameF d 2) (gnodes d f) (gnodes 2 exG) := hs
    have hl : (gnodes d f).length = 2 := hs'.len
    obtain ⟨a, c, rfl, hc⟩ := hL
    obtain ⟨g, o, ha, av0, kv0, e0, e1, e2, e3, hA0, hK0⟩ := hc 0 (by omega)
    obtain ⟨g', o', ha', av1, kv1, f0, f1, f2, f3, hA1, hK1⟩ := hc 1 (by omega)
    rw [ha] at ha'
    injection ha' with ha'
    injection ha' with h1 h2
    subst h1 h2
    obtain ⟨s1, s2, s3, s4⟩ := hs'.get 0 (by omega) (by show 0 < 2; omega)
    obtain ⟨t1, t2, t3, t4⟩ := hs'.get 1 (by omega) (by show 1 < 2; omega)
    rw [hl]
    have s4' : SameF d 2 (gnodes d f)[0].2.2.1 (([([], [], ([] : GF 1), [97]), ([98], [], ([([], [], (), [99])] : GF 1), [])] : GF 2)) := s4
    cases d with
    | zero => exact absurd s4' (by simp [SameF, glen, gnodes])
    | succ d =>
      have hk : SameL d 1 (SameF d 1) (gnodes d (gnodes (d + 1) f)[0].2.2.1) (gnodes 1 ([([], [], ([] : GF 1), [97]), ([98], [], ([([], [], (), [99])] : GF 1), [])] : GF 2)) := s4'
      have hkl := hk.len
      obtain ⟨ka, kc, hkv, hkc⟩ := hK0
      obtain ⟨kg, ko, hka, kav0, kkv0, q0, q1, q2, q3, _, _⟩ := hkc 0 (by rw [hkl]; show 0 < 2; omega)
      obtain ⟨kg', ko', hka', kav1, kkv1, r0, r1, r2, r3, _, _⟩ := hkc 1 (by rw [hkl]; show 1 < 2; omega)
      rw [hka] at hka'
      injection hka' with hka'
      injection hka' with k1 k2
      subst k1 k2
      obtain ⟨u1, u2, u3, u4⟩ := hk.get 0 (by rw [hkl]; show 0 < 2; omega) (by show 0 < 2; omega)
      obtain ⟨v1, v2, v3, v4⟩ := hk.get 1 (by rw [hkl]; show 1 < 2; omega) (by show 1 < 2; omega)
      refine ⟨g, o, c, kg, ko, kc, by rw [ha], ?_, ?_, ?_, ?_, ?_, ?_⟩
      · have hh : _ = ([112] : List UInt8) := s1
        rw [hh] at e0
        simpa using e0
      · have hh : _ = (2 : Nat) := hkl
        rw [hkv, hka, hh] at e2
        simpa using e2
      · have hh : _ = ([98] : List UInt8) := v1
        rw [hh] at r0
        simpa using r0
      · have hh : _ = ([100] : List UInt8) := t3
        rw [hh] at f3
        simpa using f3
      · have hh : _ = ([] : List UInt8) := u1
        rw [hh] at q0
        simpa using q0
      · have hh : _ = ([97] : List UInt8) := u3
        rw [hh] at q3
        simpa using q3
set_option maxRecDepth 100000 in
set_option maxHeartbeats 2000000 in
theorem readX_any (w : World) (hg : Glob w) : Calls Tryd.prog 5 #[] w fun e w' => e = .returned (.bool true) ∧ Kept [] w w' := by
  have hp := parse_short ⟨#[60, 80, 62, 97, 60, 98, 62, 99, 60, 47, 112, 62, 100]⟩ w (by decide) hg
  have HP : Hid _ := hp
  clear hp
  go_enter Tryd.func5, Tryd.ntmps5
  go_wp2_with fail
  refine Calls.mono HP.out ?_
  rintro e w1 ⟨v, rfl, hnt⟩
  obtain ⟨d, f, hL, hev, hnice⟩ := hnt.lies
  have hss : SameF d 3 f exG := sameF_of hnice exG_nice (hev.trans exG_ev)
  obtain ⟨g, o, c, kg, ko, kc, rfl, c0, c2, k0, c7, _, _⟩ := ex_cells hL hss
  have HK : Hid _ := hnt.kept
  clear hnt hL hev hnice hss HP
  go_wp2_with fail
  go_ret
  exact ⟨rfl, HK.out⟩
end Go.Proofs.YtlpmjpmefdpcmaaDoor
namespace Go.Proofs.YtlpmjpmefdpcmaaDoor
open Go.RowKit Scrub Go.Shelf
theorem writeAns_ok {d : Nat} {f : GF d} {I : List Item} (h : checkF d f = 0 ∧ writeF d f = writeI I) : writeAns d f = writeI I := by rw [writeAns, if_pos h.1, h.2]
set_option maxRecDepth 100000 in
set_option maxHeartbeats 8000000 in
theorem again_any (s : ByteArray) (w : World) (hg : Glob w) : Calls Tryd.prog 3 #[.string s] w fun e w' => e = .returned (.bool true) ∧ Kept [] w w' := by
  go_enter Tryd.func3, Tryd.ntmps3
  go_wp2_with fail
  refine (readX_any w hg).mono ?_
  rintro e w1 ⟨rfl, hk1⟩
  have hg1 := hg.kept hk1 (by simp) (by simp)
  go_wp2_with fail
  refine (short_any s 600 _ (by omega)).mono ?_
  rintro e w2 ⟨t, rfl, htl, hts, rfl⟩
  clear htl
  go_wp2_with fail
  refine (parse_short t _ hts hg1).mono ?_
  rintro e w3 ⟨v1, rfl, hnt1⟩
  obtain ⟨d1, f1, hL1, hev1, hni1⟩ := hnt1.lies
  have hk3 := hk1.trans hnt1.kept
  have hg3 := hg.kept hk3 (by simp) (by simp)
  obtain ⟨I, hI1, hI2, hI3, hI4⟩ := again_read t.data.toList
  have hti := tree_items hni1 hI1 hI2 (hev1.trans hI3)
  have hwa := writeAns_ok hti
  have hb1 : bulkF d1 f1 ≤ 1099511627776 := by
    rw [bulkF_ev d1 f1 hni1, hev1]
    have := readP_bulk t.data.toList
    have e : t.data.toList.length = t.size := by simp
    omega
  have HW1 : Hid (Calls Tryd.prog 8 #[v1] w3 fun e w' => e = .returned (.tuple #[.string ⟨(writeI I).toArray⟩, .int .i64 0]) ∧ Kept [] w3 w') := by
    have := write_any d1 f1 v1 w3 hL1 hb1 hg3
    rw [hwa, hti.1] at this
    exact this
  have HEV1 : Hid (evF d1 f1 = readP t.data.toList) := hev1
  have HI4 : Hid (readP (writeI I) = readP t.data.toList) := hI4
  have HTI : Hid (∀ (d : Nat) (f : GF d), niceF d f → evF d f = readP (writeI I) → checkF d f = 0 ∧ writeAns d f = writeI I) := fun d f hn he => by
    have h2 := tree_items hn hI1 hI2 ((he.trans hI4).trans hI3)
    exact ⟨h2.1, writeAns_ok h2⟩
  have hsz : (⟨(writeI I).toArray⟩ : ByteArray).size = (writeI I).length := by simp [ByteArray.size]
  obtain ⟨va1, vn1, vc1, hv1⟩ : ∃ a n c, v1 = .slice a n c := by
    obtain ⟨a, c, h⟩ := hL1.form
    exact ⟨a, _, c, h⟩
  subst hv1
  clear hI1 hI2 hI3 hI4 hti hwa hev1 hnt1
  go_wp2_with fail
  refine Calls.mono HW1.out ?_
  rintro e w4 ⟨rfl, hk4⟩
  have hK4 := hk3.trans hk4
  have hg4 := hg.kept hK4 (by simp) (by simp)
  have hL4 := hL1.kept d1 hk4
  clear hL1 HW1
  generalize hW : writeI I = W at *
  clear hW
  by_cases hlen : 600 < W.length
  · have HPL : Hid _ := parse_long ⟨W.toArray⟩ w4 (by rw [hsz]; exact hlen)
    have hgt : (600 : Int) < (W.length : Int) := by omega
    clear hlen
    go_wp2_with fail
    refine Calls.mono HPL.out ?_
    rintro e w5 ⟨rfl, hk5⟩
    go_wp2_with fail
    go_ret
    exact ⟨rfl, hK4.trans hk5⟩
  · have HPS : Hid _ := parse_short ⟨W.toArray⟩ w4 (by rw [hsz]; omega) hg4
    have hgt : ((600 : Int) < (W.length : Int)) = False := by simp; omega
    clear hlen
    go_wp2_with fail
    refine Calls.mono HPS.out ?_
    rintro e w5 ⟨v2, rfl, hnt2⟩
    have hnt2 : NewTree w4 w5 v2 (readP W) := hnt2
    obtain ⟨d2, f2, hL2, hev2, hni2⟩ := hnt2.lies
    have hk5 := hnt2.kept
    have hK5 := hK4.trans hk5
    have hg5 := hg.kept hK5 (by simp) (by simp)
    obtain ⟨hck2, hwa2⟩ := HTI.out d2 f2 hni2 hev2
    have hb2 : bulkF d2 f2 ≤ 1099511627776 := by
      rw [bulkF_ev d2 f2 hni2, hev2, HI4.out]
      have := readP_bulk t.data.toList
      have e : t.data.toList.length = t.size := by simp
      omega
    have HW2 : Hid (Calls Tryd.prog 8 #[v2] w5 fun e w' => e = .returned (.tuple #[.string ⟨W.toArray⟩, .int .i64 0]) ∧ Kept [] w5 w') := by
      have := write_any d2 f2 v2 w5 hL2 hb2 hg5
      rw [hwa2, hck2] at this
      exact this
    have hss : SameF d1 d2 f1 f2 := sameF_of hni1 hni2 ((HEV1.out.trans HI4.out.symm).trans hev2.symm)
    have HSM : Hid (∀ w', Kept [] w5 w' → Calls Tryd.prog 9 #[.slice va1 vn1 vc1, v2] w' fun e w'' => e = .returned (.bool true) ∧ ∃ n, w'' = w'.drewN n) := fun w' hk => same_any d1 d2 f1 f2 _ v2 w' ((hL4.kept d1 hk5).kept d1 hk) (hL2.kept d2 hk) hss hb1
    obtain ⟨va2, vn2, vc2, hv2⟩ : ∃ a n c, v2 = .slice a n c := by
      obtain ⟨a, c, h⟩ := hL2.form
      exact ⟨a, _, c, h⟩
    subst hv2
    clear hnt2 hL2 hev2 hni2 hss hL4 HTI hck2 hwa2 HPS
    go_wp2_with fail
    refine Calls.mono HW2.out ?_
    rintro e w6 ⟨rfl, hk6⟩
    go_wp2_with fail
    refine (HSM.out _ hk6).mono ?_
    rintro e w7 ⟨rfl, n7, rfl⟩
    go_wp2_with fail
    go_ret
    exact ⟨rfl, (hK5.trans hk6).drewN n7⟩
end Go.Proofs.YtlpmjpmefdpcmaaDoor
