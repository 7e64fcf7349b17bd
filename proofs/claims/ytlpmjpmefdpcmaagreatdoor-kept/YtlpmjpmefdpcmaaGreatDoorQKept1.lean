import Derived.Test.YtlpmjpmefdpcmaaGreatDoorQTold1
/- scrubkeep.Kept: what is right, and what the policy lets by, is left as it is. -/
namespace Go.Proofs.YtlpmjpmefdpcmaaGreatDoor
open Go.RowKit Scrub Go.Shelf
theorem name_ne {n : List UInt8} (h : isNameP n = true) : n ≠ [] := by
  intro e
  subst e
  revert h
  decide
theorem attr_ne {al : List (List UInt8 × List UInt8)} (h : attrsOkP al = true) : ∀ a ∈ al, a.1 ≠ [] := by
  intro a ha e
  unfold attrsOkP at h
  simp only [Bool.and_eq_true] at h
  have := List.all_eq_true.1 h.1 a ha
  rw [e] at this
  revert this
  decide
/-- What is told of a tree that was read. -/
theorem told_read {s : List UInt8} {d : Nat} {f : GF d} (hev : evF d f = readP s) : (∀ x ∈ (toldF d f ([], [])).1, x ≠ []) ∧ ∀ x ∈ (toldF d f ([], [])).2, x ≠ [] := by
  refine told_from (q := fun x => x ≠ []) (r := fun x => x ≠ []) (inTree_ev fun n al hm => ?_) (by simp) (by simp)
  rw [hev] at hm
  obtain ⟨h1, h2⟩ := fit_names (read_fit s).1 n al hm
  exact ⟨name_ne h1, attr_ne h2⟩
theorem kept_clean {s : List UInt8} {d : Nat} {f : GF d} (hev : evF d f = readP s) (h1 : (toldF d f ([], [])).1.length ≤ 12) (h2 : (toldF d f ([], [])).2.length ≤ 12) (h3 : ∀ x ∈ (toldF d f ([], [])).1, x.length ≤ 20) (h4 : ∀ x ∈ (toldF d f ([], [])).2, x.length ≤ 20 ∧ leadsP x = false) :
    isPolP (toldF d f ([], [])) = true ∧ cleanP (toldF d f ([], [])) s = wEv [] (readP s) := by
  obtain ⟨n1, n2⟩ := told_read hev
  have hany : ∀ l : List (List UInt8), (∀ x ∈ l, x ≠ []) → (∀ x ∈ l, x.length ≤ 20) → l.any noNameP = false := by
    intro l g1 g2
    rw [List.any_eq_false]
    intro x hx
    have e1 := g1 x hx
    have e2 := g2 x hx
    unfold noNameP
    simp [e1]
    omega
  refine ⟨?_, clean_kept _ s ?_⟩
  · unfold isPolP areNamesP
    rw [hany _ n1 h3, hany _ n2 (fun x hx => (h4 x hx).1), decide_eq_true h1, decide_eq_true h2]
    rfl
  · rw [← hev]
    exact inTree_allIn ((told_sub d f ([], [])).2.2.mono (fun _ h => h) (fun x h => ⟨h, (h4 x h).2⟩))
theorem TInv.nil (w : World) : TInv w (.slice none 0 0) (.slice none 0 0) [] [] w := ⟨Kept.refl _ _, ⟨World.ownsRow_nil _ _ _ _, World.ownsRow_nil _ _ _ _⟩, by simp [Value.ownBlock], by simp [Value.ownBlock], by simp [Value.ownBlock]⟩
set_option maxRecDepth 100000 in
set_option maxHeartbeats 4000000 in
theorem kept_any (s : ByteArray) (w : World) (ht : Tabs w) : Calls Tryz.prog 10 #[.string s] w fun e w' => e = .returned (.bool true) ∧ Kept [] w w' := by
  have HX : Hid _ := cleanX_any w ht
  have HT : Hid (∀ w', Kept [] w w' → Tabs w') := fun w' hk => ht.kept hk
  obtain ⟨sl, rfl⟩ : ∃ sl : List UInt8, s = ⟨sl.toArray⟩ := ⟨_, ba_list s⟩
  have HSH : Hid (∀ w', Calls Tryz.prog 21 #[.string ⟨sl.toArray⟩, .int .i64 600] w' fun e w'' => e = .returned (.string ⟨(sl.take 600).toArray⟩) ∧ w'' = w') := fun w' => short_list sl 600 w' (by omega)
  have hs6 : (sl.take 600).length ≤ 600 := by simp; omega
  have hsz : (⟨(sl.take 600).toArray⟩ : ByteArray).size = (sl.take 600).length := by simp [ByteArray.size]
  have HPA : Hid (∀ w', Tabs w' → Calls Tryz.prog 23 #[.string ⟨(sl.take 600).toArray⟩] w' fun e w'' => ∃ v, e = .returned (.tuple #[v, .int .i64 0]) ∧ NewTree w' w'' v (readP (sl.take 600))) := fun w' h => parse_short ⟨(sl.take 600).toArray⟩ w' (by omega) h.1
  have HCL : Hid (∀ w' ev av p, PolAt w' ev av p → Tabs w' → isPolP p = true → Calls Tryz.prog 20 #[.agg #[ev, av], .string ⟨(sl.take 600).toArray⟩] w' fun e w'' => e = .returned (.tuple #[.string ⟨(cleanP p (sl.take 600)).toArray⟩, .int .i64 0]) ∧ Kept [] w' w'') := fun w' ev av p h1 h2 h3 => clean_list ev av p _ w' h1 h2 h3 hs6
  have HS6 : Hid _ := hs6
  clear ht hs6 hsz
  generalize hs' : sl.take 600 = s6 at *
  clear hs'
  go_enter Tryz.func10, Tryz.ntmps10
  go_wp2_with fail
  refine Calls.mono HX.out ?_
  rintro e w1 ⟨rfl, hk1⟩
  go_wp2_with fail
  refine (HSH.out _).mono ?_
  rintro e w2 ⟨rfl, rfl⟩
  go_wp2_with fail
  refine (HPA.out _ (HT.out _ hk1)).mono ?_
  rintro e w3 ⟨v, rfl, hnt⟩
  have hk3 := hk1.trans hnt.kept
  obtain ⟨d, f, hL, hev, hni⟩ := hnt.lies
  have hfw := fit_write hni (by rw [hev]; exact (read_fit s6).1)
  rw [hev] at hfw
  have hwa : writeAns d f = wEv [] (readP s6) := by rw [writeAns, if_pos hfw.2, hfw.1]
  have hbk : bulkF d f ≤ 1099511627776 := by
    rw [bulkF_ev d f hni, hev]
    have := readP_bulk s6
    have := HS6.out
    omega
  have HTO : Hid (Calls Tryz.prog 25 #[v, .slice none 0 0, .slice none 0 0] w3 (ToldPost w3 (toldF d f ([], [])))) := told_any d f v w3 hL w3 _ _ ([], []) (TInv.nil w3) (by show 0 + 0 + bulkF d f ≤ _; omega)
  have HWR : Hid (∀ w', Kept [] w3 w' → Calls Tryz.prog 16 #[v] w' fun e w'' => e = .returned (.tuple #[.string ⟨(wEv [] (readP s6)).toArray⟩, .int .i64 0]) ∧ Kept [] w' w'') := fun w' hk => by
    have := write_any d f v w' (hL.kept d hk) hbk (HT.out _ (hk3.trans hk)).1
    rw [hwa, hfw.2] at this
    exact this
  have HKC : Hid _ := kept_clean (d := d) (f := f) hev
  have hlen := told_len d f ([], [])
  have hwl : (wEv [] (readP s6)).length ≤ 8796093022208 := by
    have := writeF_len d f
    rw [hfw.1] at this
    omega
  obtain ⟨e1, e2, hv⟩ := hL.form
  subst hv
  generalize glen d f = gl at *
  have hlen2 : (toldF d f ([], [])).1.length + (toldF d f ([], [])).2.length ≤ 1099511627776 := by
    have h0 : ((([], []) : Pol).1).length = 0 := rfl
    have h1 : ((([], []) : Pol).2).length = 0 := rfl
    omega
  clear hnt hL hev hni hfw hwa hbk HX HPA hlen
  generalize toldF d f ([], []) = p at *
  generalize wEv [] (readP s6) = Wd at *
  go_wp2_with fail
  refine Calls.mono HTO.out ?_
  rintro e w4 ⟨nv, av, rfl, hTI⟩
  have hk4 := hTI.1
  have HN1 : Hid (∀ w', Kept [] w4 w' → StrsAt w' nv p.1) := fun w' hk => hTI.2.1.1.strs.kept hk
  have HN2 : Hid (∀ w', Kept [] w4 w' → StrsAt w' av p.2) := fun w' hk => hTI.2.1.2.strs.kept hk
  obtain ⟨b1, d1, hv1⟩ := ownsRow_form hTI.2.1.1
  obtain ⟨b2, d2, hv2⟩ := ownsRow_form hTI.2.1.2
  subst hv1 hv2
  clear hTI HTO
  go_wp2_with fail
  refine (HWR.out _ hk4).mono ?_
  rintro e w5 ⟨rfl, hk5⟩
  have hk6 := (hk3.trans hk4).trans hk5
  have HN3 : Hid (∀ w', Kept [] w5 w' → PolAt w' (.slice b1 p.1.length d1) (.slice b2 p.2.length d2) p) := fun w' hk => ⟨HN1.out w' (hk5.trans hk), HN2.out w' (hk5.trans hk)⟩
  clear HN1 HN2 HWR
  by_cases g1 : 12 < p.1.length
  · have g1' : (12 : Int) < (p.1.length : Int) := by omega
    clear g1
    go_wp2_with fail
    go_ret
    exact ⟨rfl, hk6⟩
  have g1' : ((12 : Int) < (p.1.length : Int)) = False := eq_false (by omega)
  by_cases g2 : 12 < p.2.length
  · have g2' : (12 : Int) < (p.2.length : Int) := by omega
    clear g1 g2
    go_wp2_with fail
    go_ret
    exact ⟨rfl, hk6⟩
  have g2' : ((12 : Int) < (p.2.length : Int)) = False := eq_false (by omega)
  by_cases g3 : 600 < Wd.length
  · have g3' : (600 : Int) < (Wd.length : Int) := by omega
    clear g1 g2 g3
    go_wp2_with fail
    go_ret
    exact ⟨rfl, hk6⟩
  have g3' : ((600 : Int) < (Wd.length : Int)) = False := eq_false (by omega)
  have HG1 : Hid (p.1.length ≤ 12) := Nat.le_of_not_lt g1
  have HG2 : Hid (p.2.length ≤ 12) := Nat.le_of_not_lt g2
  clear g1 g2 g3
  go_wp2_with fail
  go_loopg [10] p.1.length (fun g x wr => ∃ k : Nat, k ≤ p.1.length ∧ g = p.1.length - k ∧ x = .int .i64 (k : Int) ∧ (∃ n, wr = w5.drewN n) ∧ ∀ y ∈ p.1.take k, y.length ≤ 20)
  case atStart => exact ⟨0, by omega, rfl, rfl, ⟨0, rfl⟩, by simp⟩
  case round =>
    obtain ⟨k, hk, hgk, rfl, ⟨n, rfl⟩, hno⟩ := hrel
    have HG : Hid _ := hgk
    have HNO : Hid _ := hno
    clear hgk hno
    by_cases hlt : k < p.1.length
    · have hlt' : (k : Int) < (p.1.length : Int) := by omega
      have hge : (0 : Int) ≤ (k : Int) := by omega
      obtain ⟨x1, x2, hv, hcs⟩ := (HN3.out w5 (Kept.refl _ _)).1
      obtain ⟨g, o, hg, y0⟩ := hcs k hlt
      injection hv with hv1 hv2 hv3
      subst hv1 hv3 hg
      have HTK : Hid (p.1.take (k + 1) = p.1.take k ++ [p.1[k]]) := List.take_succ_eq_append_getElem hlt
      clear hcs
      generalize p.1[k] = nm at *
      by_cases hl : 20 < nm.length
      · have hl' : (20 : Int) < (nm.length : Int) := by omega
        clear hl
        go_wp2_with fail
        go_ret
        exact ⟨rfl, hk6.drewN n⟩
      · have hl' : ((20 : Int) < (nm.length : Int)) = False := eq_false (by omega)
        have HST : Hid (∀ y ∈ p.1.take (k + 1), y.length ≤ 20) := by
          intro y hy
          rw [HTK.out] at hy
          rcases List.mem_append.1 hy with hy | hy
          · exact HNO.out y hy
          · rw [List.mem_singleton.1 hy]
            omega
        clear hl
        go_wp2_with fail
        go_roundg (p.1.length - (k + 1))
        case measure => rw [HG.out]; omega
        case rel => exact ⟨k + 1, by omega, rfl, by go_num, ⟨n, rfl⟩, HST.out⟩
    · have hlt' : ((k : Int) < (p.1.length : Int)) = False := by simp; omega
      have et : p.1.take k = p.1 := List.take_of_length_le (by omega)
      rw [et] at HNO
      clear et
      go_wp2_with fail
      go_loopg [11] p.2.length (fun g x wr => ∃ j : Nat, j ≤ p.2.length ∧ g = p.2.length - j ∧ x = .int .i64 (j : Int) ∧ (∃ n, wr = w5.drewN n) ∧ ∀ y ∈ p.2.take j, y.length ≤ 20 ∧ leadsP y = false)
      case atStart => exact ⟨0, by omega, rfl, rfl, ⟨n, rfl⟩, by simp⟩
      case round =>
        obtain ⟨j, hj, hgj, rfl, ⟨n2, rfl⟩, hno2⟩ := hrel
        have HGJ : Hid _ := hgj
        have HNO2 : Hid _ := hno2
        clear hgj hno2
        by_cases hjl : j < p.2.length
        · have hjl' : (j : Int) < (p.2.length : Int) := by omega
          have hjg : (0 : Int) ≤ (j : Int) := by omega
          obtain ⟨x1, x2, hv, hcs⟩ := (HN3.out w5 (Kept.refl _ _)).2
          obtain ⟨g, o, hg, y0⟩ := hcs j hjl
          injection hv with hv1 hv2 hv3
          subst hv1 hv3 hg
          have HTK : Hid (p.2.take (j + 1) = p.2.take j ++ [p.2[j]]) := List.take_succ_eq_append_getElem hjl
          clear hcs
          generalize p.2[j] = nm at *
          by_cases hl : 20 < nm.length
          · have hl' : (20 : Int) < (nm.length : Int) := by omega
            clear hl
            go_wp2_with fail
            go_ret
            exact ⟨rfl, hk6.drewN n2⟩
          · have hl' : ((20 : Int) < (nm.length : Int)) = False := eq_false (by omega)
            by_cases h1 : nm = [104, 114, 101, 102]
            · rw [h1] at y0 hl'
              clear h1 hl HTK
              go_wp2_with fail
              go_ret
              exact ⟨rfl, hk6.drewN n2⟩
            · by_cases h2 : nm = [115, 114, 99]
              · rw [h2] at y0 hl'
                clear h1 h2 hl HTK
                go_wp2_with fail
                go_ret
                exact ⟨rfl, hk6.drewN n2⟩
              · have hq1 : (nm == [104, 114, 101, 102]) = false := by simpa using h1
                have hq2 : (nm == [115, 114, 99]) = false := by simpa using h2
                have HST : Hid (∀ y ∈ p.2.take (j + 1), y.length ≤ 20 ∧ leadsP y = false) := by
                  intro y hy
                  rw [HTK.out] at hy
                  rcases List.mem_append.1 hy with hy | hy
                  · exact HNO2.out y hy
                  · rw [List.mem_singleton.1 hy]
                    exact ⟨by omega, by unfold leadsP; rw [hq1, hq2]; rfl⟩
                clear h1 h2 hl
                go_wp2_with fail
                go_roundg (p.2.length - (j + 1))
                case measure => rw [HGJ.out]; omega
                case rel => exact ⟨j + 1, by omega, rfl, by go_num, ⟨n2, rfl⟩, HST.out⟩
        · have hjl' : ((j : Int) < (p.2.length : Int)) = False := by simp; omega
          have et : p.2.take j = p.2 := List.take_of_length_le (by omega)
          rw [et] at HNO2
          clear et
          obtain ⟨hpk, hcl⟩ := HKC.out HG1.out HG2.out HNO.out HNO2.out
          have hk7 := hk6.drewN n2
          have HCC : Hid (Calls Tryz.prog 20 #[.agg #[.slice b1 p.1.length d1, .slice b2 p.2.length d2], .string ⟨s6.toArray⟩] (w5.drewN n2) fun e w'' => e = .returned (.tuple #[.string ⟨Wd.toArray⟩, .int .i64 0]) ∧ Kept [] (w5.drewN n2) w'') := by
            have := HCL.out (w5.drewN n2) _ _ p (HN3.out _ ((Kept.refl [] w5).drewN n2)) (HT.out _ hk7) hpk
            rw [hcl] at this
            exact this
          clear hpk hcl
          go_wp2_with fail
          refine (HSH.out _).mono ?_
          rintro e w8 ⟨rfl, hw8⟩
          subst hw8
          go_wp2_with fail
          refine Calls.mono HCC.out ?_
          rintro e w9 ⟨rfl, hk9⟩
          go_wp2_with fail
          go_ret
          exact ⟨rfl, hk7.trans hk9⟩
end Go.Proofs.YtlpmjpmefdpcmaaGreatDoor
