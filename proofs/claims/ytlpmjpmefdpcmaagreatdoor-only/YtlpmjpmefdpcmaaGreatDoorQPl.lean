import Derived.Test.YtlpmjpmefdpcmaaGreatDoorQPlD
import Derived.Deep.RegionLaw
import Derived.Deep.CutBlock
import Derived.Deep.DeepCutAuto
namespace Go.Proofs.YtlpmjpmefdpcmaaGreatDoor
open Go.RowKit Scrub Go.Shelf
set_option maxRecDepth 100000 in
set_option maxHeartbeats 4000000 in
theorem policy_ok : PolicyOk := by
  intro v1 v2 es ats w h1 h2 hb hl1 hl2
  obtain ⟨i0, hi, hz0, hz1, hz2⟩ := info_parts infoStr
  obtain ⟨a1, c1, rfl, hc1⟩ := h1
  obtain ⟨a2, c2, rfl, hc2⟩ := h2
  have HC1 : Hid _ := hc1
  have HC2 : Hid _ := hc2
  have HB : Hid _ := hb
  clear hc1 hc2 hb
  have hP0 : PBox w [] [] (.slice none 0 0) (.slice none 0 0) ((w.alloc (.cells #[.slice none 0 0, .slice none 0 0] 33)).alloc (.cells #[.slice none 0 0, .slice none 0 0] 33)) := by
    refine ⟨((Kept.refl [] w).alloc _).alloc _, ?_, ⟨World.ownsRow_nil _ _ _ _, World.ownsRow_nil _ _ _ _⟩, by simp [Value.ownBlock], by simp [Value.ownBlock], by simp [Value.ownBlock], ?_⟩
    · have h := heap_alloc_new (w.alloc (.cells #[.slice none 0 0, .slice none 0 0] 33)) (.cells #[.slice none 0 0, .slice none 0 0] 33)
      simpa using h
    · exact (((Kept.refl [] (w.alloc _)).alloc _).block _ (by simp) (by simp)).trans (heap_alloc_new w _)
  have HP0 : Hid (PBox _ _ _ _ _ _) := hP0
  clear hP0
  go_enter Tryz.func19, Tryz.ntmps19
  go_upto_block 0 with fail
  go_cut [] (fun wx => ∃ ev, PBox w ((es.take 12).map nmP) [] ev (.slice none 0 0) wx)
  case first =>
    go_wp2_with fail
    go_loopg [6] es.length (fun g x wr => ∃ k : Nat, k ≤ es.length ∧ k ≤ 12 ∧ g = es.length - k ∧ x = .int .i64 (k : Int) ∧ ∃ ev, PBox w ((es.take k).map nmP) [] ev (.slice none 0 0) wr)
    case atStart => exact ⟨0, by omega, by omega, rfl, rfl, _, HP0.out⟩
    case round =>
      obtain ⟨k, hk, hk12, hgk, rfl, ev, hP⟩ := hrel
      have HG : Hid _ := hgk
      have hPs := hP
      obtain ⟨hkept, hbx, ⟨ho1, ho2⟩, hn1, hn2, hn3, hrb⟩ := hP
      obtain ⟨ea, ec, rfl⟩ := ownsRow_form ho1
      have HP : Hid (PBox _ _ _ _ _ _) := hPs
      have q0 : wr.cell? ⟨w.heap.size + 1, 0, none⟩ = some (.slice ea ((es.take k).map nmP).length ec) := by simp [World.cell?, hbx]
      have q1 : wr.cell? ⟨w.heap.size + 1, 1, none⟩ = some (.slice none 0 0) := by simp [World.cell?, hbx]
      have hlt0 : w.heap.size + 1 < wr.heap.size := (Array.getElem?_eq_some_iff.1 hbx).1
      clear hgk hPs hbx ho2 hn1 hn2 hn3 hrb
      by_cases hlt : k < es.length ∧ k < 12
      · have hlt1 : (k : Int) < (es.length : Int) := by omega
        have hlt2 : (k : Int) < 12 := by omega
        have hge : (0 : Int) ≤ (k : Int) := by omega
        obtain ⟨g, o, rfl, c0⟩ := HC1.out k hlt.1
        have hgw : g < w.heap.size := cell_lt c0
        have c0' := cell_kept hkept c0
        have hel := HB.out (es[k]) (by simp)
        have htk : (es.take (k + 1)).map nmP = (es.take k).map nmP ++ [nmP es[k]] := by rw [List.take_succ_eq_append_getElem hlt.1, List.map_append]; rfl
        have HTK : Hid _ := htk
        have HSH : Hid (∀ w', Calls Tryz.prog 21 #[.string ⟨((120 : UInt8) :: es[k]).toArray⟩, .int .i64 20] w' fun e w'' => e = .returned (.string ⟨(((120 : UInt8) :: es[k]).take 20).toArray⟩) ∧ w'' = w') := fun w' => short_list _ 20 w' (by omega)
        have HPK : Hid (∀ w', Calls Tryz.prog 27 #[.int .i64 ((es[k]).length : Int), .int .i64 2] w' fun e w'' => e = .returned (.int .i64 (((es[k]).length % 2 : Nat) : Int)) ∧ w'' = w') := fun w' => pick_any _ 2 w' (by omega) (by omega) (by omega)
        have HNM : Hid (nmP es[k] = (((120 : UInt8) :: es[k]).take 20).drop ((es[k]).length % 2)) := rfl
        have hm : (((es[k]).length % 2 : Nat) : Int) ≤ ((((120 : UInt8) :: es[k]).take 20).length : Int) := by
          rw [List.length_take, List.length_cons]
          omega
        have hm0 : (0 : Int) ≤ (((es[k]).length % 2 : Nat) : Int) := by omega
        have hadd : ∀ w', (Op.stringOp .add ⟨#[120]⟩ ⟨(es[k]).toArray⟩).run Tryz.prog w' = .ok (.string ⟨((120 : UInt8) :: es[k]).toArray⟩) w' := add_x hel
        have hnl : ((es.take k).map nmP).length ≤ 12 := by simp; omega
        clear c0 htk
        have HXE : Hid ((⟨(((120 : UInt8) :: es[k]).take 20).toArray⟩ : ByteArray).extract ((es[k]).length % 2) (((120 : UInt8) :: es[k]).take 20).length = ⟨(nmP es[k]).toArray⟩) := drop_extract _ _
        generalize hM : (es[k]).length % 2 = m at *
        generalize hL : ((120 : UInt8) :: es[k]).take 20 = l20 at *
        generalize hX : nmP es[k] = xn at *
        generalize hF : ((120 : UInt8) :: es[k]) = full at *
        generalize es[k] = el at *
        clear hM hL hX hF
        generalize hN : (es.take k).map nmP = names at *
        clear hN
        have hfar : ∀ W0 w', Kept [] wr W0 → W0.grownBy w' (Value.slice ea names.length ec).ownBlock → ((w'.cell? ⟨w.heap.size + 1, 0, none⟩ = some (.slice ea names.length ec) ∧ w'.cell? ⟨g, o + k, none⟩ = some (.string ⟨el.toArray⟩)) ∧ w'.frozen? ⟨w.heap.size + 1, 0, none⟩ = false) := fun W0 w' h1 h2 => by
          obtain ⟨⟨⟨f0, _⟩, f1, _⟩, f2⟩ := HP.out.far (.inl rfl) h1 h2
          exact ⟨⟨f0, (f2 ⟨g, o + k, none⟩ hgw).trans c0'⟩, f1⟩
        have HFAR : Hid _ := hfar
        have HO1 : Hid _ := ho1
        have hne1 : ¬ g = w.heap.size + 1 := by omega
        have hne2 : ¬ w.heap.size + 1 = g := by omega
        clear hfar ho1
        go_upto_block 1 with fail
        go_cut [] (fun wx => ∃ ev', PBox w ((es.take (k + 1)).map nmP) [] ev' (.slice none 0 0) wx)
        case first =>
          go_wp2_with fail
          go_region_law (first
              | (go_simp; go_at_call 21; refine (HSH.out _).mono ?_; rintro e w2 ⟨rfl, rfl⟩; dsimp only)
              | (go_simp; go_at_call 27; refine (HPK.out _).mono ?_; rintro e w2 ⟨rfl, rfl⟩; dsimp only)
              | (refine step_append_fp (by rfl) (.tmp 19) (.tmp 33) 22 (by rfl) 0 9 i0 _ 1 16 Tryz.underlying22 hi hz0 hz1 hz2 (by rfl) (by decide) (.slice ea names.length ec) names.length (strCells names) (by simp [Act.eval]) (by exact ownsRow_kept HO1.out (by first | exact (Kept.refl [] wr).alloc _ | exact (Kept.refl [] wr).drew.alloc _ | exact ((Kept.refl [] wr).drewN _).alloc _) (by simp)) _ 1 1 [.string ((⟨l20.toArray⟩ : ByteArray).extract m l20.length)] (by simp [Act.eval]; rfl) rfl (by exact new_cells _ [.string ((⟨l20.toArray⟩ : ByteArray).extract m l20.length)] 9) (by simp [Value.oneCell']) (by unfold maxLen; omega) (by omega) (Nat.zero_le _) ?_; intro v' w' hown' hgr' hmv'; obtain ⟨W0, hgr2, hk0, hmv2⟩ : ∃ W0 : World, W0.grownBy w' (Value.slice ea names.length ec).ownBlock ∧ Kept [] wr W0 ∧ Moved W0 (Value.slice ea names.length ec) v' := ⟨_, hgr', (by first | exact (Kept.refl [] wr).alloc _ | exact (Kept.refl [] wr).drew.alloc _ | exact ((Kept.refl [] wr).drewN _).alloc _), hmv'⟩; clear hgr' hmv'; obtain ⟨va', vc', rfl⟩ := ownsRow_form hown'; have bf := (HFAR.out _ _ hk0 hgr2).2; have bc := (HFAR.out _ _ hk0 hgr2).1.1; have bd := (HFAR.out _ _ hk0 hgr2).1.2)
              | fail)
          all_goals
            rw [HXE.out] at hown'
            have hfin := HP.out.first hk0 hown' hgr2 hmv2
            rw [← HTK.out] at hfin
            have HFIN : Hid (PBox _ _ _ _ _ _) := hfin
            clear hfin hown' hgr2 hmv2 hk0
            go_wp2_with fail
            go_meet
            case rel => exact ⟨_, HFIN.out⟩
        case rest =>
          obtain ⟨ev', hP'⟩ := hcut
          have HP' : Hid (PBox _ _ _ _ _ _) := hP'
          clear hP'
          go_wp2_with fail
          go_roundg (es.length - (k + 1))
          case measure => rw [HG.out]; omega
          case rel => exact ⟨k + 1, by omega, by omega, rfl, by go_num, _, HP'.out⟩
      · have hdone : (es.take k).map nmP = (es.take 12).map nmP := by
          rcases Nat.lt_or_ge k es.length with h | h
          · have : k = 12 := by omega
            rw [this]
          · rw [List.take_of_length_le (by omega), List.take_of_length_le (by omega)]
        have hP1 := HP.out
        rw [hdone] at hP1
        have HP1 : Hid (PBox _ _ _ _ _ _) := hP1
        clear hP1 hdone HP ho1 q0 q1
        by_cases hke : k < es.length
        · have hx1 : (k : Int) < (es.length : Int) := by omega
          have hx2 : ((k : Int) < 12) = False := eq_false (by omega)
          clear hlt
          go_wp2_with fail
          go_meet
          case rel => exact ⟨_, HP1.out⟩
        · have hx1 : ((k : Int) < (es.length : Int)) = False := eq_false (by omega)
          clear hlt
          go_wp2_with fail
          go_meet
          case rel => exact ⟨_, HP1.out⟩
  case rest =>
  obtain ⟨ev, hP⟩ := hcut
  have HPc : Hid (PBox _ _ _ _ _ _) := hP
  obtain ⟨fa, fc, hfe⟩ := ownsRow_form hP.2.2.1.1
  generalize ((es.take 12).map nmP).length = fn at hfe
  subst hfe
  clear hP HP0
  go_wp2_with fail
  go_loopg [7] ats.length (fun g x wr => ∃ k : Nat, k ≤ ats.length ∧ k ≤ 12 ∧ g = ats.length - k ∧ x = .int .i64 (k : Int) ∧ ∃ av, PBox w ((es.take 12).map nmP) ((ats.take k).map nmP) (.slice fa fn fc) av wr)
  case atStart => exact ⟨0, by omega, by omega, rfl, rfl, _, HPc.out⟩
  case round =>
    obtain ⟨k, hk, hk12, hgk, rfl, ev, hP⟩ := hrel
    have HG : Hid _ := hgk
    have hPs := hP
    obtain ⟨hkept, hbx, ⟨ho1, ho2⟩, hn1, hn2, hn3, hrb⟩ := hP
    obtain ⟨ea, ec, rfl⟩ := ownsRow_form ho2
    have HP : Hid (PBox _ _ _ _ _ _) := hPs
    have q0 : wr.cell? ⟨w.heap.size + 1, 1, none⟩ = some (.slice ea ((ats.take k).map nmP).length ec) := by simp [World.cell?, hbx]
    have q1 : wr.cell? ⟨w.heap.size + 1, 0, none⟩ = some (.slice fa fn fc) := by simp [World.cell?, hbx]
    have hlt0 : w.heap.size + 1 < wr.heap.size := (Array.getElem?_eq_some_iff.1 hbx).1
    have z0 : wr.cell? ⟨w.heap.size, 0, none⟩ = some (.slice none 0 0) := by simp [World.cell?, hrb]
    have z1 : wr.cell? ⟨w.heap.size, 1, none⟩ = some (.slice none 0 0) := by simp [World.cell?, hrb]
    have z2 : wr.frozen? ⟨w.heap.size, 0, none⟩ = false := by simp [World.frozen?, hrb]
    have z3 : wr.frozen? ⟨w.heap.size, 1, none⟩ = false := by simp [World.frozen?, hrb]
    clear hgk hPs hbx ho1 hn1 hn2 hn3 hrb
    by_cases hlt : k < ats.length ∧ k < 12
    · have hlt1 : (k : Int) < (ats.length : Int) := by omega
      have hlt2 : (k : Int) < 12 := by omega
      have hge : (0 : Int) ≤ (k : Int) := by omega
      obtain ⟨g, o, rfl, c0⟩ := HC2.out k hlt.1
      have hgw : g < w.heap.size := cell_lt c0
      have c0' := cell_kept hkept c0
      have hel := HB.out (ats[k]) (by simp)
      have htk : (ats.take (k + 1)).map nmP = (ats.take k).map nmP ++ [nmP ats[k]] := by rw [List.take_succ_eq_append_getElem hlt.1, List.map_append]; rfl
      have HTK : Hid _ := htk
      have HSH : Hid (∀ w', Calls Tryz.prog 21 #[.string ⟨((120 : UInt8) :: ats[k]).toArray⟩, .int .i64 20] w' fun e w'' => e = .returned (.string ⟨(((120 : UInt8) :: ats[k]).take 20).toArray⟩) ∧ w'' = w') := fun w' => short_list _ 20 w' (by omega)
      have HPK : Hid (∀ w', Calls Tryz.prog 27 #[.int .i64 ((ats[k]).length : Int), .int .i64 2] w' fun e w'' => e = .returned (.int .i64 (((ats[k]).length % 2 : Nat) : Int)) ∧ w'' = w') := fun w' => pick_any _ 2 w' (by omega) (by omega) (by omega)
      have HNM : Hid (nmP ats[k] = (((120 : UInt8) :: ats[k]).take 20).drop ((ats[k]).length % 2)) := rfl
      have hm : (((ats[k]).length % 2 : Nat) : Int) ≤ ((((120 : UInt8) :: ats[k]).take 20).length : Int) := by
        rw [List.length_take, List.length_cons]
        omega
      have hm0 : (0 : Int) ≤ (((ats[k]).length % 2 : Nat) : Int) := by omega
      have hadd : ∀ w', (Op.stringOp .add ⟨#[120]⟩ ⟨(ats[k]).toArray⟩).run Tryz.prog w' = .ok (.string ⟨((120 : UInt8) :: ats[k]).toArray⟩) w' := add_x hel
      have hnl : ((ats.take k).map nmP).length ≤ 12 := by simp; omega
      clear c0 htk
      have HXE : Hid ((⟨(((120 : UInt8) :: ats[k]).take 20).toArray⟩ : ByteArray).extract ((ats[k]).length % 2) (((120 : UInt8) :: ats[k]).take 20).length = ⟨(nmP ats[k]).toArray⟩) := drop_extract _ _
      generalize hM : (ats[k]).length % 2 = m at *
      generalize hL : ((120 : UInt8) :: ats[k]).take 20 = l20 at *
      generalize hX : nmP ats[k] = xn at *
      generalize hF : ((120 : UInt8) :: ats[k]) = full at *
      generalize ats[k] = el at *
      clear hM hL hX hF
      generalize hN : (ats.take k).map nmP = names at *
      clear hN
      have hfar : ∀ W0 w', Kept [] wr W0 → W0.grownBy w' (Value.slice ea names.length ec).ownBlock → ((w'.cell? ⟨w.heap.size + 1, 1, none⟩ = some (.slice ea names.length ec) ∧ w'.cell? ⟨g, o + k, none⟩ = some (.string ⟨el.toArray⟩)) ∧ w'.frozen? ⟨w.heap.size + 1, 1, none⟩ = false) := fun W0 w' h1 h2 => by
        obtain ⟨⟨⟨_, f0⟩, _, f1⟩, f2⟩ := HP.out.far (.inr rfl) h1 h2
        exact ⟨⟨f0, (f2 ⟨g, o + k, none⟩ hgw).trans c0'⟩, f1⟩
      have HFAR : Hid _ := hfar
      have HO1 : Hid _ := ho2
      have hne1 : ¬ g = w.heap.size + 1 := by omega
      have hne2 : ¬ w.heap.size + 1 = g := by omega
      clear hfar ho2
      go_upto_block 3 with fail
      go_cut [] (fun wx => ∃ ev', PBox w ((es.take 12).map nmP) ((ats.take (k + 1)).map nmP) (.slice fa fn fc) ev' wx)
      case first =>
        go_wp2_with fail
        go_region_law (first
            | (go_simp; go_at_call 21; refine (HSH.out _).mono ?_; rintro e w2 ⟨rfl, rfl⟩; dsimp only)
            | (go_simp; go_at_call 27; refine (HPK.out _).mono ?_; rintro e w2 ⟨rfl, rfl⟩; dsimp only)
            | (refine step_append_fp (by rfl) (.tmp 47) (.tmp 61) 22 (by rfl) 0 9 i0 _ 1 16 Tryz.underlying22 hi hz0 hz1 hz2 (by rfl) (by decide) (.slice ea names.length ec) names.length (strCells names) (by simp [Act.eval]) (by exact ownsRow_kept HO1.out (by first | exact (Kept.refl [] wr).alloc _ | exact (Kept.refl [] wr).drew.alloc _ | exact ((Kept.refl [] wr).drewN _).alloc _) (by simp)) _ 1 1 [.string ((⟨l20.toArray⟩ : ByteArray).extract m l20.length)] (by simp [Act.eval]; rfl) rfl (by exact new_cells _ [.string ((⟨l20.toArray⟩ : ByteArray).extract m l20.length)] 9) (by simp [Value.oneCell']) (by unfold maxLen; omega) (by omega) (Nat.zero_le _) ?_; intro v' w' hown' hgr' hmv'; obtain ⟨W0, hgr2, hk0, hmv2⟩ : ∃ W0 : World, W0.grownBy w' (Value.slice ea names.length ec).ownBlock ∧ Kept [] wr W0 ∧ Moved W0 (Value.slice ea names.length ec) v' := ⟨_, hgr', (by first | exact (Kept.refl [] wr).alloc _ | exact (Kept.refl [] wr).drew.alloc _ | exact ((Kept.refl [] wr).drewN _).alloc _), hmv'⟩; clear hgr' hmv'; obtain ⟨va', vc', rfl⟩ := ownsRow_form hown'; have bf := (HFAR.out _ _ hk0 hgr2).2; have bc := (HFAR.out _ _ hk0 hgr2).1.1; have bd := (HFAR.out _ _ hk0 hgr2).1.2)
            | fail)
        all_goals
          rw [HXE.out] at hown'
          have hfin := HP.out.second hk0 hown' hgr2 hmv2
          rw [← HTK.out] at hfin
          have HFIN : Hid (PBox _ _ _ _ _ _) := hfin
          clear hfin hown' hgr2 hmv2 hk0
          go_wp2_with fail
          go_meet
          case rel => exact ⟨_, HFIN.out⟩
      case rest =>
        obtain ⟨ev', hP'⟩ := hcut
        have HP' : Hid (PBox _ _ _ _ _ _) := hP'
        clear hP'
        go_wp2_with fail
        go_roundg (ats.length - (k + 1))
        case measure => rw [HG.out]; omega
        case rel => exact ⟨k + 1, by omega, by omega, rfl, by go_num, _, HP'.out⟩
    · have hdone : (ats.take k).map nmP = (ats.take 12).map nmP := by
        rcases Nat.lt_or_ge k ats.length with h | h
        · have : k = 12 := by omega
          rw [this]
        · rw [List.take_of_length_le (by omega), List.take_of_length_le (by omega)]
      have hP1 := HP.out
      rw [hdone] at hP1
      have HP1 : Hid (PBox _ _ _ _ _ _) := hP1
      clear hP1 hdone HP ho2
      by_cases hke : k < ats.length
      · have hx1 : (k : Int) < (ats.length : Int) := by omega
        have hx2 : ((k : Int) < 12) = False := eq_false (by omega)
        have HEL : Hid (((ats.take 12).map nmP).length = k) := by
          show _ = _
          rw [List.length_map, List.length_take]
          omega
        clear hlt
        go_wp2_with fail
        have hP1 := HP1.out.done
        have HD : Hid _ := hP1
        clear hP1
        refine bodyPost_ret (v := .agg #[.slice fa fn fc, .slice ea k ec]) (by simp [results, Tryz.results19, go_sem, *]) rfl ?_
        have hd := HD.out
        rw [HEL.out] at hd
        exact ⟨_, _, rfl, hd.1, hd.2⟩
      · have hx1 : ((k : Int) < (ats.length : Int)) = False := eq_false (by omega)
        have HEL : Hid (((ats.take 12).map nmP).length = k) := by
          show _ = _
          rw [List.length_map, List.length_take]
          omega
        clear hlt
        go_wp2_with fail
        have hP1 := HP1.out.done
        have HD : Hid _ := hP1
        clear hP1
        refine bodyPost_ret (v := .agg #[.slice fa fn fc, .slice ea k ec]) (by simp [results, Tryz.results19, go_sem, *]) rfl ?_
        have hd := HD.out
        rw [HEL.out] at hd
        exact ⟨_, _, rfl, hd.1, hd.2⟩
end Go.Proofs.YtlpmjpmefdpcmaaGreatDoor
