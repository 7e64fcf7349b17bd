import Derived.Test.YtlpmjpmefdpcmaaGreatDoorQTree8
import Derived.Test.YtlpmjpmefdpcmaaGreatDoorQText0
namespace Go.Proofs.YtlpmjpmefdpcmaaGreatDoor
open Go.RowKit Scrub Go.Shelf
theorem ba_append (a : List UInt8) (t : ByteArray) : (⟨a.toArray⟩ : ByteArray) ++ t = ⟨(a ++ t.data.toList).toArray⟩ := by
  apply ByteArray.ext
  simp [ByteArray.data_append]
theorem BPost.trans2 {bb : Nat} {F F1 : List Nat} {w w1 w' : World} {E' : List Ev} {st' : List (List UInt8)} (hk : Kept F w w1) (hg : Grow F w F1) (h : BPost bb F1 w1 E' st' w') : BPost bb F w E' st' w' := by
  obtain ⟨F', h1, h2, h3⟩ := h
  exact ⟨F', h1, hk.trans_new h2 (fun i hi => hg i hi), hg.trans h3 hk.size⟩
theorem BPost.ofAt {bb : Nat} {F F' : List Nat} {w W : World} {E' : List Ev} {st' : List (List UInt8)} {tv ov : Value} {ts os : List NodeR} (hB : BAt W bb tv ov ts os F') (hE : E' = outOf ts os) (hS : st' = os.map NodeR.name) (hK : Kept F w W) (hG : Grow F w F') : BPost bb F w E' st' W := ⟨F', ⟨tv, ov, ts, os, hB, hE, hS⟩, hK, hG⟩
set_option maxHeartbeats 8000000 in
theorem textB_any (bb : Nat) (F : List Nat) (E : List Ev) (st : List (List UInt8)) (t : ByteArray) (w : World) (h : Bld w bb F E st) (ht : t.data.toList ≠ []) (hst : st.length ≤ 12) (hEl : E.length ≤ 1099511627776) (hst1 : (openP E st).2.length ≤ 12) (hEl1 : (openP E st).1.length ≤ 1099511627776) (hsz : evSize (openP E st).1 + t.size ≤ 1099511627776) :
    Calls Tryz.prog 78 #[.pointer (some ⟨bb, 0, none⟩), .string t] w
      fun e w' => e = .returned (.tuple #[]) ∧ BPost bb F w (addText (openP E st).1 t.data.toList) (openP E st).2 w' := by
  obtain ⟨i0, hi, hz0, hz1, hz2⟩ := info_parts infoNode
  go_enter Tryz.func78, Tryz.ntmps78
  go_wp2_with fail
  refine (openCellFirst_any bb F E st _ h hst hEl).mono ?_
  rintro e w1 ⟨rfl, F1, hb1, hk1, hg1⟩
  generalize ho1 : (openP E st).1 = E1 at *
  generalize ho2 : (openP E st).2 = st1 at *
  have HO1 : Hid ((openP E st).1 = E1) := ho1
  have HO2 : Hid ((openP E st).2 = st1) := ho2
  clear ho1 ho2
  obtain ⟨tv, ov, ts, os, hb, hE, hS⟩ := hb1
  have HE : Hid (E1 = outOf ts os) := hE
  have HS : Hid (st1 = os.map NodeR.name) := hS
  have hol : os.length ≤ 12 := by rw [hS] at hst1; simpa using hst1
  have htl : ts.length ≤ E1.length := by
    have h2 := evsOf_le ts
    rw [hE]
    simp [outOf]
    omega
  clear hE hS hst1
  go_wp2_with fail
  rcases List.eq_nil_or_concat os with h0 | ⟨os1, y, h0⟩
  · subst h0
    refine (list_top bb tv ov ts F1 _ hb).mono ?_
    rintro e w2 ⟨rfl, n2, hw2⟩
    have hb2 : BAt w2 bb tv ov ts [] F1 := by rw [hw2]; exact hb.kept ((Kept.refl [] _).drewN n2) (by simp)
    have hk2 : Kept F w w2 := by rw [hw2]; exact hk1.drewN n2
    have hg2 : Grow F w F1 := hg1
    clear hw2 hb hk1 hg1
    obtain ⟨c0, c1, c2, c3⟩ := hb2.cells
    have hownT := hb2.2.1.1
    rcases List.eq_nil_or_concat ts with h0 | ⟨ts0, z, h0⟩
    · subst h0
      obtain ⟨ta, tc, rfl⟩ := ownsRow_form hownT
      have hbb2 : bb < w2.heap.size := hb2.2.2.2.2.2.2 bb ((hb2.mem bb).2 (.inl rfl))
      have hnews := new_cells w2 [.string ⟨#[]⟩, .slice none 0 0, .slice none 0 0, .string ⟨#[]⟩] 42
      have hkz : Kept [] w2 (w2.alloc (.cells #[.string ⟨#[]⟩, .slice none 0 0, .slice none 0 0, .string ⟨#[]⟩] 42)) := (Kept.refl [] w2).alloc _
      have hownT2 := ownsRow_kept hownT hkz (by simp)
      have hfar := hb2.far.1
      have hfar' : ∀ w' : World, (w2.alloc (.cells #[.string ⟨#[]⟩, .slice none 0 0, .slice none 0 0, .string ⟨#[]⟩] 42)).drew.grownBy w' (Value.slice ta 0 tc).ownBlock → w'.cell? ⟨bb, 0, none⟩ = some (Value.slice ta 0 tc) ∧ w'.frozen? ⟨bb, 0, none⟩ = false := by
        intro w' hgr
        have hk5 := hkz.drew.mono (S' := (Value.slice ta 0 tc).ownBlock.toList) (by simp) |>.trans (Kept.own hgr)
        have hbov : bb ∉ (Value.slice ta 0 tc).ownBlock.toList := fun hc => hfar bb (by simpa using hc) rfl
        exact ⟨(hk5.cell (p := ⟨bb, 0, none⟩) hbb2 hbov).trans c0, (hk5.frozen (p := ⟨bb, 0, none⟩) hbb2 hbov).trans c2⟩
      have hgb' : ∀ g' cap' : Nat, Moved (w2.alloc (.cells #[.string ⟨#[]⟩, .slice none 0 0, .slice none 0 0, .string ⟨#[]⟩] 42)).drew (Value.slice ta 0 tc) (.slice (some ⟨g', 0, none⟩) (0 + 1) cap') → ¬ g' = bb := by
        intro g' cap' hmv e
        rcases hmv with h1 | ⟨k, h1, h2⟩
        · exact hfar bb (by show (Value.slice ta 0 tc).ownBlock = some bb; rw [← h1, ← e]; rfl) rfl
        · have h3 := hkz.drew.size
          simp [Value.ownBlock] at h1
          omega
      clear hownT
      set_option maxRecDepth 100000 in
      go_wp2_with fail
      go_region_law (refine step_append_fp rfl (.tmp 40) (.tmp 44) 31 rfl 0 42 i0 _ 4 80 Tryz.underlying31 hi hz0 hz1 hz2 rfl (by decide) (Value.slice ta 0 tc) 0 (cellsOf ([] : List NodeR)) (by simp [Act.eval, Act.put]) (by exact hownT2) _ 1 1 [.string ⟨#[]⟩, .slice none 0 0, .slice none 0 0, .string ⟨#[]⟩] (by simp [Act.eval, Act.put]; rfl) rfl (by exact hnews) (by simp [Value.oneCell']) (by unfold maxLen; omega) (by omega) (Nat.zero_le _) ?_; intro v' w' hown' hgr' hmv'; obtain ⟨g', cap', rfl⟩ := form_pos hown'; obtain ⟨⟨s0, s1, s2, s3⟩, ⟨t0, t1, t2, t3⟩⟩ := new_row_cells (os := []) hown'; simp only [List.length_nil, Nat.zero_mul, Nat.zero_add] at s0 s1 s2 s3 t0 t1 t2 t3; obtain ⟨b0, b1⟩ := hfar' w' hgr'; have n1 := hgb' _ _ hmv'; have n2 : ¬ bb = g' := fun e => n1 e.symm)
      all_goals
        go_wp2_with fail
        go_end0
        rw [HO1.out, HO2.out]
        have hfin := text_top_fin (ts := []) hb2 hkz.drew hown' hgr' hmv' ht n1
        simp only [List.length_nil, Nat.zero_mul, Nat.zero_add] at hfin
        have hE2 : addText E1 t.data.toList = outOf ([] ++ [NodeR.ofText t.data.toList]) [] := by
          rw [HE.out]
          simp [outOf, evsOf, addText, NodeR.evs, NodeR.ofText]
        refine ⟨rfl, BPost.trans2 hk2 hg2 ?_⟩
        first
          | (obtain ⟨F', hB', hK', hG'⟩ := hfin.1
             with_reducible exact BPost.ofAt hB' hE2 HS.out hK' hG')
          | (obtain ⟨F', hB', hK', hG'⟩ := hfin.2
             with_reducible exact BPost.ofAt hB' hE2 HS.out hK' hG')
    · have h0' : ts = ts0 ++ [z] := by simpa using h0
      subst h0'
      clear h0
      have hl1 : (ts0 ++ [z]).length = ts0.length + 1 := by simp
      have hownT' := hownT
      rw [hl1] at hownT'
      obtain ⟨g, cap, rfl⟩ := form_pos hownT'
      have hzg := cellsOf_get (ts0 ++ [z]) ts0.length (by simp)
      have hzge : (ts0 ++ [z])[ts0.length]'(by simp) = z := by simp
      rw [hzge] at hzg
      have r0 := row_cell hownT' hzg.1
      have r3 := row_cell hownT' hzg.2.2.2
      have f3 := row_free hownT' (ts0.length * 4 + 3)
      have hidx : (ts0.length : Int) < (ts0.length : Int) + 1 := by omega
      have hb0 : (0 : Int) ≤ (ts0.length : Int) := by omega
      have hbd : ts0.length ≤ 1099511627776 := by simp at htl; omega
      clear hzg hzge hl1
      by_cases hz : z.name = []
      · have hzb : (z.name == []) = true := by simpa using hz
        have hev : outOf (ts0 ++ [z]) [] = evsOf ts0 ++ [evText z.text] := by simp [outOf, evsOf, NodeR.evs, hz]
        have hzs : z.text.length + t.size ≤ 1099511627776 := by
          have h2 := hsz
          rw [HE.out, hev, evSize_append] at h2
          simp [evSize] at h2
          omega
        have hfin := hb2.topText hz t.data.toList
        rw [← ba_append] at hfin
        have HEV : Hid _ := hev
        rw [hz] at r0
        clear hownT hownT' hev hsz
        set_option maxRecDepth 100000 in
        go_wp2_with fail
        refine bodyPost_ret (v := .tuple #[]) (by simp [results, Tryz.results78, go_sem]) rfl ?_
        rw [HO1.out, HO2.out]
        refine ⟨rfl, BPost.trans2 hk2 hg2 ⟨F1, ⟨_, _, _, _, hfin.1, ?_, HS.out⟩, hfin.2, Grow.refl _ _⟩⟩
        rw [HE.out, HEV.out, addText_text]
        simp [outOf, evsOf, NodeR.evs, NodeR.withText, hz]
      · have hzb : (z.name == []) = false := by simpa using hz
        have hbb2 : bb < w2.heap.size := hb2.2.2.2.2.2.2 bb ((hb2.mem bb).2 (.inl rfl))
        have hnews := new_cells w2 [.string ⟨#[]⟩, .slice none 0 0, .slice none 0 0, .string ⟨#[]⟩] 42
        have hkz : Kept [] w2 (w2.alloc (.cells #[.string ⟨#[]⟩, .slice none 0 0, .slice none 0 0, .string ⟨#[]⟩] 42)) := (Kept.refl [] w2).alloc _
        have hownT2 := ownsRow_kept hownT' hkz (by simp)
        have hfar := hb2.far.1
        have hfar' : ∀ w' : World, (w2.alloc (.cells #[.string ⟨#[]⟩, .slice none 0 0, .slice none 0 0, .string ⟨#[]⟩] 42)).drew.grownBy w' (Value.slice (some ⟨g, 0, none⟩) (ts0.length + 1) cap).ownBlock → w'.cell? ⟨bb, 0, none⟩ = some (Value.slice (some ⟨g, 0, none⟩) (ts0.length + 1) cap) ∧ w'.frozen? ⟨bb, 0, none⟩ = false := by
          intro w' hgr
          have hk5 := hkz.drew.mono (S' := (Value.slice (some ⟨g, 0, none⟩) (ts0.length + 1) cap).ownBlock.toList) (by simp) |>.trans (Kept.own hgr)
          have hbov : bb ∉ (Value.slice (some ⟨g, 0, none⟩) (ts0.length + 1) cap).ownBlock.toList := fun hc => hfar bb (by simpa using hc) rfl
          exact ⟨(hk5.cell (p := ⟨bb, 0, none⟩) hbb2 hbov).trans c0, (hk5.frozen (p := ⟨bb, 0, none⟩) hbb2 hbov).trans c2⟩
        have hgb' : ∀ g' cap' : Nat, Moved (w2.alloc (.cells #[.string ⟨#[]⟩, .slice none 0 0, .slice none 0 0, .string ⟨#[]⟩] 42)).drew (Value.slice (some ⟨g, 0, none⟩) (ts0.length + 1) cap) (.slice (some ⟨g', 0, none⟩) (ts0.length + 1 + 1) cap') → ¬ g' = bb := by
          intro g' cap' hmv e
          rcases hmv with h1 | ⟨k, h1, h2⟩
          · exact hfar bb (by rw [← h1, ← e]; rfl) rfl
          · have h3 := hkz.drew.size
            simp [Value.ownBlock] at h1
            omega
        have hrc : ∀ (w' : World) (g' cap' : Nat), w'.ownsRow 0 42 4 (.slice (some ⟨g', 0, none⟩) (ts0.length + 1 + 1) cap') (ts0.length + 1 + 1) (cellsOf (ts0 ++ [z]) ++ [.string ⟨#[]⟩, .slice none 0 0, .slice none 0 0, .string ⟨#[]⟩]) → (w'.cell? ⟨g', (ts0.length + 1) * 4, none⟩ = some (.string ⟨#[]⟩) ∧ w'.cell? ⟨g', (ts0.length + 1) * 4 + 1, none⟩ = some (.slice none 0 0) ∧ w'.cell? ⟨g', (ts0.length + 1) * 4 + 2, none⟩ = some (.slice none 0 0) ∧ w'.cell? ⟨g', (ts0.length + 1) * 4 + 3, none⟩ = some (.string ⟨#[]⟩)) ∧ (w'.frozen? ⟨g', (ts0.length + 1) * 4, none⟩ = false ∧ w'.frozen? ⟨g', (ts0.length + 1) * 4 + 1, none⟩ = false ∧ w'.frozen? ⟨g', (ts0.length + 1) * 4 + 2, none⟩ = false ∧ w'.frozen? ⟨g', (ts0.length + 1) * 4 + 3, none⟩ = false) := by
          intro w' g' cap' ho
          have hl : (ts0 ++ [z]).length = ts0.length + 1 := by simp
          have := new_row_cells (os := ts0 ++ [z]) (w := w') (g := g') (cap := cap') (by rw [hl]; exact ho)
          rw [hl] at this
          exact this
        have hidx3 : (ts0.length : Int) + 1 < (ts0.length : Int) + 1 + 1 := by omega
        have hidx4 : (0 : Int) ≤ (ts0.length : Int) + 1 := by omega
        have hE2 : Hid (addText E1 t.data.toList = outOf ((ts0 ++ [z]) ++ [NodeR.ofText t.data.toList]) []) := by
          show _ = _
          have e1 : outOf (ts0 ++ [z]) [] = (evsOf ts0 ++ (evOpen z.name z.al :: z.ev)) ++ [none] := by simp [outOf, evsOf, NodeR.evs, hz]
          have e2 : outOf ((ts0 ++ [z]) ++ [NodeR.ofText t.data.toList]) [] = outOf (ts0 ++ [z]) [] ++ [evText t.data.toList] := by simp [outOf, evsOf, NodeR.evs, NodeR.ofText]
          rw [HE.out, e2, e1, addText_close]
        clear hownT hownT'
        set_option maxRecDepth 100000 in
        go_wp2_with fail
        go_region_law (refine step_append_fp rfl (.tmp 40) (.tmp 44) 31 rfl 0 42 i0 _ 4 80 Tryz.underlying31 hi hz0 hz1 hz2 rfl (by decide) (Value.slice (some ⟨g, 0, none⟩) (ts0.length + 1) cap) (ts0.length + 1) (cellsOf (ts0 ++ [z])) (by simp [Act.eval, Act.put]) (by exact hownT2) _ 1 1 [.string ⟨#[]⟩, .slice none 0 0, .slice none 0 0, .string ⟨#[]⟩] (by simp [Act.eval, Act.put]; rfl) rfl (by exact hnews) (by simp [Value.oneCell']) (by unfold maxLen; omega) (by omega) (Nat.zero_le _) ?_; intro v' w' hown' hgr' hmv'; obtain ⟨g', cap', rfl⟩ := form_pos hown'; obtain ⟨⟨s0, s1, s2, s3⟩, ⟨t0, t1, t2, t3⟩⟩ := hrc w' g' cap' hown'; obtain ⟨b0, b1⟩ := hfar' w' hgr'; have n1 := hgb' _ _ hmv'; have n2 : ¬ bb = g' := fun e => n1 e.symm)
        all_goals
          go_wp2_with fail
          go_end0
          rw [HO1.out, HO2.out]
          have hl : (ts0 ++ [z]).length = ts0.length + 1 := by simp
          have hfin := text_top_fin (ts := ts0 ++ [z]) (w' := w') (g' := g') (cap' := cap') hb2 hkz.drew (by rw [hl]; exact hown') hgr' (by rw [hl]; exact hmv') ht n1
          rw [hl] at hfin
          refine ⟨rfl, BPost.trans2 hk2 hg2 ?_⟩
          first
            | (obtain ⟨F', hB', hK', hG'⟩ := hfin.1
               with_reducible exact BPost.ofAt hB' hE2.out HS.out hK' hG')
            | (obtain ⟨F', hB', hK', hG'⟩ := hfin.2
               with_reducible exact BPost.ofAt hB' hE2.out HS.out hK' hG')
  · have h0' : os = os1 ++ [y] := by simpa using h0
    subst h0'
    clear h0
    have hl1 : (os1 ++ [y]).length = os1.length + 1 := by simp
    have hown1 := hb.2.2.1.1
    rw [hl1] at hown1 hol
    obtain ⟨g, cap, rfl⟩ := form_pos hown1
    clear hown1
    refine (list_kid bb g cap tv ts os1 y F1 _ hb (by omega)).mono ?_
    rintro e w2 ⟨rfl, n2, hw2⟩
    have hb2 : BAt w2 bb tv (.slice (some ⟨g, 0, none⟩) (os1.length + 1) cap) ts (os1 ++ [y]) F1 := by rw [hw2]; exact hb.kept ((Kept.refl [] _).drewN n2) (by simp)
    have hk2 : Kept F w w2 := by rw [hw2]; exact hk1.drewN n2
    have hg2 : Grow F w F1 := hg1
    clear hw2 hb hk1 hg1
    have hown4 := hb2.2.2.1.1
    rw [hl1] at hown4
    obtain ⟨yfp, hya, hyk, hyf, hyt1, hyt2⟩ := hb2.2.2.1.2 y (by simp)
    have hyt : y.text = [] := hyt2 (hb2.2.2.2.2.2.1 y (by simp))
    obtain ⟨ns, hkr4, hns, hye, hyfp⟩ := hyk.open
    rw [hyfp] at hyf
    have hyg := (cellsOf_get (os1 ++ [y]) os1.length (by simp)).2.2.1
    have hyge : (os1 ++ [y])[os1.length]'(by simp) = y := by simp
    rw [hyge] at hyg
    have d0 := row_cell hown4 hyg
    have d1 := row_free hown4 (os1.length * 4 + 2)
    have hg4 : g < w2.heap.size := (hown4.lt g rfl).2
    have hnl : ns.length ≤ 1099511627776 := by
      have h1 := congrArg List.length HE.out
      have h2 := evsOf_le ns
      simp [outOf, hye] at h1
      omega
    have hoi : (os1.length : Int) < (os1.length : Int) + 1 := by omega
    clear hyg hyge hyt1 hyt2 hyfp hown4 hyk
    rcases List.eq_nil_or_concat ns with h0 | ⟨ns0, z, h0⟩
    · subst h0
      obtain ⟨ya, yc, hykv⟩ := ownsRow_form hkr4
      have HYKV : Hid (y.kv = .slice ya 0 yc) := hykv
      rw [hykv] at d0
      have hfar : ∀ k, (Value.slice ya 0 yc).ownBlock = some k → k ≠ g := by
        intro k hk e
        have := (hb2.far.2.2 y (by simp) k (by rw [hyf, hykv]; simp [hk])).2
        exact this (by rw [e]; rfl)
      have hownT : w2.ownsRow 0 42 4 (.slice ya 0 yc) 0 (cellsOf ([] : List NodeR)) := by rw [hykv] at hkr4; exact hkr4
      clear hykv hkr4
      have hnews := new_cells w2 [.string ⟨#[]⟩, .slice none 0 0, .slice none 0 0, .string ⟨#[]⟩] 42
      have hkz : Kept [] w2 (w2.alloc (.cells #[.string ⟨#[]⟩, .slice none 0 0, .slice none 0 0, .string ⟨#[]⟩] 42)) := (Kept.refl [] w2).alloc _
      have hownT2 := ownsRow_kept hownT hkz (by simp)
      have hfar' : ∀ w' : World, (w2.alloc (.cells #[.string ⟨#[]⟩, .slice none 0 0, .slice none 0 0, .string ⟨#[]⟩] 42)).drew.grownBy w' (Value.slice ya 0 yc).ownBlock → w'.cell? ⟨g, os1.length * 4 + 2, none⟩ = some (Value.slice ya 0 yc) ∧ w'.frozen? ⟨g, os1.length * 4 + 2, none⟩ = false := by
        intro w' hgr
        have hk5 := hkz.drew.mono (S' := (Value.slice ya 0 yc).ownBlock.toList) (by simp) |>.trans (Kept.own hgr)
        have hbov : g ∉ (Value.slice ya 0 yc).ownBlock.toList := fun hc => hfar g (by simpa using hc) rfl
        exact ⟨(hk5.cell (p := ⟨g, os1.length * 4 + 2, none⟩) hg4 hbov).trans d0, (hk5.frozen (p := ⟨g, os1.length * 4 + 2, none⟩) hg4 hbov).trans d1⟩
      have hgb' : ∀ g' cap' : Nat, Moved (w2.alloc (.cells #[.string ⟨#[]⟩, .slice none 0 0, .slice none 0 0, .string ⟨#[]⟩] 42)).drew (Value.slice ya 0 yc) (.slice (some ⟨g', 0, none⟩) (0 + 1) cap') → ¬ g' = g := by
        intro g' cap' hmv e
        rcases hmv with h1 | ⟨k, h1, h2⟩
        · exact hfar g (by show (Value.slice ya 0 yc).ownBlock = some g; rw [← h1, ← e]; rfl) rfl
        · have h3 := hkz.drew.size
          simp [Value.ownBlock] at h1
          omega
      clear hownT
      set_option maxRecDepth 100000 in
      go_wp2_with fail
      go_region_law (refine step_append_fp rfl (.tmp 40) (.tmp 44) 31 rfl 0 42 i0 _ 4 80 Tryz.underlying31 hi hz0 hz1 hz2 rfl (by decide) (Value.slice ya 0 yc) 0 (cellsOf ([] : List NodeR)) (by simp [Act.eval, Act.put]) (by exact hownT2) _ 1 1 [.string ⟨#[]⟩, .slice none 0 0, .slice none 0 0, .string ⟨#[]⟩] (by simp [Act.eval, Act.put]; rfl) rfl (by exact hnews) (by simp [Value.oneCell']) (by unfold maxLen; omega) (by omega) (Nat.zero_le _) ?_; intro v' w' hown' hgr' hmv'; obtain ⟨g', cap', rfl⟩ := form_pos hown'; obtain ⟨⟨s0, s1, s2, s3⟩, ⟨t0, t1, t2, t3⟩⟩ := new_row_cells (os := []) hown'; simp only [List.length_nil, Nat.zero_mul, Nat.zero_add] at s0 s1 s2 s3 t0 t1 t2 t3; obtain ⟨b0, b1⟩ := hfar' w' hgr'; have n1 := hgb' _ _ hmv'; have n2 : ¬ g = g' := fun e => n1 e.symm)
      all_goals
        go_wp2_with fail
        go_end0
        rw [HO1.out, HO2.out]
        have hfin := text_kid_fin (ns := []) hb2 hkz.drew hown' (by rw [HYKV.out]; exact hgr') (by rw [HYKV.out]; exact hmv') hya hyf hyt hns ht n1
        simp only [List.length_nil, Nat.zero_mul, Nat.zero_add] at hfin
        have hE2 : addText E1 t.data.toList = outOf ts (os1 ++ [y.withKids (.slice (some ⟨g', 0, none⟩) (0 + 1) cap') ([] ++ [NodeR.ofText t.data.toList])]) := by
          have e1 : outOf ts (os1 ++ [y]) = outOf ts os1 ++ [evOpen y.name y.al] := by simp [outOf, hye, evsOf]
          rw [HE.out, e1, addText_open]
          simp [outOf, evsOf, NodeR.evs, NodeR.ofText, NodeR.withKids]
        have hS2 : st1 = (os1 ++ [y.withKids (.slice (some ⟨g', 0, none⟩) (0 + 1) cap') ([] ++ [NodeR.ofText t.data.toList])]).map NodeR.name := by rw [HS.out]; simp [NodeR.withKids]
        refine ⟨rfl, BPost.trans2 hk2 hg2 ?_⟩
        first
          | (obtain ⟨F', hB', hK', hG'⟩ := hfin.1
             with_reducible exact BPost.ofAt hB' hE2 hS2 hK' hG')
          | (obtain ⟨F', hB', hK', hG'⟩ := hfin.2
             with_reducible exact BPost.ofAt hB' hE2 hS2 hK' hG')
    · have h0' : ns = ns0 ++ [z] := by simpa using h0
      subst h0'
      clear h0
      have hl2 : (ns0 ++ [z]).length = ns0.length + 1 := by simp
      rw [hl2] at hkr4
      obtain ⟨kg, kc, hykv⟩ := form_pos hkr4
      have HYKV : Hid (y.kv = .slice (some ⟨kg, 0, none⟩) (ns0.length + 1) kc) := hykv
      rw [hykv] at d0 hkr4
      have hfar : kg ≠ g := by
        intro e
        have := (hb2.far.2.2 y (by simp) kg (by rw [hyf, hykv]; simp [Value.ownBlock])).2
        exact this (by rw [e]; rfl)
      have hfar2 : ¬ g = kg := fun e => hfar e.symm
      have hzg := cellsOf_get (ns0 ++ [z]) ns0.length (by simp)
      have hzge : (ns0 ++ [z])[ns0.length]'(by simp) = z := by simp
      rw [hzge] at hzg
      have r0 := row_cell hkr4 hzg.1
      have r3 := row_cell hkr4 hzg.2.2.2
      have f3 := row_free hkr4 (ns0.length * 4 + 3)
      have hidx : (ns0.length : Int) < (ns0.length : Int) + 1 := by omega
      have hb0 : (0 : Int) ≤ (ns0.length : Int) := by omega
      have hbd : ns0.length ≤ 1099511627776 := by simp at hnl; omega
      have hev : outOf ts (os1 ++ [y]) = (outOf ts os1 ++ [evOpen y.name y.al] ++ evsOf ns0) ++ z.evs := by simp [outOf, hye, evsOf]
      have HEV : Hid _ := hev
      clear hzg hzge hykv hev
      by_cases hz : z.name = []
      · have hzb : (z.name == []) = true := by simpa using hz
        have hzev : z.evs = [evText z.text] := by simp [NodeR.evs, hz]
        have hzs : z.text.length + t.size ≤ 1099511627776 := by
          have h2 := hsz
          rw [HE.out, HEV.out, hzev, evSize_append] at h2
          simp [evSize] at h2
          omega
        have hfin := hb2.kidText hya HYKV.out hkr4 hns hyf hyt hz t.data.toList
        rw [← ba_append] at hfin
        rw [hz] at r0
        clear hsz hkr4
        set_option maxRecDepth 100000 in
        go_wp2_with fail
        refine bodyPost_ret (v := .tuple #[]) (by simp [results, Tryz.results78, go_sem]) rfl ?_
        rw [HO1.out, HO2.out]
        obtain ⟨F', hB', hK', hG'⟩ := hfin
        refine ⟨rfl, BPost.trans2 hk2 hg2 (BPost.ofAt hB' ?_ ?_ hK' hG')⟩
        · rw [HE.out, HEV.out, hzev, addText_text]
          simp [outOf, evsOf, NodeR.evs, NodeR.withText, NodeR.withKids, hz]
        · rw [HS.out]
          simp [NodeR.withKids]
      · have hzb : (z.name == []) = false := by simpa using hz
        have hnews := new_cells w2 [.string ⟨#[]⟩, .slice none 0 0, .slice none 0 0, .string ⟨#[]⟩] 42
        have hkz : Kept [] w2 (w2.alloc (.cells #[.string ⟨#[]⟩, .slice none 0 0, .slice none 0 0, .string ⟨#[]⟩] 42)) := (Kept.refl [] w2).alloc _
        have hownT2 := ownsRow_kept hkr4 hkz (by simp)
        have hfar' : ∀ w' : World, (w2.alloc (.cells #[.string ⟨#[]⟩, .slice none 0 0, .slice none 0 0, .string ⟨#[]⟩] 42)).drew.grownBy w' (Value.slice (some ⟨kg, 0, none⟩) (ns0.length + 1) kc).ownBlock → w'.cell? ⟨g, os1.length * 4 + 2, none⟩ = some (Value.slice (some ⟨kg, 0, none⟩) (ns0.length + 1) kc) ∧ w'.frozen? ⟨g, os1.length * 4 + 2, none⟩ = false := by
          intro w' hgr
          have hk5 := hkz.drew.mono (S' := (Value.slice (some ⟨kg, 0, none⟩) (ns0.length + 1) kc).ownBlock.toList) (by simp) |>.trans (Kept.own hgr)
          have hbov : g ∉ (Value.slice (some ⟨kg, 0, none⟩) (ns0.length + 1) kc).ownBlock.toList := by simp [Value.ownBlock]; exact fun e => hfar2 e
          exact ⟨(hk5.cell (p := ⟨g, os1.length * 4 + 2, none⟩) hg4 hbov).trans d0, (hk5.frozen (p := ⟨g, os1.length * 4 + 2, none⟩) hg4 hbov).trans d1⟩
        have hgb' : ∀ g' cap' : Nat, Moved (w2.alloc (.cells #[.string ⟨#[]⟩, .slice none 0 0, .slice none 0 0, .string ⟨#[]⟩] 42)).drew (Value.slice (some ⟨kg, 0, none⟩) (ns0.length + 1) kc) (.slice (some ⟨g', 0, none⟩) (ns0.length + 1 + 1) cap') → ¬ g' = g := by
          intro g' cap' hmv e
          rcases hmv with h1 | ⟨k, h1, h2⟩
          · simp [Value.ownBlock] at h1
            exact hfar (by rw [← h1, e])
          · have h3 := hkz.drew.size
            simp [Value.ownBlock] at h1
            omega
        have hrc : ∀ (w' : World) (g' cap' : Nat), w'.ownsRow 0 42 4 (.slice (some ⟨g', 0, none⟩) (ns0.length + 1 + 1) cap') (ns0.length + 1 + 1) (cellsOf (ns0 ++ [z]) ++ [.string ⟨#[]⟩, .slice none 0 0, .slice none 0 0, .string ⟨#[]⟩]) → (w'.cell? ⟨g', (ns0.length + 1) * 4, none⟩ = some (.string ⟨#[]⟩) ∧ w'.cell? ⟨g', (ns0.length + 1) * 4 + 1, none⟩ = some (.slice none 0 0) ∧ w'.cell? ⟨g', (ns0.length + 1) * 4 + 2, none⟩ = some (.slice none 0 0) ∧ w'.cell? ⟨g', (ns0.length + 1) * 4 + 3, none⟩ = some (.string ⟨#[]⟩)) ∧ (w'.frozen? ⟨g', (ns0.length + 1) * 4, none⟩ = false ∧ w'.frozen? ⟨g', (ns0.length + 1) * 4 + 1, none⟩ = false ∧ w'.frozen? ⟨g', (ns0.length + 1) * 4 + 2, none⟩ = false ∧ w'.frozen? ⟨g', (ns0.length + 1) * 4 + 3, none⟩ = false) := by
          intro w' g' cap' ho
          have hl : (ns0 ++ [z]).length = ns0.length + 1 := by simp
          have := new_row_cells (os := ns0 ++ [z]) (w := w') (g := g') (cap := cap') (by rw [hl]; exact ho)
          rw [hl] at this
          exact this
        have hidx3 : (ns0.length : Int) + 1 < (ns0.length : Int) + 1 + 1 := by omega
        have hidx4 : (0 : Int) ≤ (ns0.length : Int) + 1 := by omega
        have hE2 : Hid (∀ kv, addText E1 t.data.toList = outOf ts (os1 ++ [y.withKids kv ((ns0 ++ [z]) ++ [NodeR.ofText t.data.toList])])) := by
          intro kv
          have hzev : z.evs = (evOpen z.name z.al :: z.ev) ++ [none] := by simp [NodeR.evs, hz]
          rw [HE.out, HEV.out, hzev, ← List.append_assoc, addText_close]
          simp [outOf, evsOf, NodeR.withKids, NodeR.ofText, NodeR.evs, hz]
        have hS2 : Hid (∀ kv, st1 = (os1 ++ [y.withKids kv ((ns0 ++ [z]) ++ [NodeR.ofText t.data.toList])]).map NodeR.name) := by
          intro kv
          rw [HS.out]
          simp [NodeR.withKids]
        clear hkr4
        set_option maxRecDepth 100000 in
        go_wp2_with fail
        go_region_law (refine step_append_fp rfl (.tmp 40) (.tmp 44) 31 rfl 0 42 i0 _ 4 80 Tryz.underlying31 hi hz0 hz1 hz2 rfl (by decide) (Value.slice (some ⟨kg, 0, none⟩) (ns0.length + 1) kc) (ns0.length + 1) (cellsOf (ns0 ++ [z])) (by simp [Act.eval, Act.put]) (by exact hownT2) _ 1 1 [.string ⟨#[]⟩, .slice none 0 0, .slice none 0 0, .string ⟨#[]⟩] (by simp [Act.eval, Act.put]; rfl) rfl (by exact hnews) (by simp [Value.oneCell']) (by unfold maxLen; omega) (by omega) (Nat.zero_le _) ?_; intro v' w' hown' hgr' hmv'; obtain ⟨g', cap', rfl⟩ := form_pos hown'; obtain ⟨⟨s0, s1, s2, s3⟩, ⟨t0, t1, t2, t3⟩⟩ := hrc w' g' cap' hown'; obtain ⟨b0, b1⟩ := hfar' w' hgr'; have n1 := hgb' _ _ hmv'; have n2 : ¬ g = g' := fun e => n1 e.symm)
        all_goals
          go_wp2_with fail
          go_end0
          rw [HO1.out, HO2.out]
          have hl : (ns0 ++ [z]).length = ns0.length + 1 := by simp
          have hfin := text_kid_fin (ns := ns0 ++ [z]) (w' := w') (g' := g') (cap' := cap') hb2 hkz.drew (by rw [hl]; exact hown') (by rw [HYKV.out]; exact hgr') (by rw [hl, HYKV.out]; exact hmv') hya hyf hyt hns ht n1
          rw [hl] at hfin
          refine ⟨rfl, BPost.trans2 hk2 hg2 ?_⟩
          first
            | (obtain ⟨F', hB', hK', hG'⟩ := hfin.1
               with_reducible exact BPost.ofAt hB' (hE2.out _) (hS2.out _) hK' hG')
            | (obtain ⟨F', hB', hK', hG'⟩ := hfin.2
               with_reducible exact BPost.ofAt hB' (hE2.out _) (hS2.out _) hK' hG')
end Go.Proofs.YtlpmjpmefdpcmaaGreatDoor
