import Derived.Test.YtlpmjpmefdpcmaaGreatDoorQText0
namespace Go.Proofs.YtlpmjpmefdpcmaaGreatDoor
open Go.RowKit Scrub Go.Shelf
set_option maxHeartbeats 1000000 in
theorem push_full (bb : Nat) (F : List Nat) (E : List Ev) (st : List (List UInt8)) (x0 x1 x2 x3 : Value) (w : World) (h : Bld w bb F E st) (hst : 12 ≤ st.length) :
    Calls Tryz.prog 188 #[.pointer (some ⟨bb, 0, none⟩), .agg #[x0, x1, x2, x3]] w
      fun e w' => e = .returned (.bool false) ∧ Kept [] w w' := by
  obtain ⟨tv, ov, ts, os, hb, hE, hS⟩ := h
  have hol : 12 ≤ os.length := by rw [hS] at hst; simpa using hst
  clear hE hS hst
  obtain ⟨c0, c1, c2, c3⟩ := hb.cells
  obtain ⟨oa, oc, rfl⟩ := ownsRow_form hb.2.2.1.1
  have hbbl : bb < w.heap.size := hb.2.2.2.2.2.2 bb ((hb.mem bb).2 (.inl rfl))
  have hge : ((12 : Int) ≤ (os.length : Int)) = True := by simp; omega
  clear hb
  go_enter Tryz.func188, Tryz.ntmps188
  go_wp2_with fail
  go_ret
  exact ⟨rfl, (Kept.refl _ _).alloc _⟩
set_option maxHeartbeats 8000000 in
theorem closeFrom_any (bb p : Nat) (F : List Nat) (E : List Ev) (st : List (List UInt8)) (w : World) (h : Bld w bb F E st) (hp : p ≤ st.length) (hst : st.length ≤ 12) (hEl : E.length ≤ 1099511627776) :
    Calls Tryz.prog 81 #[.pointer (some ⟨bb, 0, none⟩), .int .i64 (p : Int)] w
      fun e w' => e = .returned (.tuple #[]) ∧ ∃ F', Bld w' bb F' (E ++ List.replicate (st.length - p) none) (st.take p) ∧ Kept F w w' ∧ Grow F w F' := by
  obtain ⟨i0, hi, hz0, hz1, hz2⟩ := info_parts infoNode
  go_enter Tryz.func81, Tryz.ntmps81
  go_wp2_with fail
  go_loopg [] st.length (fun g wr => p ≤ g ∧ CloseAt bb F E st w g wr)
  case atStart => exact ⟨hp, F, Nat.le_refl _, by simpa using h, Kept.refl _ _, Grow.refl _ _⟩
  case round =>
    obtain ⟨hpg, F1, hg, hbld, hkept, hgrow⟩ := hrel
    obtain ⟨tv, ov, ts, os, hb, hE, hS⟩ := hbld
    have hol : os.length = gk := by
      have := congrArg List.length hS
      simp at this
      omega
    subst hol
    have HE : Hid (E ++ List.replicate (st.length - os.length) none = outOf ts os) := hE
    have htl : ts.length ≤ E.length + 12 := by
      have h1 := congrArg List.length hE
      have h2 := evsOf_le ts
      simp [outOf] at h1
      omega
    have HS : Hid (st.take os.length = os.map NodeR.name) := hS
    clear hE hS
    obtain ⟨c0, c1, c2, c3⟩ := hb.cells
    by_cases hlt : p < os.length
    · obtain ⟨os0, x, rfl⟩ : ∃ os0 x, os = os0 ++ [x] := by
        rcases List.eq_nil_or_concat os with h0 | ⟨l, b, h0⟩
        · subst h0; simp at hlt
        · exact ⟨l, b, by simpa using h0⟩
      have hown := hb.2.2.1.1
      have hlen : (os0 ++ [x]).length = os0.length + 1 := by simp
      rw [hlen] at hown
      obtain ⟨g, cap, rfl⟩ := form_pos hown
      have hgt : (p : Int) < (os0.length : Int) + 1 := by simp at hlt; omega
      have hol12 : os0.length < 12 := by simp at hg; omega
      have hxg := cellsOf_get (os0 ++ [x]) os0.length (by simp)
      have hxe : (os0 ++ [x])[os0.length]'(by simp) = x := by simp
      rw [hxe] at hxg
      obtain ⟨x0, x1, x2, x3⟩ := hxg
      have r0 := row_cell hown x0
      have r1 := row_cell hown x1
      have r2 := row_cell hown x2
      have r3 := row_cell hown x3
      clear x0 x1 x2 x3 hxe
      have hxok := hb.2.2.1.2 x (by simp)
      obtain ⟨kfp, hxa, ⟨dk, hxk⟩, hj1, hj2, hj3⟩ := hxok
      clear hj1 hj2 hj3
      obtain ⟨xa, xc, hxav⟩ := ownsRow_form hxa
      obtain ⟨kns, hkr, _⟩ := Tree.open ⟨dk, hxk⟩
      obtain ⟨ka, kc, hxkv⟩ := ownsRow_form hkr
      have HAV : Hid (x.av = .slice xa x.al.length xc) := hxav
      have HKV : Hid (x.kv = .slice ka kns.length kc) := hxkv
      rw [hxav] at r1
      rw [hxkv] at r2
      clear hxav hxkv hxa hxk hkr
      have hbbl : bb < wr.heap.size := hb.2.2.2.2.2.2 bb ((hb.mem bb).2 (.inl rfl))
      have hgl : g < wr.heap.size := (hown.lt g rfl).2
      have hgne : ¬ g = wr.heap.size := by omega
      have hbne : ¬ bb = wr.heap.size := by omega
      have hcap : (os0.length : Int) ≤ (cap : Int) := by have := own_cap hown; omega
      have hidx : (os0.length : Int) < (os0.length : Int) + 1 := by omega
      go_wp2_with fail
      go_region
      go_wp2_with fail
      go_region
      go_wp2_with fail
      have hb' : BAt wr bb tv (.slice (some ⟨g, 0, none⟩) (os0.length + 1) cap) ts (os0 ++ [x]) F1 := hb
      obtain ⟨⟨F2, hb2, hF2, hxF2⟩, hxok2, hxd, hxn, hk2⟩ := hb'.pop
      have hkW : Kept [] (wr.setCell ⟨bb, 1, none⟩ (.slice (some ⟨g, 0, none⟩) os0.length cap)) (((wr.setCell ⟨bb, 1, none⟩ (.slice (some ⟨g, 0, none⟩) os0.length cap)).alloc (.cells #[.string ⟨x.name.toArray⟩, .slice xa x.al.length xc, .slice ka kns.length kc, .string ⟨x.text.toArray⟩] 42)).drew.drew) := (((Kept.refl [] _).alloc _).drew).drew
      have hz2 : (wr.setCell ⟨bb, 1, none⟩ (.slice (some ⟨g, 0, none⟩) os0.length cap)).heap.size = wr.heap.size := by simp [World.setCell]
      have hb3 := hb2.kept hkW (by simp)
      have hxlt : ∀ k, k ∈ x.fp → k < (wr.setCell ⟨bb, 1, none⟩ (.slice (some ⟨g, 0, none⟩) os0.length cap)).heap.size := fun k hk => by
        have := hb.2.2.2.2.2.2 k (hxF2 k hk).2
        rw [hz2]; exact this
      have hxok3 : NodeOk Tree (((wr.setCell ⟨bb, 1, none⟩ (.slice (some ⟨g, 0, none⟩) os0.length cap)).alloc (.cells #[.string ⟨x.name.toArray⟩, .slice xa x.al.length xc, .slice ka kns.length kc, .string ⟨x.text.toArray⟩] 42)).drew.drew) x := hxok2.keep (fun k hk => hkW.block k (hxlt k hk) (by simp))
      have hnb3 : (((wr.setCell ⟨bb, 1, none⟩ (.slice (some ⟨g, 0, none⟩) os0.length cap)).alloc (.cells #[.string ⟨x.name.toArray⟩, .slice xa x.al.length xc, .slice ka kns.length kc, .string ⟨x.text.toArray⟩] 42)).drew.drew).heap[wr.heap.size]? = some (.cells #[.string ⟨x.name.toArray⟩, .slice xa x.al.length xc, .slice ka kns.length kc, .string ⟨x.text.toArray⟩] 42 (0, 0)) := by
        have := heap_alloc_new (wr.setCell ⟨bb, 1, none⟩ (.slice (some ⟨g, 0, none⟩) os0.length cap)) (.cells #[.string ⟨x.name.toArray⟩, .slice xa x.al.length xc, .slice ka kns.length kc, .string ⟨x.text.toArray⟩] 42)
        rw [hz2] at this
        exact this
      have hk3 : Kept F1 wr (((wr.setCell ⟨bb, 1, none⟩ (.slice (some ⟨g, 0, none⟩) os0.length cap)).alloc (.cells #[.string ⟨x.name.toArray⟩, .slice xa x.al.length xc, .slice ka kns.length kc, .string ⟨x.text.toArray⟩] 42)).drew.drew) := hk2.trans (hkW.mono (by simp))
      generalize hW2 : (((wr.setCell ⟨bb, 1, none⟩ (.slice (some ⟨g, 0, none⟩) os0.length cap)).alloc (.cells #[.string ⟨x.name.toArray⟩, .slice xa x.al.length xc, .slice ka kns.length kc, .string ⟨x.text.toArray⟩] 42)).drew.drew) = W2 at *
      clear hW2 hkW hb2 hxok2 hk2 hz2
      rcases List.eq_nil_or_concat os0 with h0 | ⟨os1, y, h0⟩
      · subst h0
        refine (list_top bb tv _ ts F2 W2 hb3).mono ?_
        rintro e w3 ⟨rfl, n3, hw3⟩
        have hb4 : BAt w3 bb tv (.slice (some ⟨g, 0, none⟩) 0 cap) ts [] F2 := by rw [hw3]; exact hb3.kept ((Kept.refl [] _).drewN n3) (by simp)
        have hxok4 : NodeOk Tree w3 x := by rw [hw3]; exact hxok3.keep (fun k _ => rfl)
        have hnb4 : w3.heap[wr.heap.size]? = some (.cells #[.string ⟨x.name.toArray⟩, .slice xa x.al.length xc, .slice ka kns.length kc, .string ⟨x.text.toArray⟩] 42 (0, 0)) := by rw [hw3]; exact hnb3
        have hk4 : Kept F1 wr w3 := by rw [hw3]; exact hk3.drewN n3
        clear hw3 hb3 hxok3 hnb3 hk3
        have hnew : ∀ k, wr.heap.size ≤ k → k ∉ F2 := fun k hk hc => by have := hb.2.2.2.2.2.2 k (hF2 k hc); omega
        obtain ⟨⟨q0, q1, q2, q3⟩, ⟨f0, f1, f2, f3⟩⟩ := cells4 hnb4
        obtain ⟨d0, d1, d2, d3⟩ := hb4.cells
        have hownT := hb4.2.1.1
        obtain ⟨ta, tc, rfl⟩ := ownsRow_form hownT
        have hbb4 : bb < w3.heap.size := hb4.2.2.2.2.2.2 bb ((hb4.mem bb).2 (.inl rfl))
        have hnb5 : wr.heap.size < w3.heap.size := (Array.getElem?_eq_some_iff.1 hnb4).1
        clear c0 c1 c2 c3 r0 r1 r2 r3
        have hnews := new_cells w3 [.string ⟨#[]⟩, .slice none 0 0, .slice none 0 0, .string ⟨#[]⟩] 42
        have hkz : Kept [] w3 (w3.alloc (.cells #[.string ⟨#[]⟩, .slice none 0 0, .slice none 0 0, .string ⟨#[]⟩] 42)) := (Kept.refl [] w3).alloc _
        have hownT2 := ownsRow_kept hownT hkz (by simp)
        have hfar := hb4.far.1
        have hfar' : ∀ w' : World, (w3.alloc (.cells #[.string ⟨#[]⟩, .slice none 0 0, .slice none 0 0, .string ⟨#[]⟩] 42)).drew.grownBy w' (Value.slice ta ts.length tc).ownBlock → (w'.cell? ⟨bb, 0, none⟩ = some (.slice ta ts.length tc) ∧ w'.frozen? ⟨bb, 0, none⟩ = false) ∧ w'.heap[wr.heap.size]? = some (.cells #[.string ⟨x.name.toArray⟩, .slice xa x.al.length xc, .slice ka kns.length kc, .string ⟨x.text.toArray⟩] 42 (0, 0)) := by
          intro w' hgr
          have hk5 := hkz.drew.mono (S' := (Value.slice ta ts.length tc).ownBlock.toList) (by simp) |>.trans (Kept.own hgr)
          have hbov : bb ∉ (Value.slice ta ts.length tc).ownBlock.toList := fun hc => hfar bb (by simpa using hc) rfl
          refine ⟨⟨(hk5.cell (p := ⟨bb, 0, none⟩) hbb4 hbov).trans d0, (hk5.frozen (p := ⟨bb, 0, none⟩) hbb4 hbov).trans d2⟩, ?_⟩
          refine (hk5.block _ hnb5 ?_).trans hnb4
          intro hc
          have h1 : (Value.slice ta ts.length tc).ownBlock = some wr.heap.size := by simpa using hc
          exact hnew wr.heap.size (Nat.le_refl _) ((hb4.mem _).2 (.inr (.inl (by rw [h1]; simp))))
        have hgb' : ∀ g' cap' : Nat, Moved (w3.alloc (.cells #[.string ⟨#[]⟩, .slice none 0 0, .slice none 0 0, .string ⟨#[]⟩] 42)).drew (Value.slice ta ts.length tc) (.slice (some ⟨g', 0, none⟩) (ts.length + 1) cap') → ¬ g' = bb := by
          intro g' cap' hmv e
          rcases hmv with h1 | ⟨k, h1, h2⟩
          · exact hfar bb (by rw [← h1, ← e]; rfl) rfl
          · have h3 := hkz.drew.size
            simp [Value.ownBlock] at h1
            omega
        have hxf4 : ∀ k, k ∈ x.fp → k ∉ F2 ∧ k < w3.heap.size := fun k hk => ⟨(hxF2 k hk).1, by have := hb.2.2.2.2.2.2 k (hxF2 k hk).2; have := hk4.size; omega⟩
        have hg0 : 0 + 1 ≤ st.length := by simpa using hg
        have HE0 : Hid (E ++ List.replicate (st.length - (0 + 1)) none = outOf ts [x]) := HE.out
        have hidx2 : (ts.length : Int) < (ts.length : Int) + 1 := by omega
        clear hnb4
        go_wp2_with fail
        go_region_law (refine step_append_fp rfl (.tmp 43) (.tmp 46) 31 rfl 0 42 i0 _ 4 80 Tryz.underlying31 hi hz0 hz1 hz2 rfl (by decide) (.slice ta ts.length tc) ts.length (cellsOf ts) (by simp [Act.eval, Act.put]) (by exact hownT2) _ 1 1 [.string ⟨#[]⟩, .slice none 0 0, .slice none 0 0, .string ⟨#[]⟩] (by simp [Act.eval, Act.put]; rfl) rfl (by exact hnews) (by simp [Value.oneCell']) (by unfold maxLen; omega) (by omega) (Nat.zero_le _) ?_; intro v' w' hown' hgr' hmv'; obtain ⟨g', cap', rfl⟩ := form_pos hown'; obtain ⟨⟨s0, s1, s2, s3⟩, ⟨t0, t1, t2, t3⟩⟩ := new_row_cells hown'; obtain ⟨⟨b0, b1⟩, b2⟩ := hfar' w' hgr'; obtain ⟨⟨q0', q1', q2', q3'⟩, _⟩ := cells4 b2; have n1 := hgb' _ _ hmv'; have n2 : ¬ bb = g' := fun e => n1 e.symm)
        all_goals
          go_wp2_with fail
          go_roundg 0
          case measure => simp
          case rel =>
            have hfin := close_top_fin hb4 hkz.drew hown' hgr' hmv' hxok4 hxf4 hxd HAV.out HKV.out n1
            refine ⟨by simp at hlt; omega, ?_⟩
            first
              | (obtain ⟨F', hB', hK', hG'⟩ := hfin.1
                 with_reducible exact closeAt_step (n := 0) hg0 HE0.out hB' (out_top ts x hxn) rfl (steps_kept hkept hk4 hK' hF2 hgrow) (steps_grow hkept.size hk4.size hG' hF2 (fun k hk => (hxF2 k hk).2) hgrow))
              | (obtain ⟨F', hB', hK', hG'⟩ := hfin.2
                 with_reducible exact closeAt_step (n := 0) hg0 HE0.out hB' (out_top ts x hxn) rfl (steps_kept hkept hk4 hK' hF2 hgrow) (steps_grow hkept.size hk4.size hG' hF2 (fun k hk => (hxF2 k hk).2) hgrow))
      · have h0' : os0 = os1 ++ [y] := by simpa using h0
        subst h0'
        clear h0
        have hl1 : (os1 ++ [y]).length = os1.length + 1 := by simp
        rw [hl1] at hb3
        rw [hl1]
        rw [hl1] at hol12
        refine (list_kid bb g cap tv ts os1 y F2 W2 hb3 (by omega)).mono ?_
        rintro e w3 ⟨rfl, n3, hw3⟩
        have hb4 : BAt w3 bb tv (.slice (some ⟨g, 0, none⟩) (os1.length + 1) cap) ts (os1 ++ [y]) F2 := by rw [hw3]; exact hb3.kept ((Kept.refl [] _).drewN n3) (by simp)
        have hxok4 : NodeOk Tree w3 x := by rw [hw3]; exact hxok3.keep (fun k _ => rfl)
        have hnb4 : w3.heap[wr.heap.size]? = some (.cells #[.string ⟨x.name.toArray⟩, .slice xa x.al.length xc, .slice ka kns.length kc, .string ⟨x.text.toArray⟩] 42 (0, 0)) := by rw [hw3]; exact hnb3
        have hk4 : Kept F1 wr w3 := by rw [hw3]; exact hk3.drewN n3
        have hnew : ∀ k, wr.heap.size ≤ k → k ∉ F2 := fun k hk hc => by have := hb.2.2.2.2.2.2 k (hF2 k hc); omega
        clear hw3 hb3 hxok3 hnb3 hk3
        obtain ⟨⟨q0, q1, q2, q3⟩, ⟨f0, f1, f2, f3⟩⟩ := cells4 hnb4
        have hown4 := hb4.2.2.1.1
        rw [hl1] at hown4
        obtain ⟨yfp, hya, hyk, hyf, hyt1, hyt2⟩ := hb4.2.2.1.2 y (by simp)
        have hyt : y.text = [] := hyt2 (hb4.2.2.2.2.2.1 y (by simp))
        obtain ⟨ns, hkr4, hns, hye, hyfp⟩ := hyk.open
        rw [hyfp] at hyf
        obtain ⟨ya, yc, hykv⟩ := ownsRow_form hkr4
        have hyg := (cellsOf_get (os1 ++ [y]) os1.length (by simp)).2.2.1
        have hyge : (os1 ++ [y])[os1.length]'(by simp) = y := by simp
        rw [hyge] at hyg
        have d0 := row_cell hown4 hyg
        have d1 := row_free hown4 (os1.length * 4 + 2)
        rw [hykv] at d0
        have HYKV : Hid (y.kv = .slice ya ns.length yc) := hykv
        have hg4 : g < w3.heap.size := (hown4.lt g rfl).2
        have hnb5 : wr.heap.size < w3.heap.size := (Array.getElem?_eq_some_iff.1 hnb4).1
        have hnl : ns.length ≤ 1099511627776 + 12 := by
          have h1 := congrArg List.length HE.out
          have h2 := evsOf_le ns
          simp [outOf, hye] at h1
          omega
        have hfar : ∀ k, (Value.slice ya ns.length yc).ownBlock = some k → k ≠ g := by
          intro k hk e
          have := (hb4.far.2.2 y (by simp) k (by rw [hyf, hykv, hk]; simp)).2
          exact this (by rw [e]; rfl)
        clear c0 c1 c2 c3 r0 r1 r2 r3 hykv hyg hyge hyt1 hyt2 hyfp
        have hownT : w3.ownsRow 0 42 4 (.slice ya ns.length yc) ns.length (cellsOf ns) := by rw [← HYKV.out]; exact hkr4
        have hnews := new_cells w3 [.string ⟨#[]⟩, .slice none 0 0, .slice none 0 0, .string ⟨#[]⟩] 42
        have hkz : Kept [] w3 (w3.alloc (.cells #[.string ⟨#[]⟩, .slice none 0 0, .slice none 0 0, .string ⟨#[]⟩] 42)) := (Kept.refl [] w3).alloc _
        have hownT2 := ownsRow_kept hownT hkz (by simp)
        have hfar' : ∀ w' : World, (w3.alloc (.cells #[.string ⟨#[]⟩, .slice none 0 0, .slice none 0 0, .string ⟨#[]⟩] 42)).drew.grownBy w' (Value.slice ya ns.length yc).ownBlock → (w'.cell? ⟨g, os1.length * 4 + 2, none⟩ = some (.slice ya ns.length yc) ∧ w'.frozen? ⟨g, os1.length * 4 + 2, none⟩ = false) ∧ w'.heap[wr.heap.size]? = some (.cells #[.string ⟨x.name.toArray⟩, .slice xa x.al.length xc, .slice ka kns.length kc, .string ⟨x.text.toArray⟩] 42 (0, 0)) := by
          intro w' hgr
          have hk5 := hkz.drew.mono (S' := (Value.slice ya ns.length yc).ownBlock.toList) (by simp) |>.trans (Kept.own hgr)
          have hbov : g ∉ (Value.slice ya ns.length yc).ownBlock.toList := fun hc => hfar g (by simpa using hc) rfl
          refine ⟨⟨(hk5.cell (p := ⟨g, os1.length * 4 + 2, none⟩) hg4 hbov).trans d0, (hk5.frozen (p := ⟨g, os1.length * 4 + 2, none⟩) hg4 hbov).trans d1⟩, ?_⟩
          refine (hk5.block _ hnb5 ?_).trans hnb4
          intro hc
          have h1 : (Value.slice ya ns.length yc).ownBlock = some wr.heap.size := by simpa using hc
          refine hnew wr.heap.size (Nat.le_refl _) ((hb4.mem _).2 (.inr (.inr (.inr (.inr (mem_fpOf (n := y) (by simp) ?_))))))
          rw [hyf, HYKV.out, h1]
          simp
        have hgb' : ∀ g' cap' : Nat, Moved (w3.alloc (.cells #[.string ⟨#[]⟩, .slice none 0 0, .slice none 0 0, .string ⟨#[]⟩] 42)).drew (Value.slice ya ns.length yc) (.slice (some ⟨g', 0, none⟩) (ns.length + 1) cap') → ¬ g' = g := by
          intro g' cap' hmv e
          rcases hmv with h1 | ⟨k, h1, h2⟩
          · exact hfar g (by rw [← h1, ← e]; rfl) rfl
          · have h3 := hkz.drew.size
            simp [Value.ownBlock] at h1
            omega
        have hxf4 : ∀ k, k ∈ x.fp → k ∉ F2 ∧ k < w3.heap.size := fun k hk => ⟨(hxF2 k hk).1, by have := hb.2.2.2.2.2.2 k (hxF2 k hk).2; have := hk4.size; omega⟩
        have hgn : (os1.length + 1) + 1 ≤ st.length := by simpa using hg
        have HEn : Hid (E ++ List.replicate (st.length - ((os1.length + 1) + 1)) none = outOf ts (os1 ++ [y] ++ [x])) := by
          have := HE.out
          simp only [List.length_append, List.length_cons, List.length_nil] at this
          exact this
        have HSn : Hid (∀ kv ns', st.take (os1.length + 1) = (os1 ++ [y.withKids kv ns']).map NodeR.name) := by
          intro kv ns'
          have h1 := congrArg (List.take (os1.length + 1)) HS.out
          rw [List.take_take] at h1
          have e1 : min (os1.length + 1) (os1 ++ [y] ++ [x]).length = os1.length + 1 := by simp
          rw [e1] at h1
          rw [h1]
          simp [NodeR.withKids, List.take_append]
          exact List.take_of_length_le (by simp)
        have hidx2 : (ns.length : Int) < (ns.length : Int) + 1 := by omega
        clear hnb4
        go_wp2_with fail
        go_region_law (refine step_append_fp rfl (.tmp 43) (.tmp 46) 31 rfl 0 42 i0 _ 4 80 Tryz.underlying31 hi hz0 hz1 hz2 rfl (by decide) (.slice ya ns.length yc) ns.length (cellsOf ns) (by simp [Act.eval, Act.put]) (by exact hownT2) _ 1 1 [.string ⟨#[]⟩, .slice none 0 0, .slice none 0 0, .string ⟨#[]⟩] (by simp [Act.eval, Act.put]; rfl) rfl (by exact hnews) (by simp [Value.oneCell']) (by unfold maxLen; omega) (by omega) (Nat.zero_le _) ?_; intro v' w' hown' hgr' hmv'; obtain ⟨g', cap', rfl⟩ := form_pos hown'; obtain ⟨⟨s0, s1, s2, s3⟩, ⟨t0, t1, t2, t3⟩⟩ := new_row_cells hown'; obtain ⟨⟨b0, b1⟩, b2⟩ := hfar' w' hgr'; obtain ⟨⟨q0', q1', q2', q3'⟩, _⟩ := cells4 b2; have n1 := hgb' _ _ hmv'; have n2 : ¬ g = g' := fun e => n1 e.symm)
        all_goals
          go_wp2_with fail
          go_roundg (os1.length + 1)
          case measure => simp
          case rel =>
            have hfin := close_kid_fin hb4 hkz.drew hown' (by rw [HYKV.out]; exact hgr') (by rw [HYKV.out]; exact hmv') hya hyf hyt hns hxok4 hxf4 hxd HAV.out HKV.out n1
            refine ⟨by simp at hlt; omega, ?_⟩
            first
              | (obtain ⟨F', hB', hK', hG'⟩ := hfin.1
                 with_reducible exact closeAt_step (n := os1.length + 1) hgn HEn.out hB' (out_kid ts os1 ns y x _ hxn hye) (HSn.out _ _) (steps_kept hkept hk4 hK' hF2 hgrow) (steps_grow hkept.size hk4.size hG' hF2 (fun k hk => (hxF2 k hk).2) hgrow))
              | (obtain ⟨F', hB', hK', hG'⟩ := hfin.2
                 with_reducible exact closeAt_step (n := os1.length + 1) hgn HEn.out hB' (out_kid ts os1 ns y x _ hxn hye) (HSn.out _ _) (steps_kept hkept hk4 hK' hF2 hgrow) (steps_grow hkept.size hk4.size hG' hF2 (fun k hk => (hxF2 k hk).2) hgrow))
    · have hpe : p = os.length := by omega
      obtain ⟨oa, oc, rfl⟩ := ownsRow_form hb.2.2.1.1
      have hge : ((p : Int) < (os.length : Int)) = False := by simp; omega
      go_wp2_with fail
      go_end0
      refine ⟨rfl, F1, ⟨tv, _, ts, os, hb, ?_, ?_⟩, hkept, hgrow⟩
      · rw [hpe]; exact HE.out
      · rw [hpe]; exact HS.out
end Go.Proofs.YtlpmjpmefdpcmaaGreatDoor
