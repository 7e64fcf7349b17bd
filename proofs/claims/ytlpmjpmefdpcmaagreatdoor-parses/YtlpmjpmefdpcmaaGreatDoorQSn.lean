import Derived.Test.YtlpmjpmefdpcmaaGreatDoorQSk
import Derived.Test.YtlpmjpmefdpcmaaGreatDoorQTree8
/- The reference's builder: a node goes into the innermost: the walk. -/
namespace Go.Proofs.YtlpmjpmefdpcmaaGreatDoor
open Go.RowKit Scrub Go.Shelf
def RPost (bb : Nat) (F X : List Nat) (E : List Ev) (st : List (List UInt8)) (w w' : World) : Prop := ∃ F', RBld w' bb F' E st ∧ Kept F w w' ∧ Grow (F ++ X) w F'
set_option maxRecDepth 100000 in
set_option maxHeartbeats 8000000 in
theorem rPut (bb : Nat) (F : List Nat) (E : List Ev) (st : List (List UInt8)) (x : NodeR) (xa ka : Option Addr) (xn xc kn kc : Nat) (w : World) (h : RBld w bb F E st) (hx : NodeOk Tree w x) (hxa : x.av = .slice xa xn xc) (hxk : x.kv = .slice ka kn kc) (hxf : ∀ k, k ∈ x.fp → k ∉ F ∧ k < w.heap.size) (hxd : x.fp.Nodup) (hst : st.length ≤ 12) (hEl : E.length ≤ 1099511627000) (hsz : evSize E + x.text.length ≤ 1099511627000) :
    Calls Tryz.prog 89 #[.pointer (some ⟨bb, 0, none⟩), .agg #[.string ⟨x.name.toArray⟩, .slice xa xn xc, .slice ka kn kc, .string ⟨x.text.toArray⟩]] w
      fun e w' => e = .returned (.tuple #[]) ∧ RPost bb F x.fp (putE E x) st w w' := by
  obtain ⟨i0, hi, hz0, hz1, hz2⟩ := info_parts infoNode
  have hkx := (Kept.refl [] w).alloc (.cells #[.string ⟨x.name.toArray⟩, .slice xa xn xc, .slice ka kn kc, .string ⟨x.text.toArray⟩] 42)
  have hnx : Four (w.alloc (.cells #[.string ⟨x.name.toArray⟩, .slice xa xn xc, .slice ka kn kc, .string ⟨x.text.toArray⟩] 42)) w.heap.size 42 (.string ⟨x.name.toArray⟩) (.slice xa xn xc) (.slice ka kn kc) (.string ⟨x.text.toArray⟩) := heap_alloc_new w _
  have h1 := h.kept hkx (by simp)
  have hx1 : NodeOk Tree (w.alloc (.cells #[.string ⟨x.name.toArray⟩, .slice xa xn xc, .slice ka kn kc, .string ⟨x.text.toArray⟩] 42)) x := hx.keep (fun k hk => hkx.block k (hxf k hk).2 (by simp))
  have hxF : w.heap.size ∉ F := fun hc => by
    obtain ⟨ov, n0, os, hb, _⟩ := h
    have := hb.2.2.2.2 _ hc
    omega
  have hxf1 : ∀ k, k ∈ x.fp → k ∉ F ∧ k < (w.alloc (.cells #[.string ⟨x.name.toArray⟩, .slice xa xn xc, .slice ka kn kc, .string ⟨x.text.toArray⟩] 42)).heap.size := fun k hk => ⟨(hxf k hk).1, by have h1 := (hxf k hk).2; have h2 := hkx.size; omega⟩
  go_enter Tryz.func89, Tryz.ntmps89
  go_upto_region 1 with fail
  have HGOAL : Hid (∀ w', RPost bb F x.fp (putE E x) st (w.alloc (.cells #[.string ⟨x.name.toArray⟩, .slice xa xn xc, .slice ka kn kc, .string ⟨x.text.toArray⟩] 42)) w' → RPost bb F x.fp (putE E x) st w w') := fun w' ⟨F', a, b, c⟩ => ⟨F', a, (hkx.mono (by simp)).trans b, fun k hk => by
    rcases c k hk with h1 | h1
    · exact .inl h1
    · exact .inr (by have := hkx.size; omega)⟩
  generalize w.alloc (.cells #[.string ⟨x.name.toArray⟩, .slice xa xn xc, .slice ka kn kc, .string ⟨x.text.toArray⟩] 42) = w1 at *
  generalize w.heap.size = xb at *
  clear h hx hxf hkx
  obtain ⟨L, y, ns, g, cap, ya, yc, hb, hLl, hykv, hya, hyt, hkr, hns, hyfp, hnl, pre, hE, hpre, hmk⟩ := h1.inner
  have HE : Hid _ := hE
  have HPRE : Hid _ := hpre
  have HMK : Hid _ := hmk
  have HXA : Hid _ := hxa
  have HXK : Hid _ := hxk
  have HYKV : Hid _ := hykv
  clear hmk hpre h1
  have hown := hb.2.1.1
  have hlen : (L ++ [y]).length = L.length + 1 := by simp
  rw [hlen] at hown
  have hyg := (cellsOf_get (L ++ [y]) L.length (by simp)).2.2.1
  have hyge : (L ++ [y])[L.length]'(by simp) = y := by simp
  rw [hyge] at hyg
  have d0 := row_cell hown hyg
  have d1 := row_free hown (L.length * 4 + 2)
  rw [hykv] at d0
  clear hyg hyge hlen
  obtain ⟨c0, c1⟩ := hb.cells
  have hbbl : bb < w1.heap.size := hb.2.2.2.2 bb ((hb.mem bb).2 (.inl rfl))
  have hgl : g < w1.heap.size := (hown.lt g rfl).2
  have hgF : g ∈ F := (hb.mem g).2 (.inr (.inl (by simp [Value.ownBlock])))
  have hidx : (L.length : Int) < (L.length : Int) + 1 := by omega
  have hL0 : (0 : Int) ≤ (L.length : Int) := by omega
  have hL12 : L.length ≤ 12 := by omega
  clear hLl
  obtain ⟨⟨q0, q1, q2, q3⟩, ⟨f0, f1, f2, f3⟩⟩ := cells4 hnx
  by_cases hm : x.name = [] ∧ ∃ ns0 z, ns = ns0 ++ [z] ∧ z.name = []
  · obtain ⟨hxn, ns0, z, rfl, hzn⟩ := hm
    have hl1 : (ns0 ++ [z]).length = ns0.length + 1 := by simp
    rw [hl1] at d0 hkr
    rw [hykv, hl1] at hkr
    obtain ⟨kg, kc', hkf⟩ := form_pos hkr
    injection hkf with e1 e2 e3
    subst e1 e3
    have hzg := cellsOf_get (ns0 ++ [z]) ns0.length (by simp)
    have hzge : (ns0 ++ [z])[ns0.length]'(by simp) = z := by simp
    rw [hzge] at hzg
    have r0 := row_cell hkr hzg.1
    have r3 := row_cell hkr hzg.2.2.2
    have rf := row_free hkr (ns0.length * 4 + 3)
    have hzi : (ns0.length : Int) < (ns0.length : Int) + 1 := by omega
    have hz0' : (0 : Int) ≤ (ns0.length : Int) := by omega
    have hnbd : ns0.length ≤ 1099511627776 := by rw [hl1] at hnl; omega
    have hzs : z.text.length + x.text.length ≤ 1099511627776 := by
      rw [hE, evSize_append] at hsz
      have e : evsOf (ns0 ++ [z]) = evsOf ns0 ++ [evText z.text] := by simp [evsOf, NodeR.evs, hzn]
      rw [e, evSize_append] at hsz
      simp [evSize] at hsz
      omega
    have hxkg : ¬ xb = kg := by
      intro e
      have h1 : kg ∈ F := (hb.mem kg).2 (.inr (.inr (mem_fpOf (n := y) (by simp) (by rw [hyfp, hykv]; simp [Value.ownBlock]))))
      exact hxF (by rw [e]; exact h1)
    have hfin := hb.kidText hya (by rw [hykv, hl1]) hkr hns hyfp hyt hzn x.text
    rw [hxn] at q0
    rw [hzn] at r0
    clear hzg hzge hown hkr hE hykv
    go_wp2_with fail
    go_region
    go_wp2_with fail
    refine bodyPost_ret (v := .tuple #[]) (by simp [results, Tryz.results89, go_sem]) rfl ?_
    refine ⟨rfl, HGOAL.out _ ?_⟩
    rw [HE.out, put_grow pre ns0 z x hxn hzn]
    obtain ⟨F', a, b, c⟩ := hfin
    have eba : (⟨z.text.toArray⟩ : ByteArray) ++ ⟨x.text.toArray⟩ = ⟨(z.text ++ x.text).toArray⟩ := by
      rw [ba_append]
    rw [eba]
    exact ⟨F', HMK.out _ _ F' _ (a.kept ((Kept.refl [] _).drewN _) (by simp)), b.drewN _, fun k hk => by
      rcases c k hk with h1 | h1
      · exact .inl (by simp [h1])
      · exact .inr h1⟩
  · have HM : Hid (putE E x = pre ++ evsOf (ns ++ [x])) := by
      show _ = _
      rw [hE]
      rcases List.eq_nil_or_concat ns with h0 | ⟨ns0, z, h0⟩
      · subst h0
        exact put_text0 pre HPRE.out x
      · have h0' : ns = ns0 ++ [z] := by simpa using h0
        subst h0'
        refine put_app pre ns0 z x ?_
        by_cases hxn : x.name = []
        · exact .inr (fun hz => hm ⟨hxn, ns0, z, rfl, hz⟩)
        · exact .inl hxn
    have hnbd : ns.length ≤ 1099511627000 := by omega
    have hk2 : Kept [] w1 (w1.alloc (.cells #[.string ⟨x.name.toArray⟩, .slice xa xn xc, .slice ka kn kc, .string ⟨x.text.toArray⟩] 42)) := (Kept.refl [] w1).alloc _
    have hkr2 := ownsRow_kept hkr hk2 (by simp)
    have hnews := new_cells w1 [.string ⟨x.name.toArray⟩, .slice xa xn xc, .slice ka kn kc, .string ⟨x.text.toArray⟩] 42
    obtain ⟨n, hn⟩ : ∃ n, ns.length = n := ⟨_, rfl⟩
    have HROW : Hid (∀ v' w', w'.ownsRow 0 42 4 v' (n + 1) (cellsOf ns ++ x.cells) → (w1.alloc (.cells #[.string ⟨x.name.toArray⟩, .slice xa xn xc, .slice ka kn kc, .string ⟨x.text.toArray⟩] 42)).drew.grownBy w' y.kv.ownBlock → Moved (w1.alloc (.cells #[.string ⟨x.name.toArray⟩, .slice xa xn xc, .slice ka kn kc, .string ⟨x.text.toArray⟩] 42)).drew y.kv v' → ∃ F', RAt (w'.setCell ⟨g, L.length * 4 + 2, none⟩ v') bb (.slice (some ⟨g, 0, none⟩) (L.length + 1) cap) (L ++ [y.withKids v' (ns ++ [x])]) F' ∧ Kept F w1 (w'.setCell ⟨g, L.length * 4 + 2, none⟩ v') ∧ Grow (F ++ x.fp) w1 F') := fun v' w' h1 h2 h3 => rput_row (x := x) hb hk2.drew (by rw [hn]; exact h1) h2 h3 hya hyfp hyt hns hx1 hxf1 hxd
    rw [hn] at hykv d0 hkr hnbd hkr2
    rw [hykv] at hkr2
    have HYKV' : Hid (y.kv = .slice ya n yc) := hykv
    clear HYKV
    have HYKV : Hid (y.kv = .slice ya n yc) := hykv
    clear HYKV'
    have hyk : ∀ k, (Value.slice ya n yc).ownBlock = some k → k ≠ bb ∧ k ≠ g := fun k hk => by
      have := hb.far.2 y (by simp) k (by rw [hyfp, hykv, hk]; simp)
      exact ⟨this.1, fun e => this.2 (by rw [e]; rfl)⟩
    have HN : Hid _ := hn
    have HKR : Hid _ := hkr
    have HMM : Hid _ := hm
    clear hn hE hnl hm hkr hykv hxa hxk
    cases n with
    | zero =>
    go_upto_region 4 with fail
    go_cut [38] from 7 to 61 (fun c wx => c = .bool false ∧ w1 = wx)
    case first =>
      cases hxb' : (x.name == []) with
      | true =>
        go_wp2_with fail
        go_meet
        case rel => exact ⟨rfl, rfl⟩
      | false =>
        go_wp2_with fail
        go_meet
        case rel => exact ⟨rfl, rfl⟩
    case rest =>
    obtain ⟨rfl, rfl⟩ := hcut
    have hfar' : ∀ w' : World, (w1.alloc (.cells #[.string ⟨x.name.toArray⟩, .slice xa xn xc, .slice ka kn kc, .string ⟨x.text.toArray⟩] 42)).drew.grownBy w' (Value.slice ya 0 yc).ownBlock → (w'.cell? ⟨bb, 0, none⟩ = some (.slice (some ⟨g, 0, none⟩) (L.length + 1) cap)) ∧ w'.cell? ⟨g, L.length * 4 + 2, none⟩ = some (.slice ya 0 yc) ∧ w'.frozen? ⟨g, L.length * 4 + 2, none⟩ = false := by
      intro w' hgr
      have hk3 := hk2.drew.mono (S' := (Value.slice ya 0 yc).ownBlock.toList) (by simp) |>.trans (Kept.own hgr)
      have hb1 : bb ∉ (Value.slice ya 0 yc).ownBlock.toList := fun hc => (hyk bb (by simpa using hc)).1 rfl
      have hb2 : g ∉ (Value.slice ya 0 yc).ownBlock.toList := fun hc => (hyk g (by simpa using hc)).2 rfl
      exact ⟨(hk3.cell (p := ⟨bb, 0, none⟩) hbbl hb1).trans c0, (hk3.cell (p := ⟨g, L.length * 4 + 2, none⟩) hgl hb2).trans d0, (hk3.frozen (p := ⟨g, L.length * 4 + 2, none⟩) hgl hb2).trans d1⟩
    go_wp2_with fail
    go_region_law (refine step_append_fp rfl (.tmp 56) (.tmp 58) 31 rfl 0 42 i0 _ 4 80 Tryz.underlying31 hi hz0 hz1 hz2 rfl (by decide) (.slice ya 0 yc) 0 (cellsOf ns) (by simp [Act.eval]) (by exact hkr2) _ 1 1 [.string ⟨x.name.toArray⟩, .slice xa xn xc, .slice ka kn kc, .string ⟨x.text.toArray⟩] (by simp [Act.eval]; rfl) rfl (by exact hnews) (by simp [Value.oneCell']) (by unfold maxLen; omega) (by omega) (Nat.zero_le _) ?_; intro v' w' hown' hgr' hmv'; obtain ⟨g', cap', rfl⟩ := form_pos hown'; have b0 := (hfar' w' hgr').1; have b1 := (hfar' w' hgr').2.1; have b2 := (hfar' w' hgr').2.2)
    all_goals
      go_wp2_with fail
      go_end0
      refine ⟨rfl, HGOAL.out _ ?_⟩
      rw [HM.out]
      have ecx : x.cells = [.string ⟨x.name.toArray⟩, .slice xa xn xc, .slice ka kn kc, .string ⟨x.text.toArray⟩] := by unfold NodeR.cells; rw [HXA.out, HXK.out]
      rw [← ecx] at hown'
      rw [← HYKV.out] at hgr' hmv'
      have hfin := HROW.out _ _ hown' hgr' hmv'
      obtain ⟨F', a, b, c⟩ := hfin
      exact ⟨F', HMK.out _ _ F' _ a, b, c⟩
    | succ n1 =>
    go_upto_region 4 with fail
    go_cut [38] from 7 to 61 (fun c wx => c = .bool false ∧ w1 = wx)
    case first =>
      cases hxb' : (x.name == []) with
      | true =>
        obtain ⟨ns0, z, h0⟩ : ∃ ns0 z, ns = ns0 ++ [z] := by
          rcases List.eq_nil_or_concat ns with h0 | ⟨ns0, z, h0⟩
          · have := HN.out
            rw [h0] at this
            simp at this
          · exact ⟨ns0, z, by simpa using h0⟩
        have hl1 : ns0.length = n1 := by have := HN.out; rw [h0] at this; simpa using this
        have hkr' := HKR.out
        rw [HYKV.out] at hkr'
        obtain ⟨kg, kc', hkf⟩ := form_pos hkr'
        injection hkf with e1 e2 e3
        subst e1 e3
        rw [h0] at hkr'
        have hzg := cellsOf_get (ns0 ++ [z]) ns0.length (by simp)
        have hzge : (ns0 ++ [z])[ns0.length]'(by simp) = z := by simp
        rw [hzge] at hzg
        have r0 := row_cell hkr' hzg.1
        rw [hl1] at r0
        have hzi : (n1 : Int) < (n1 : Int) + 1 := by omega
        have hz0' : (0 : Int) ≤ (n1 : Int) := by omega
        have hzb : (z.name == []) = false := by
          have : z.name ≠ [] := fun hz => HMM.out ⟨by simpa using hxb', ns0, z, h0, hz⟩
          simpa using this
        clear hzg hzge hkr' h0 hl1 e2
        go_wp2_with fail
        go_meet
        case rel => exact ⟨rfl, rfl⟩
      | false =>
        go_wp2_with fail
        go_meet
        case rel => exact ⟨rfl, rfl⟩
    case rest =>
    obtain ⟨rfl, rfl⟩ := hcut
    have hfar' : ∀ w' : World, (w1.alloc (.cells #[.string ⟨x.name.toArray⟩, .slice xa xn xc, .slice ka kn kc, .string ⟨x.text.toArray⟩] 42)).drew.grownBy w' (Value.slice ya (n1 + 1) yc).ownBlock → (w'.cell? ⟨bb, 0, none⟩ = some (.slice (some ⟨g, 0, none⟩) (L.length + 1) cap)) ∧ w'.cell? ⟨g, L.length * 4 + 2, none⟩ = some (.slice ya (n1 + 1) yc) ∧ w'.frozen? ⟨g, L.length * 4 + 2, none⟩ = false := by
      intro w' hgr
      have hk3 := hk2.drew.mono (S' := (Value.slice ya (n1 + 1) yc).ownBlock.toList) (by simp) |>.trans (Kept.own hgr)
      have hb1 : bb ∉ (Value.slice ya (n1 + 1) yc).ownBlock.toList := fun hc => (hyk bb (by simpa using hc)).1 rfl
      have hb2 : g ∉ (Value.slice ya (n1 + 1) yc).ownBlock.toList := fun hc => (hyk g (by simpa using hc)).2 rfl
      exact ⟨(hk3.cell (p := ⟨bb, 0, none⟩) hbbl hb1).trans c0, (hk3.cell (p := ⟨g, L.length * 4 + 2, none⟩) hgl hb2).trans d0, (hk3.frozen (p := ⟨g, L.length * 4 + 2, none⟩) hgl hb2).trans d1⟩
    go_wp2_with fail
    go_region_law (refine step_append_fp rfl (.tmp 56) (.tmp 58) 31 rfl 0 42 i0 _ 4 80 Tryz.underlying31 hi hz0 hz1 hz2 rfl (by decide) (.slice ya (n1 + 1) yc) (n1 + 1) (cellsOf ns) (by simp [Act.eval]) (by exact hkr2) _ 1 1 [.string ⟨x.name.toArray⟩, .slice xa xn xc, .slice ka kn kc, .string ⟨x.text.toArray⟩] (by simp [Act.eval]; rfl) rfl (by exact hnews) (by simp [Value.oneCell']) (by unfold maxLen; omega) (by omega) (Nat.zero_le _) ?_; intro v' w' hown' hgr' hmv'; obtain ⟨g', cap', rfl⟩ := form_pos hown'; have b0 := (hfar' w' hgr').1; have b1 := (hfar' w' hgr').2.1; have b2 := (hfar' w' hgr').2.2)
    all_goals
      go_wp2_with fail
      go_end0
      refine ⟨rfl, HGOAL.out _ ?_⟩
      rw [HM.out]
      have ecx : x.cells = [.string ⟨x.name.toArray⟩, .slice xa xn xc, .slice ka kn kc, .string ⟨x.text.toArray⟩] := by unfold NodeR.cells; rw [HXA.out, HXK.out]
      rw [← ecx] at hown'
      rw [← HYKV.out] at hgr' hmv'
      have hfin := HROW.out _ _ hown' hgr' hmv'
      obtain ⟨F', a, b, c⟩ := hfin
      exact ⟨F', HMK.out _ _ F' _ a, b, c⟩
end Go.Proofs.YtlpmjpmefdpcmaaGreatDoor
/- The reference's builder: what is open is closed. -/
namespace Go.Proofs.YtlpmjpmefdpcmaaGreatDoor
open Go.RowKit Scrub Go.Shelf
def RClose (bb : Nat) (F : List Nat) (E : List Ev) (st : List (List UInt8)) (w : World) (g : Nat) (wr : World) : Prop :=
  ∃ F1, g ≤ st.length ∧ RBld wr bb F1 (E ++ List.replicate (st.length - g) none) (st.take g) ∧ Kept F w wr ∧ Grow F w F1
set_option maxRecDepth 100000 in
set_option maxHeartbeats 8000000 in
theorem rCloseTo (bb p : Nat) (F : List Nat) (E : List Ev) (st : List (List UInt8)) (w : World) (h : RBld w bb F E st) (hp : p ≤ st.length) (hst : st.length ≤ 12) (hEl : E.length ≤ 1099511626000) (hsz : evSize E ≤ 1099511626000) :
    Calls Tryz.prog 92 #[.pointer (some ⟨bb, 0, none⟩), .int .i64 ((p : Int) + 1)] w
      fun e w' => e = .returned (.tuple #[]) ∧ RPost bb F [] (closeE E st p) (st.take p) w w' := by
  go_enter Tryz.func92, Tryz.ntmps92
  go_wp2_with fail
  go_loopg [] st.length (fun g wr => p ≤ g ∧ RClose bb F E st w g wr)
  case atStart => exact ⟨hp, F, Nat.le_refl _, by simpa using h, Kept.refl _ _, Grow.refl _ _⟩
  case round =>
    obtain ⟨hpg, F1, hg, hbld, hkept, hgrow⟩ := hrel
    obtain ⟨ov, n0, os, hb, h0, hnn, hE, hS⟩ := hbld
    have hol : os.length = gk := by
      have := congrArg List.length hS
      simp at this
      omega
    subst hol
    have HE : Hid (E ++ List.replicate (st.length - os.length) none = rOut n0 os) := hE
    have HS : Hid (st.take os.length = os.map NodeR.name) := hS
    clear hE hS
    obtain ⟨c0, c1⟩ := hb.cells
    by_cases hlt : p < os.length
    · obtain ⟨os0, x, rfl⟩ : ∃ os0 x, os = os0 ++ [x] := by
        rcases List.eq_nil_or_concat os with h0 | ⟨l, b, h0⟩
        · subst h0; simp at hlt
        · exact ⟨l, b, by simpa using h0⟩
      obtain ⟨L, hL⟩ : ∃ L, L = n0 :: os0 := ⟨_, rfl⟩
      have hLx : n0 :: (os0 ++ [x]) = L ++ [x] := by rw [hL]; rfl
      have hLl : L.length = os0.length + 1 := by rw [hL]; simp
      rw [hLx] at hb
      have hown := hb.2.1.1
      have hlen : (L ++ [x]).length = L.length + 1 := by simp
      rw [hlen] at hown
      obtain ⟨g, cap, rfl⟩ := form_pos hown
      have hgt : (p : Int) + 1 < (L.length : Int) + 1 := by simp at hlt; omega
      have hol12 : L.length ≤ 12 := by simp at hg; omega
      have hxg := cellsOf_get (L ++ [x]) L.length (by simp)
      have hxe : (L ++ [x])[L.length]'(by simp) = x := by simp
      rw [hxe] at hxg
      obtain ⟨x0, x1, x2, x3⟩ := hxg
      have r0 := row_cell hown x0
      have r1 := row_cell hown x1
      have r2 := row_cell hown x2
      have r3 := row_cell hown x3
      clear x0 x1 x2 x3 hxe hlen hLx
      obtain ⟨kfp, hxa, hxk, _, hxt⟩ := hb.2.1.2 x (by simp)
      obtain ⟨xa, xc, hxav⟩ := ownsRow_form hxa
      obtain ⟨kns, hkr, _⟩ := hxk.open
      obtain ⟨ka, kc, hxkv⟩ := ownsRow_form hkr
      have HAV : Hid (x.av = .slice xa x.al.length xc) := hxav
      have HKV : Hid (x.kv = .slice ka kns.length kc) := hxkv
      rw [hxav] at r1
      rw [hxkv] at r2
      clear hxav hxkv hxa hxk hkr
      have hbbl : bb < wr.heap.size := hb.2.2.2.2 bb ((hb.mem bb).2 (.inl rfl))
      have hgl : g < wr.heap.size := (hown.lt g rfl).2
      have hgne : ¬ g = wr.heap.size := by omega
      have hbne : ¬ bb = wr.heap.size := by omega
      have hcap : (L.length : Int) ≤ (cap : Int) := by have := own_cap hown; omega
      have hidx : (L.length : Int) < (L.length : Int) + 1 := by omega
      have hxn : x.name ≠ [] := hnn x (by simp)
      have HL : Hid _ := hL
      have HLL : Hid _ := hLl
      clear hL hLl
      go_wp2_with fail
      go_region
      go_wp2_with fail
      go_region
      go_wp2_with fail
      obtain ⟨⟨F2, hb2, hF2, hxF2⟩, hxok2, hxd, hk2⟩ := hb.pop
      have hkW : Kept [] (wr.setCell ⟨bb, 0, none⟩ (.slice (some ⟨g, 0, none⟩) L.length cap)) (((wr.setCell ⟨bb, 0, none⟩ (.slice (some ⟨g, 0, none⟩) L.length cap)).alloc (.cells #[.string ⟨x.name.toArray⟩, .slice xa x.al.length xc, .slice ka kns.length kc, .string ⟨#[]⟩] 42)).drew.drew) := (((Kept.refl [] _).alloc _).drew).drew
      have hz2 : (wr.setCell ⟨bb, 0, none⟩ (.slice (some ⟨g, 0, none⟩) L.length cap)).heap.size = wr.heap.size := by simp [World.setCell]
      have hb3 := hb2.kept hkW (by simp)
      have hxlt : ∀ k, k ∈ x.fp → k < (wr.setCell ⟨bb, 0, none⟩ (.slice (some ⟨g, 0, none⟩) L.length cap)).heap.size := fun k hk => by
        have := hb.2.2.2.2 k (hxF2 k hk).2
        rw [hz2]; exact this
      have hxok3 := (hxok2.keep (fun k hk => hkW.block k (hxlt k hk) (by simp))).node hxn
      have hk3 := hk2.trans (hkW.mono (S' := F1) (by simp))
      have hxf3 : ∀ k, k ∈ x.fp → k ∉ F2 ∧ k < (((wr.setCell ⟨bb, 0, none⟩ (.slice (some ⟨g, 0, none⟩) L.length cap)).alloc (.cells #[.string ⟨x.name.toArray⟩, .slice xa x.al.length xc, .slice ka kns.length kc, .string ⟨#[]⟩] 42)).drew.drew).heap.size := fun k hk => ⟨(hxF2 k hk).1, Nat.lt_of_lt_of_le (hxlt k hk) hkW.size⟩
      generalize (((wr.setCell ⟨bb, 0, none⟩ (.slice (some ⟨g, 0, none⟩) L.length cap)).alloc (.cells #[.string ⟨x.name.toArray⟩, .slice xa x.al.length xc, .slice ka kns.length kc, .string ⟨#[]⟩] 42)).drew.drew) = W2 at *
      clear hkW hb2 hxok2 hk2 hz2
      have hrb : RBld W2 bb F2 (rOut n0 os0) (os0.map NodeR.name) := by
        rw [HL.out] at hb3
        exact ⟨_, n0, os0, hb3, h0, fun n hn => hnn n (by simp [hn]), rfl, rfl⟩
      have hout : rOut n0 (os0 ++ [x]) = rOut n0 os0 ++ (evOpen x.name x.al :: x.ev) := by simp [rOut]
      have hlE := congrArg List.length HE.out
      have hsE := congrArg evSize HE.out
      rw [evSize_append, evSize_none] at hsE
      rw [hout, evSize_append] at hsE
      rw [hout] at hlE
      simp only [List.length_append, List.length_replicate, List.length_cons, List.length_nil] at hlE
      have hput := rPut bb F2 (rOut n0 os0) (os0.map NodeR.name) x xa ka x.al.length xc kns.length kc W2 hrb hxok3 HAV.out HKV.out hxf3 hxd (by simp; simp at hg; omega) (by omega) (by rw [hxt]; simp; omega)
      rw [hxt] at hput
      refine hput.mono ?_
      rintro e w3 ⟨rfl, F3, hb4, hk4, hg4⟩
      have hE4 : putE (rOut n0 os0) x = rOut n0 (os0 ++ [x]) ++ [none] := by
        unfold putE
        rw [if_neg hxn, hout]
        simp [NodeR.evs, hxn]
      have hK4 : Kept F w w3 := steps_kept hkept hk3 hk4 hF2 hgrow
      have hG4 : Grow F w F3 := steps_grow hkept.size hk3.size hg4 hF2 (fun k hk => (hxF2 k hk).2) hgrow
      rw [hE4, ← HE.out] at hb4
      have HB4 : Hid _ := hb4
      clear hb4 hb3 hrb hput hb hxok3 hlE hsE
      go_wp2_with fail
      go_roundg os0.length
      case measure => simp
      case rel =>
        refine ⟨by simp at hlt; omega, F3, by simp at hg; omega, ?_, hK4, hG4⟩
        have e1 : E ++ List.replicate (st.length - os0.length) none = E ++ List.replicate (st.length - (os0 ++ [x]).length) none ++ [none] := by
          have e : st.length - os0.length = (st.length - (os0 ++ [x]).length) + 1 := by simp; simp at hg; omega
          rw [e, List.replicate_succ', List.append_assoc]
        have e2 : st.take os0.length = os0.map NodeR.name := by
          have h1 := congrArg (List.take os0.length) HS.out
          rw [List.take_take] at h1
          simpa using h1
        rw [e1, e2]
        exact HB4.out
    · have hlt' : ((p : Int) + 1 < (os.length : Int) + 1) = False := eq_false (by omega)
      have hpo : p = os.length := by omega
      obtain ⟨oa, oc, rfl⟩ := ownsRow_form hb.2.1.1
      simp only [List.length_cons] at c0
      go_wp2_with fail
      go_end0
      refine ⟨rfl, F1, ?_, hkept, fun k hk => ?_⟩
      · subst hpo
        exact ⟨_, n0, os, hb, h0, hnn, HE.out, HS.out⟩
      · rcases hgrow k hk with h1 | h1
        · exact .inl (by simp [h1])
        · exact .inr h1
end Go.Proofs.YtlpmjpmefdpcmaaGreatDoor
/- The reference's builder: what is asked of the open ones. -/
namespace Go.Proofs.YtlpmjpmefdpcmaaGreatDoor
open Go.RowKit Scrub Go.Shelf
/-- The place (the top counts) of the innermost of a name behind b; -1: none. -/
def lastR (st : List (List UInt8)) (nm : List UInt8) (b : Int) : Int := if b < lastIdx (fun m => m == nm) st + 1 then lastIdx (fun m => m == nm) st + 1 else -1
/-- The open ones, their names one behind the top. -/
theorem RBld.names {w : World} {bb : Nat} {F : List Nat} {E : List Ev} {st : List (List UInt8)} (h : RBld w bb F E st) : ∃ (g cap : Nat), w.cell? ⟨bb, 0, none⟩ = some (.slice (some ⟨g, 0, none⟩) (st.length + 1) cap) ∧ (∀ k (hk : k < st.length), w.cell? ⟨g, (k + 1) * 4, none⟩ = some (.string ⟨(st[k]).toArray⟩)) ∧ w.cell? ⟨g, 0, none⟩ = some (.string ⟨#[]⟩) := by
  obtain ⟨ov, n0, os, hb, h0, hn, hE, hS⟩ := h
  have hown := hb.2.1.1
  obtain ⟨g, cap, rfl⟩ := form_pos (n := os.length) hown
  have hl : st.length = os.length := by rw [hS]; simp
  refine ⟨g, cap, by rw [hl]; exact hb.cells.1, fun k hk => ?_, ?_⟩
  · have hg := (cellsOf_get (n0 :: os) (k + 1) (by simp; omega)).1
    have := row_cell hown hg
    rw [this]
    simp [hS]
  · have hg := (cellsOf_get (n0 :: os) 0 (by simp)).1
    have := row_cell hown hg
    simpa [h0] using this
set_option maxRecDepth 100000 in
set_option maxHeartbeats 4000000 in
theorem rLast (bb : Nat) (F : List Nat) (E : List Ev) (st : List (List UInt8)) (nm : ByteArray) (b : Nat) (w : World) (h : RBld w bb F E st) (hst : st.length ≤ 12) :
    Calls Tryz.prog 151 #[.pointer (some ⟨bb, 0, none⟩), .string nm, .int .i64 (b : Int)] w fun e w' => e = .returned (.int .i64 (lastR st nm.data.toList b)) ∧ w' = w := by
  obtain ⟨g, cap, c0, hcs, _⟩ := h.names
  have HCS : Hid _ := hcs
  clear hcs h
  obtain ⟨R, hR⟩ : ∃ R, lastR st nm.data.toList b = R := ⟨_, rfl⟩
  rw [hR]
  have HR : Hid _ := hR
  clear hR
  obtain ⟨N, hN⟩ : ∃ N, N = st.length := ⟨_, rfl⟩
  rw [← hN] at c0 hst
  have HN : Hid _ := hN
  clear hN
  go_enter Tryz.func151, Tryz.ntmps151
  go_wp2_with fail
  go_loopg [7] N (fun gg x wr => ∃ k : Nat, k ≤ N ∧ gg = k ∧ x = .int .i64 (k : Int) ∧ lastIdx (fun m => m == nm.data.toList) st = lastIdx (fun m => m == nm.data.toList) (st.take k) ∧ w = wr)
  case atStart => exact ⟨N, Nat.le_refl _, rfl, by go_num, by rw [HN.out, List.take_length], rfl⟩
  case round =>
    obtain ⟨k, hkN, rfl, rfl, hinv, rfl⟩ := hrel
    have HI : Hid _ := hinv
    clear hinv
    by_cases hlt : b < gk
    · have hlt' : (b : Int) < (gk : Int) := by omega
      obtain ⟨k, rfl⟩ : ∃ k, gk = k + 1 := ⟨gk - 1, by omega⟩
      have hkl : k < st.length := by rw [← HN.out]; omega
      have r0 := HCS.out k hkl
      have htk : st.take (k + 1) = st.take k ++ [st[k]] := List.take_succ_eq_append_getElem hkl
      have HL : Hid (lastIdx (fun m => m == nm.data.toList) st = if (st[k] == nm.data.toList) then (k : Int) else lastIdx (fun m => m == nm.data.toList) (st.take k)) := by
        show _ = _
        rw [HI.out, htk, lastIdx_snoc]
        have : (st.take k).length = k := by simp; omega
        rw [this]
      generalize st[k] = sk at *
      clear htk
      have hk1 : ((k : Int) + 1 < (N : Int) + 1) := by omega
      have hk0 : (0 : Int) ≤ (k : Int) + 1 := by omega
      cases hq : (sk == nm.data.toList) with
      | true =>
        have HQ : Hid _ := hq
        have hq2 : (sk == nm.toList) = true := by rw [Go.ByteArray.toList_eq]; exact hq
        go_wp2_with fail
        go_ret
        refine ⟨?_, rfl⟩
        have hl := HL.out
        rw [HQ.out, if_pos rfl] at hl
        rw [← HR.out, lastR, hl, if_pos (by omega)]
        exact ret_i (by omega)
      | false =>
        have HQ : Hid _ := hq
        have hq2 : (sk == nm.toList) = false := by rw [Go.ByteArray.toList_eq]; exact hq
        go_wp2_with fail
        go_roundg k
        case measure => omega
        case rel =>
          refine ⟨k, by omega, rfl, by go_num, ?_, rfl⟩
          have hl := HL.out
          rw [HQ.out] at hl
          simpa using hl
    · have hlt' : ((b : Int) < (gk : Int)) = False := eq_false (by omega)
      go_wp2_with fail
      go_ret
      refine ⟨?_, rfl⟩
      have h1 := lastIdx_lt (fun m => m == nm.data.toList) (st.take gk)
      have h2 : (st.take gk).length ≤ gk := by simp; omega
      rw [← HR.out, lastR, HI.out, if_neg (by omega)]
      rfl
theorem kind_td4 (n : List UInt8) : (kindP n == 4) = (n == [116, 100]) := by
  by_cases h : n = [116, 100]
  · subst h; decide
  · have e : (n == [116, 100]) = false := by simpa using h
    rw [e, beq_eq_false_iff_ne]
    unfold kindP
    split
    · decide
    · split
      · decide
      · split
        · decide
        · first | decide | (rw [if_neg h]; decide)
theorem limit_td (st : List (List UInt8)) : limitP st = lastIdx (fun m => m == [116, 100]) st := by
  unfold limitP
  congr 1
  funext n
  exact kind_td4 n
set_option maxHeartbeats 1000000 in
theorem rLimit (bb : Nat) (F : List Nat) (E : List Ev) (st : List (List UInt8)) (w : World) (h : RBld w bb F E st) (hst : st.length ≤ 12) :
    Calls Tryz.prog 152 #[.pointer (some ⟨bb, 0, none⟩)] w fun e w' => e = .returned (.int .i64 (limitP st + 1)) ∧ w' = w := by
  have HL : Hid (lastR st [116, 100] 0 = if 0 < limitP st + 1 then limitP st + 1 else -1) := by
    show _ = _
    rw [lastR, limit_td]
  have hge := lastIdx_ge (fun m => m == [116, 100]) st
  rw [← limit_td] at hge
  have HC : Hid (Calls Tryz.prog 151 #[.pointer (some ⟨bb, 0, none⟩), .string ⟨#[116, 100]⟩, .int .i64 0] w fun e w' => e = .returned (.int .i64 (lastR st [116, 100] 0)) ∧ w' = w) := rLast bb F E st ⟨#[116, 100]⟩ 0 w h hst
  rw [HL.out] at HC
  generalize limitP st = l at *
  clear HL h
  go_enter Tryz.func152, Tryz.ntmps152
  go_wp2_with fail
  refine HC.out.mono ?_
  rintro e w1 ⟨rfl, rfl⟩
  by_cases hp : 0 < l + 1
  · rw [if_pos hp]
    have h1 : (l + 1 < 0) = False := eq_false (by omega)
    go_wp2_with fail
    go_ret
    exact ⟨rfl, rfl⟩
  · rw [if_neg hp]
    go_wp2_with fail
    go_ret
    exact ⟨ret_i (by omega), rfl⟩
def topP (st : List (List UInt8)) : List UInt8 := if st = [] then [] else st.getD (st.length - 1) []
set_option maxHeartbeats 1000000 in
theorem rTop (bb : Nat) (F : List Nat) (E : List Ev) (st : List (List UInt8)) (w : World) (h : RBld w bb F E st) (hst : st.length ≤ 12) :
    Calls Tryz.prog 148 #[.pointer (some ⟨bb, 0, none⟩)] w fun e w' => e = .returned (.string ⟨(topP st).toArray⟩) ∧ Kept [] w w' := by
  obtain ⟨g, cap, c0, hcs, hc0⟩ := h.names
  have r0 : w.cell? ⟨g, st.length * 4, none⟩ = some (.string ⟨(topP st).toArray⟩) := by
    unfold topP
    by_cases hs : st = []
    · subst hs
      simpa using hc0
    · have hl : 0 < st.length := List.length_pos_iff.2 hs
      have h1 := hcs (st.length - 1) (by omega)
      rw [if_neg hs, show (st.length - 1 + 1) * 4 = st.length * 4 by omega] at *
      rw [h1]
      congr 3
      rw [List.getD_eq_getElem?_getD, List.getElem?_eq_getElem (by omega)]
      rfl
  clear hcs hc0 h
  generalize topP st = tp at *
  obtain ⟨N, hN⟩ : ∃ N, N = st.length := ⟨_, rfl⟩
  rw [← hN] at *
  clear hN
  have hi : (N : Int) < (N : Int) + 1 := by omega
  go_enter Tryz.func148, Tryz.ntmps148
  go_wp2_with fail
  go_quiet (fail)
  go_wp2_with fail
  go_ret
  exact ⟨rfl, (Kept.refl _ _).drewN _⟩
end Go.Proofs.YtlpmjpmefdpcmaaGreatDoor
