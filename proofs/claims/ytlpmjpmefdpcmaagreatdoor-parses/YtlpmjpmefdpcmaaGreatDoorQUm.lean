import Derived.Test.YtlpmjpmefdpcmaaGreatDoorQUi
import Derived.Test.YtlpmjpmefdpcmaaGreatDoorQCl2
/- The book settles: what waits is marked. -/
namespace Go.Proofs.YtlpmjpmefdpcmaaGreatDoor
open Go.RowKit Scrub Go.Shelf
/-- A list that waits: its value, its events, its blocks, the copy. -/
structure WItem where
  v : Value
  E : List Ev
  fp : List Nat
  c : Value
def fpI (I : List WItem) : List Nat := I.flatMap WItem.fp
structure BookW (w : World) (bk : Nat) (nv av wv ev : Value) (N A : List Value) (M FE : List Nat) (I : List WItem) : Prop where
  bm : BookM w bk nv av wv ev N A M
  wrow : w.ownsRow 0 31 1 wv (I.map WItem.v).length (I.map WItem.v)
  erow : w.ownsRow 0 31 1 ev (I.map WItem.c).length (I.map WItem.c)
  zz : ∀ b, wv.ownBlock = some b → ev.ownBlock ≠ some b
  zfar : ∀ b, (wv.ownBlock = some b ∨ ev.ownBlock = some b) → b ∉ rowsOf bk nv av ∧ b ∉ M ∧ b ∉ fpI I ∧ b ∉ FE
  trees : ∀ x ∈ I, Tree w x.v x.E x.fp ∧ evBulk x.E ≤ 12000
  nd : (fpI I).Nodup
  ffar : ∀ b ∈ fpI I, b ∉ rowsOf bk nv av ∧ b ∉ M ∧ b ∉ FE
  were : ∀ x ∈ I, ∃ efp, Tree w x.c x.E efp ∧ ∀ b ∈ efp, b ∈ FE
  efar : ∀ b ∈ FE, b < w.heap.size ∧ b ∉ rowsOf bk nv av
theorem Tree.lt {w : World} {v : Value} {E : List Ev} {fp : List Nat} (h : Tree w v E fp) : ∀ b ∈ fp, b < w.heap.size := by
  obtain ⟨d, h⟩ := h
  exact Rep.lt d h
theorem Tree.form {w : World} {v : Value} {E : List Ev} {fp : List Nat} (h : Tree w v E fp) : ∃ a n c, v = .slice a n c := by
  obtain ⟨d, h⟩ := h
  exact Rep.form d h
theorem Tree.told {w : World} {v : Value} {E : List Ev} {fp : List Nat} (h : Tree w v E fp) : ∃ (d : Nat) (f : GF d), Lies d w v f ∧ evF d f = E ∧ niceF d f := by
  obtain ⟨d, hr⟩ := h
  obtain ⟨f, h1, h2, h3⟩ := Rep.lies d hr
  exact ⟨d, f, h1, h2, h3⟩
theorem mem_fpI {I : List WItem} {x : WItem} (h : x ∈ I) {b : Nat} (hb : b ∈ x.fp) : b ∈ fpI I := List.mem_flatMap.2 ⟨x, h, hb⟩
theorem fpI_lt {w : World} {I : List WItem} (h : ∀ x ∈ I, Tree w x.v x.E x.fp ∧ evBulk x.E ≤ 12000) : ∀ b ∈ fpI I, b < w.heap.size := by
  intro b hb
  obtain ⟨x, hx, hb⟩ := List.mem_flatMap.1 hb
  exact (h x hx).1.lt b hb
theorem BookW.kept {w w' : World} {bk : Nat} {nv av wv ev : Value} {N A : List Value} {M FE : List Nat} {I : List WItem} (h : BookW w bk nv av wv ev N A M FE I) (hk : Kept [] w w') : BookW w' bk nv av wv ev N A M FE I := by
  refine ⟨h.bm.kept hk (by simp), ownsRow_kept h.wrow hk (by simp), ownsRow_kept h.erow hk (by simp), h.zz, h.zfar, fun x hx => ⟨(h.trees x hx).1.same (fun b hb => hk.block b ((h.trees x hx).1.lt b hb) (by simp)), (h.trees x hx).2⟩, h.nd, h.ffar, fun x hx => ?_, fun b hb => ⟨Nat.lt_of_lt_of_le (h.efar b hb).1 hk.size, (h.efar b hb).2⟩⟩
  obtain ⟨efp, h1, h2⟩ := h.were x hx
  exact ⟨efp, h1.same (fun b hb => hk.block b (h1.lt b hb) (by simp)), h2⟩
/-- The lists that wait read as they came. -/
theorem BookW.same {w : World} {bk : Nat} {nv av wv ev : Value} {N A : List Value} {M FE : List Nat} {I : List WItem} (h : BookW w bk nv av wv ev N A M FE I) (k : Nat) (x y : Value) (hx : (I.map WItem.v)[k]? = some x) (hy : (I.map WItem.c)[k]? = some y) (w' : World) (hw : w'.heap = w.heap) :
    Calls Tryz.prog 29 #[x, y] w' fun e w'' => e = .returned (.bool true) ∧ ∃ n, w'' = w'.drewN n := by
  rw [List.getElem?_map] at hx hy
  cases hI : I[k]? with
  | none => rw [hI] at hx; cases hx
  | some i =>
    rw [hI] at hx hy
    have hx' : i.v = x := by simpa using hx
    have hy' : i.c = y := by simpa using hy
    subst hx' hy'
    have hm := List.mem_of_getElem? hI
    obtain ⟨h1, hb⟩ := h.trees i hm
    obtain ⟨efp, h2, _⟩ := h.were i hm
    have h1' : Tree w' i.v i.E i.fp := h1.same (fun b _ => by rw [hw])
    have h2' : Tree w' i.c i.E efp := h2.same (fun b _ => by rw [hw])
    obtain ⟨d1, f1, l1, e1, n1⟩ := h1'.told
    obtain ⟨d2, f2, l2, e2, n2⟩ := h2'.told
    refine (rSm_any d1 d2 f1 f2 _ _ w' l1 l2 (by rw [bulkF_ev d1 f1 n1, e1]; omega)).mono ?_
    rintro e w'' ⟨r, rfl, hr, hn⟩
    have : r = true := hr.2 (sameF_of n1 n2 (by rw [e1, e2]))
    subst this
    exact ⟨rfl, hn⟩
/-- The book's cells of what waits are emptied. -/
def clearW (w : World) (bk : Nat) : World := (((w.setCell ⟨bk, 3, none⟩ (.slice none 0 0)).setCell ⟨bk, 4, none⟩ (.slice none 0 0)).setCell ⟨bk, 5, none⟩ (.slice none 0 0)).setCell ⟨bk, 6, none⟩ (.slice none 0 0)
theorem clearW_kept (w : World) (bk : Nat) : Kept [bk] w (clearW w bk) := ((((Kept.refl [bk] w).setCell (.inl (by simp)) _).setCell (.inl (by simp)) _).setCell (.inl (by simp)) _).setCell (.inl (by simp)) _
theorem BookM.clear {w : World} {bk : Nat} {nv av wv ev : Value} {N A : List Value} {M : List Nat} (h : BookM w bk nv av wv ev N A M) : BookM (clearW w bk) bk nv av (.slice none 0 0) (.slice none 0 0) N A M := by
  have hk := clearW_kept w bk
  obtain ⟨nd1, nd2, nd3⟩ := rows_nd.1 h.nd
  have hat : BookAt (clearW w bk) bk nv av (.slice none 0 0) (.slice none 0 0) := by
    have h3 := (h.place.setW (.slice none 0 0)).setE (.slice none 0 0)
    have h5 := block_set (block_set h3 5 (.slice none 0 0)) 6 (.slice none 0 0)
    exact h5
  have hm : ∀ b, b ∈ M → b ∉ [bk] := fun b hb hc => (h.mlt b hb).2 (mem_rows.2 (.inl (by simpa using hc)))
  have hn : ∀ b, nv.ownBlock = some b → b ∉ [bk] := fun b hb hc => by
    have e : b = bk := by simpa using hc
    exact nd1 (e ▸ hb)
  have ha : ∀ b, av.ownBlock = some b → b ∉ [bk] := fun b hb hc => by
    have e : b = bk := by simpa using hc
    exact nd2 (e ▸ hb)
  refine ⟨hat, ownsRow_kept h.nrow hk hn, ownsRow_kept h.arow hk ha, h.nd, h.n4, h.a4, ?_, ?_, h.own, fun b hb => ⟨Nat.lt_of_lt_of_le (h.mlt b hb).1 hk.size, (h.mlt b hb).2⟩⟩
  · intro k x hx
    exact (h.nm k x hx).kept (by simp [nMark]) hk (fun b hb => hm b (h.own x (List.mem_append_left _ (List.mem_of_getElem? hx)) b hb))
  · intro k x hx
    exact (h.am k x hx).kept (by simp [aMark]) hk (fun b hb => hm b (h.own x (List.mem_append_right _ (List.mem_of_getElem? hx)) b hb))
theorem BookM.none {w : World} {bk : Nat} {nv av : Value} {N A : List Value} {M : List Nat} (h : BookM w bk nv av (.slice none 0 0) (.slice none 0 0) N A M) : BookW w bk nv av (.slice none 0 0) (.slice none 0 0) N A M [] [] := by
  refine ⟨h, World.ownsRow_nil _ _ _ _, World.ownsRow_nil _ _ _ _, ?_, ?_, by simp, by simp [fpI], by simp [fpI], by simp, by simp⟩
  · intro b hb
    cases hb
  · rintro b (hb | hb) <;> cases hb
theorem fpI_take {I : List WItem} {k : Nat} (hk : k < I.length) : fpI (I.take (k + 1)) = fpI (I.take k) ++ I[k].fp := by
  rw [List.take_succ_eq_append_getElem hk]
  simp only [fpI, List.flatMap_append, List.flatMap_cons, List.flatMap_nil, List.append_nil]
theorem fpI_nd {I : List WItem} (h : (fpI I).Nodup) {k : Nat} (hk : k < I.length) : (∀ b ∈ I[k].fp, b ∉ fpI (I.take k)) ∧ (I[k].fp).Nodup := by
  have e : fpI I = fpI (I.take k) ++ (I[k].fp ++ fpI (I.drop (k + 1))) := by
    conv => lhs; rw [← List.take_append_drop k I, fpI, List.flatMap_append, List.drop_eq_getElem_cons hk]
    simp only [fpI, List.flatMap_cons]
  rw [e] at h
  obtain ⟨_, h4, h5⟩ := List.nodup_append.1 h
  exact ⟨fun b hb hc => h5 b hc b (List.mem_append_left _ hb) rfl, (List.nodup_append.1 h4).1⟩
/-- What settling leaves: all that waited is marked. -/
def SPost (bk : Nat) (nv av : Value) (N A : List Value) (M : List Nat) (I : List WItem) (w w' : World) : Prop :=
  ∃ nv' av' N' A' M', BookM w' bk nv' av' (.slice none 0 0) (.slice none 0 0) N' A' M' ∧ Grew bk nv av M (fpI I) w nv' av' M' ∧ Kept (rowsOf bk nv av ++ fpI I) w w' ∧ N'.length + A'.length ≤ N.length + A.length + I.length * 96004
set_option maxRecDepth 100000 in
set_option maxHeartbeats 4000000 in
theorem settles_any (bk : Nat) (nv av wv ev : Value) (N A : List Value) (M FE : List Nat) (I : List WItem) (w : World) (h : BookW w bk nv av wv ev N A M FE I) (hI : I.length ≤ 1000) (hsz : N.length + A.length ≤ 1099000000000) :
    Calls Tryz.prog 15 #[.pointer (some ⟨bk, 0, none⟩)] w fun e w' => e = .returned (.bool true) ∧ SPost bk nv av N A M I w w' := by
  have HWT : Hid (Calls _ _ _ _ _) := waits_any bk nv av wv ev (I.map WItem.v) (I.map WItem.c) w h.bm.place h.wrow h.erow (by simp) (by simp; omega) h.same
  obtain ⟨wa, wc, rfl⟩ := ownsRow_form h.wrow
  have HH : Hid (∀ n, BookW (w.drewN n) bk nv av (.slice wa (I.map WItem.v).length wc) ev N A M FE I) := fun n => h.kept ((Kept.refl [] w).drewN n)
  have HKD : Hid (∀ n, Kept [] w (w.drewN n)) := fun n => (Kept.refl [] w).drewN n
  clear h
  have hml : (I.map WItem.v).length = I.length := by simp
  rw [hml] at HH
  clear hml
  generalize hin : I.length = m at *
  have HIN : Hid (I.length = m) := hin
  clear hin
  go_enter Tryz.func15, Tryz.ntmps15
  go_wp2_with fail
  refine Calls.mono HWT.out ?_
  rintro e w1 ⟨rfl, n1, hw1⟩
  have HH1 : Hid (BookW w1 bk nv av (.slice wa m wc) ev N A M FE I) := by
    have := HH.out n1
    rw [← hw1] at this
    exact this
  have HK1 : Hid (Kept [] w w1) := by
    have := HKD.out n1
    rw [← hw1] at this
    exact this
  clear hw1 HH HKD HWT
  go_wp2_with fail
  go_loopg [4] m (fun g x wr => ∃ k : Nat, k ≤ m ∧ g = m - k ∧ x = .int .i64 (k : Int) ∧ MPost bk nv av (.slice wa m wc) ev N A M (fpI (I.take k)) (rowsOf bk nv av ++ fpI (I.take k)) (k * 96004) w1 wr)
  case atStart => exact ⟨0, by omega, rfl, rfl, nv, av, N, A, M, HH1.out.bm, ⟨fun b hb => .inl hb, fun b hb => .inl hb⟩, Kept.refl _ _, by omega⟩
  case round =>
    obtain ⟨wo, hwo⟩ : ∃ x, x = wr := ⟨_, rfl⟩
    subst hwo
    obtain ⟨k, hks, hgk, rfl, nv1, av1, N1, A1, M1, hb1, hg1, hk1, hc1⟩ := hrel
    have HG : Hid _ := hgk
    clear hgk
    have hge : (0 : Int) ≤ (k : Int) := by omega
    have q3 := hb1.place.cell3
    by_cases hlt : k < m
    · have hlt' : (k : Int) < (m : Int) := by omega
      have hkl : k < I.length := by rw [HIN.out]; exact hlt
      have hmem : I[k] ∈ I := List.getElem_mem hkl
      have hwr : w1.ownsRow 0 31 1 (.slice wa m wc) m (I.map WItem.v) := by
        have := HH1.out.wrow
        rw [List.length_map, HIN.out] at this
        exact this
      obtain ⟨g, rfl⟩ := row_some hwr (by omega)
      have hzf := HH1.out.zfar g (.inl rfl)
      have hsub : ∀ j, ∀ b ∈ fpI (I.take j), b ∈ fpI I := by
        intro j b hb
        have e : fpI I = fpI (I.take j) ++ fpI (I.drop j) := by
          conv => lhs; rw [← List.take_append_drop j I]
          simp only [fpI, List.flatMap_append]
        rw [e]
        exact List.mem_append_left _ hb
      have c1 := row_cell hwr (j := k) (u := I[k].v) (by simp [hkl])
      have hglt : g < w1.heap.size := own_lt hwr rfl
      have c2 := (hk1.cell (p := ⟨g, k, none⟩) hglt (fun hc => by
        rcases List.mem_append.1 hc with hc | hc
        · exact hzf.1 hc
        · exact hzf.2.2.1 (hsub k g hc))).trans c1
      obtain ⟨nd1, nd2⟩ := fpI_nd HH1.out.nd hkl
      have hfpt := fpI_take hkl
      obtain ⟨hT, hTb⟩ := HH1.out.trees _ hmem
      have hfi : ∀ b ∈ I[k].fp, b ∈ fpI I := fun b hb => mem_fpI hmem hb
      generalize I[k] = x at *
      have hxl := hT.lt
      have hff : ∀ b ∈ x.fp, b ∉ rowsOf bk nv1 av1 ∧ b ∉ M1 := fun b hb => hg1.far (hxl b hb) (HH1.out.ffar b (hfi b hb)).1 (HH1.out.ffar b (hfi b hb)).2.1 (nd1 b hb)
      obtain ⟨d, hR⟩ : ∃ d, Rep d wo x.v x.E x.fp := by
        obtain ⟨d, hR⟩ := hT
        refine ⟨d, Rep.same d _ _ _ hR (fun b hb => hk1.block b (hxl b hb) (fun hc => ?_))⟩
        rcases List.mem_append.1 hc with hc | hc
        · exact (HH1.out.ffar b (hfi b hb)).1 hc
        · exact nd1 b hb hc
      have HCALL : Hid (Calls Tryz.prog 45 #[.pointer (some ⟨bk, 0, none⟩), x.v] wo fun e w' => e = .returned (.tuple #[]) ∧ MPost bk nv av (.slice (some ⟨g, 0, none⟩) m wc) ev N A M (fpI (I.take (k + 1))) (rowsOf bk nv av ++ fpI (I.take (k + 1))) ((k + 1) * 96004) w1 w') := by
        refine (markNodes_any d bk nv1 av1 _ ev x.v N1 A1 M1 x.E x.fp wo hb1 hR nd2 hff (by omega)).mono ?_
        rintro e w' ⟨rfl, hp⟩
        refine ⟨rfl, (MPost.then hg1 hk1 hc1 hp (fun b hb => List.mem_append.1 hb)).le (fun b hb => ?_) (fun b hb => ?_) (by omega)⟩
        · rw [hfpt]
          exact hb
        · rw [hfpt]
          exact hb
      obtain ⟨xa, xn, xc, hxv⟩ := hT.form
      rw [hxv] at c2 HCALL
      clear hb1 hg1 hk1 hc1 hwr hzf hsub c1 hglt nd1 nd2 hfpt hT hTb hfi hxl hff hR hmem
      go_wp2_with fail
      refine Calls.mono HCALL.out ?_
      rintro e w3 ⟨rfl, hp3⟩
      have HP3 : Hid _ := hp3
      clear hp3 q3 c2
      go_wp2_with fail
      go_roundg (m - (k + 1))
      case measure => rw [HG.out]; omega
      case rel => exact ⟨k + 1, by omega, rfl, by first | rfl | congr 1, HP3.out⟩
    · obtain rfl : k = m := by omega
      have hlt' : ((k : Int) < (k : Int)) = False := by simp
      have htk : I.take k = I := List.take_of_length_le (by rw [HIN.out]; exact Nat.le_refl _)
      rw [htk] at hg1 hk1
      obtain ⟨_, q5, q6⟩ := hb1.place.cellT
      have HB1 : Hid (BookM wo bk nv1 av1 _ ev N1 A1 M1) := hb1
      have HFIN : Hid (∀ w', Kept [] (clearW wo bk) w' → SPost bk nv av N A M I w w') := by
        intro w' hw'
        have hkc := clearW_kept wo bk
        have hz := hk1.size
        have hz1 := HK1.out.size
        refine ⟨nv1, av1, N1, A1, M1, hb1.clear.kept hw' (by simp), ⟨fun b hb => ?_, fun b hb => ?_⟩, ?_, by rw [HIN.out]; exact hc1⟩
        · rcases hg1.1 b hb with h | h
          · exact .inl h
          · exact .inr (by omega)
        · rcases hg1.2 b hb with h | h | h
          · exact .inl h
          · exact .inr (.inl h)
          · exact .inr (.inr (by omega))
        · refine (((HK1.out.mono (by simp)).trans hk1).trans (hkc.mono (fun b hb => ?_))).trans (hw'.mono (by simp))
          have : b = bk := by simpa using hb
          subst this
          exact List.mem_append_left _ (mem_rows.2 (.inl rfl))
      have HRD : Hid (Calls _ _ _ _ _) := reads_any bk nv1 av1 (.slice none 0 0) (.slice none 0 0) N1 A1 M1 (clearW wo bk) hb1.clear (by omega)
      have hfr := hb1.place.free
      have f3 := hfr 3
      have f4 := hfr 4
      have f5 := hfr 5
      have f6 := hfr 6
      have q4 := hb1.place.cell4
      clear hb1 hg1 hk1 hc1 hfr htk
      go_wp2_with fail
      go_loopg [5] 0 (fun g x wr => g = 0 ∧ x = .int .i64 0 ∧ wo = wr)
      case atStart => exact ⟨rfl, rfl, rfl⟩
      case round =>
        obtain ⟨rfl, rfl, rfl⟩ := hrel
        go_wp2_with fail
        refine Calls.mono HRD.out ?_
        rintro e w4 ⟨rfl, hk4⟩
        go_wp2_with fail
        go_ret
        exact ⟨rfl, HFIN.out _ hk4⟩
end Go.Proofs.YtlpmjpmefdpcmaaGreatDoor
/- The book keeps a list, and is looked at, as a whole. -/
namespace Go.Proofs.YtlpmjpmefdpcmaaGreatDoor
open Go.RowKit Scrub Go.Shelf
theorem BookM.newW {S : List Nat} {w w' : World} {bk : Nat} {nv av wv ev wv' ev' : Value} {N A : List Value} {M : List Nat} (h : BookM w bk nv av wv ev N A M) (hat : BookAt w' bk nv av wv' ev') (hk : Kept S w w') (hS : ∀ b ∈ S, (b = bk ∨ b ∉ rowsOf bk nv av) ∧ b ∉ M) : BookM w' bk nv av wv' ev' N A M := by
  obtain ⟨nd1, nd2, nd3⟩ := rows_nd.1 h.nd
  refine ⟨hat, ownsRow_kept h.nrow hk (fun b hb hc => ?_), ownsRow_kept h.arow hk (fun b hb hc => ?_), h.nd, h.n4, h.a4, ?_, ?_, h.own, fun b hb => ⟨Nat.lt_of_lt_of_le (h.mlt b hb).1 hk.size, (h.mlt b hb).2⟩⟩
  · rcases (hS b hc).1 with e | e
    · exact nd1 (e ▸ hb)
    · exact e (mem_rows.2 (.inr (.inl hb)))
  · rcases (hS b hc).1 with e | e
    · exact nd2 (e ▸ hb)
    · exact e (mem_rows.2 (.inr (.inr hb)))
  · intro k x hx
    exact (h.nm k x hx).kept (by simp [nMark]) hk (fun b hb hc => (hS b hc).2 (h.own x (List.mem_append_left _ (List.mem_of_getElem? hx)) b hb))
  · intro k x hx
    exact (h.am k x hx).kept (by simp [aMark]) hk (fun b hb hc => (hS b hc).2 (h.own x (List.mem_append_right _ (List.mem_of_getElem? hx)) b hb))
theorem rows_lt {w : World} {bk : Nat} {nv av wv ev : Value} {N A : List Value} {M : List Nat} (h : BookM w bk nv av wv ev N A M) : ∀ b ∈ rowsOf bk nv av, b < w.heap.size := by
  intro b hb
  rcases mem_rows.1 hb with rfl | hb | hb
  · exact h.place.lt
  · exact own_lt h.nrow hb
  · exact own_lt h.arow hb
/-- Blocks that the book has nothing to do with. -/
def FarB (bk : Nat) (nv av wv ev : Value) (M FE : List Nat) (I : List WItem) (b : Nat) : Prop := (b ∉ rowsOf bk nv av ∧ b ∉ M) ∧ (b ∉ fpI I ∧ b ∉ FE) ∧ (wv.ownBlock ≠ some b ∧ ev.ownBlock ≠ some b)
theorem keep_any (bk : Nat) (nv av wv ev l : Value) (N A : List Value) (M FE : List Nat) (I : List WItem) (E : List Ev) (fp : List Nat) (w : World) (h : BookW w bk nv av wv ev N A M FE I) (hI : I.length ≤ 1000) (hT : Tree w l E fp) (hnd : fp.Nodup) (hE : evBulk E ≤ 12000) (hfar : ∀ b ∈ fp, FarB bk nv av wv ev M FE I b) :
    Calls Tryz.prog 30 #[.pointer (some ⟨bk, 0, none⟩), l] w fun e w' => e = .returned (.tuple #[]) ∧ ∃ wv' ev' FE' c, BookW w' bk nv av wv' ev' N A M FE' (I ++ [⟨l, E, fp, c⟩]) ∧ Kept (bk :: (wv.ownBlock.toList ++ ev.ownBlock.toList)) w w' ∧
      (∀ b, wv'.ownBlock = some b → wv.ownBlock = some b ∨ w.heap.size ≤ b) ∧ (∀ b, ev'.ownBlock = some b → ev.ownBlock = some b ∨ w.heap.size ≤ b) ∧ ∀ b ∈ FE', b ∈ FE ∨ w.heap.size ≤ b := by
  obtain ⟨d, hR⟩ := hT
  have hT : Tree w l E fp := ⟨d, hR⟩
  have hbr : bk ∈ rowsOf bk nv av := mem_rows.2 (.inl rfl)
  refine (keepNodes_any bk nv av wv ev l (I.map WItem.v) (I.map WItem.c) E d fp w h.bm.place h.wrow h.erow (fun hc => (h.zfar bk (.inl hc)).1 hbr) (fun hc => (h.zfar bk (.inr hc)).1 hbr) h.zz hR (fun b hb => ⟨fun hc => (hfar b hb).1.1 (hc ▸ hbr), (hfar b hb).2.2.1⟩) (by omega) (by simp; omega) (by simp; omega)).mono ?_
  rintro e w' ⟨rfl, wv', ev', c, efp, z1, z2, ⟨hat, hw, he⟩, hTc, hk, ⟨hz0, hz1, hz2⟩, hmw, hef, hme⟩
  have hrl := rows_lt h.bm
  have hfl := fpI_lt h.trees
  have htl := hT.lt
  have hwl : ∀ b, wv.ownBlock = some b → b < w.heap.size := fun b hb => own_lt h.wrow hb
  have hel : ∀ b, ev.ownBlock = some b → b < w.heap.size := fun b hb => own_lt h.erow hb
  have hS : ∀ b ∈ bk :: (wv.ownBlock.toList ++ ev.ownBlock.toList), b = bk ∨ (wv.ownBlock = some b ∨ ev.ownBlock = some b) := by
    intro b hb
    rcases List.mem_cons.1 hb with hb | hb
    · exact .inl hb
    · rcases List.mem_append.1 hb with hb | hb
      · exact .inr (.inl (Option.mem_toList.1 hb))
      · exact .inr (.inr (Option.mem_toList.1 hb))
  have hfI : fpI (I ++ [⟨l, E, fp, c⟩]) = fpI I ++ fp := by simp [fpI]
  refine ⟨rfl, wv', ev', FE ++ efp, c, ⟨?_, ?_, ?_, ?_, ?_, ?_, ?_, ?_, ?_, ?_⟩, hk, ?_, ?_, ?_⟩
  · refine h.bm.newW hat hk (fun b hb => ?_)
    rcases hS b hb with rfl | hb
    · exact ⟨.inl rfl, fun hc => (h.bm.mlt _ hc).2 hbr⟩
    · exact ⟨.inr (h.zfar b hb).1, (h.zfar b hb).2.1⟩
  · simpa using hw
  · simpa using he
  · intro b hb hc
    rcases hmw b hb with h1 | ⟨h1, h2⟩
    · rcases hme b hc with h3 | h3
      · exact h.zz b h1 h3
      · have := hwl b h1
        omega
    · rcases hme b hc with h3 | h3
      · have := hel b h3
        omega
      · omega
  · have hnew : ∀ b, w.heap.size ≤ b → b ∉ efp → b ∉ rowsOf bk nv av ∧ b ∉ M ∧ b ∉ fpI (I ++ [⟨l, E, fp, c⟩]) ∧ b ∉ FE ++ efp := by
      intro b hb hb2
      refine ⟨fun hc => by have := hrl b hc; omega, fun hc => by have := (h.bm.mlt b hc).1; omega, fun hc => ?_, fun hc => ?_⟩
      · rw [hfI] at hc
        rcases List.mem_append.1 hc with hc | hc
        · have := hfl b hc
          omega
        · have := htl b hc
          omega
      · rcases List.mem_append.1 hc with hc | hc
        · have := (h.efar b hc).1
          omega
        · exact hb2 hc
    have hold : ∀ b, (wv.ownBlock = some b ∨ ev.ownBlock = some b) → b ∉ rowsOf bk nv av ∧ b ∉ M ∧ b ∉ fpI (I ++ [⟨l, E, fp, c⟩]) ∧ b ∉ FE ++ efp := by
      intro b hb
      have hbl : b < w.heap.size := hb.elim (hwl b) (hel b)
      obtain ⟨h1, h2, h3, h4⟩ := h.zfar b hb
      refine ⟨h1, h2, fun hc => ?_, fun hc => ?_⟩
      · rw [hfI] at hc
        rcases List.mem_append.1 hc with hc | hc
        · exact h3 hc
        · rcases hb with hb | hb
          · exact (hfar b hc).2.2.1 hb
          · exact (hfar b hc).2.2.2 hb
      · rcases List.mem_append.1 hc with hc | hc
        · exact h4 hc
        · have := (hef b hc).1
          omega
    rintro b (hb | hb)
    · rcases hmw b hb with h1 | ⟨h1, h2⟩
      · exact hold b (.inl h1)
      · exact hnew b h1 (fun hc => by have := (hef b hc).1; omega)
    · rcases hme b hb with h1 | h1
      · exact hold b (.inr h1)
      · exact hnew b (by omega) (fun hc => by have := (hef b hc).2; omega)
  · intro x hx
    rcases List.mem_append.1 hx with hx | hx
    · obtain ⟨t1, t2⟩ := h.trees x hx
      refine ⟨t1.same (fun b hb => hk.block b (t1.lt b hb) (fun hc => ?_)), t2⟩
      have hbi := mem_fpI hx hb
      rcases hS b hc with rfl | hc
      · exact (h.ffar _ hbi).1 hbr
      · exact (h.zfar b hc).2.2.1 hbi
    · simp at hx
      subst hx
      refine ⟨hT.same (fun b hb => hk.block b (htl b hb) (fun hc => ?_)), hE⟩
      rcases hS b hc with rfl | hc
      · exact (hfar _ hb).1.1 hbr
      · rcases hc with hc | hc
        · exact (hfar b hb).2.2.1 hc
        · exact (hfar b hb).2.2.2 hc
  · rw [hfI]
    refine List.nodup_append.2 ⟨h.nd, hnd, fun a ha b hb hab => ?_⟩
    subst hab
    exact (hfar a hb).2.1.1 ha
  · intro b hb
    rw [hfI] at hb
    rcases List.mem_append.1 hb with hb | hb
    · obtain ⟨h1, h2, h3⟩ := h.ffar b hb
      refine ⟨h1, h2, fun hc => ?_⟩
      rcases List.mem_append.1 hc with hc | hc
      · exact h3 hc
      · have := (hef b hc).1
        have := hfl b hb
        omega
    · obtain ⟨⟨h1, h2⟩, ⟨_, h3⟩, _⟩ := hfar b hb
      refine ⟨h1, h2, fun hc => ?_⟩
      rcases List.mem_append.1 hc with hc | hc
      · exact h3 hc
      · have := (hef b hc).1
        have := htl b hb
        omega
  · intro x hx
    rcases List.mem_append.1 hx with hx | hx
    · obtain ⟨ef0, t1, t2⟩ := h.were x hx
      refine ⟨ef0, t1.same (fun b hb => hk.block b (t1.lt b hb) (fun hc => ?_)), fun b hb => List.mem_append_left _ (t2 b hb)⟩
      rcases hS b hc with rfl | hc
      · exact (h.efar _ (t2 _ hb)).2 hbr
      · exact (h.zfar b hc).2.2.2 (t2 b hb)
    · simp at hx
      subst hx
      exact ⟨efp, hTc, fun b hb => List.mem_append_right _ hb⟩
  · intro b hb
    have hks := hk.size
    rcases List.mem_append.1 hb with hb | hb
    · exact ⟨Nat.lt_of_lt_of_le (h.efar b hb).1 hks, (h.efar b hb).2⟩
    · have := hef b hb
      refine ⟨by omega, fun hc => ?_⟩
      have := hrl b hc
      omega
  · intro b hb
    rcases hmw b hb with h1 | h1
    · exact .inl h1
    · exact .inr h1.1
  · intro b hb
    rcases hme b hb with h1 | h1
    · exact .inl h1
    · exact .inr (by omega)
  · intro b hb
    rcases List.mem_append.1 hb with hb | hb
    · exact .inl hb
    · have := (hef b hb).1
      exact .inr (by omega)
/-- The book as a whole: it lies behind w0, which is as it was; it holds no more than C lists; no more than m wait. -/
def BookL (w0 w : World) (bk C m : Nat) : Prop :=
  ∃ nv av wv ev N A M FE I, BookW w bk nv av wv ev N A M FE I ∧ (∀ b, b ∈ rowsOf bk nv av ∨ wv.ownBlock = some b ∨ ev.ownBlock = some b ∨ b ∈ fpI I → w0.heap.size ≤ b) ∧ Kept [] w0 w ∧ N.length + A.length ≤ C ∧ I.length ≤ m
theorem BookL.kept {w0 w w' : World} {bk C m : Nat} (h : BookL w0 w bk C m) (hk : Kept [] w w') : BookL w0 w' bk C m := by
  obtain ⟨nv, av, wv, ev, N, A, M, FE, I, h1, h2, h3, h4, h5⟩ := h
  exact ⟨nv, av, wv, ev, N, A, M, FE, I, h1.kept hk, h2, h3.trans hk, h4, h5⟩
theorem BookL.settled {w0 w w' : World} {bk : Nat} {nv av wv ev : Value} {N A : List Value} {M : List Nat} {I : List WItem} (hlo : ∀ b, b ∈ rowsOf bk nv av ∨ wv.ownBlock = some b ∨ ev.ownBlock = some b ∨ b ∈ fpI I → w0.heap.size ≤ b) (hk : Kept [] w0 w) (C : Nat) (hC : N.length + A.length ≤ C) (h : SPost bk nv av N A M I w w') : BookL w0 w' bk (C + I.length * 96004) 0 := by
  obtain ⟨nv', av', N', A', M', hb, hg, hk', hc⟩ := h
  have hz := hk.size
  refine ⟨nv', av', _, _, N', A', M', [], [], hb.none, fun b hb => ?_, hk.trans_new hk' (fun b hb => ?_), by omega, Nat.zero_le _⟩
  · rcases hb with hb | hb | hb | hb
    · rcases hg.1 b hb with h1 | h1
      · exact hlo b (.inl h1)
      · omega
    · cases hb
    · cases hb
    · simp [fpI] at hb
  · rcases List.mem_append.1 hb with hb | hb
    · exact .inr (hlo b (.inl hb))
    · exact .inr (hlo b (.inr (.inr (.inr hb))))
set_option maxRecDepth 100000 in
set_option maxHeartbeats 4000000 in
theorem looks_any (w0 w : World) (bk C : Nat) (h : BookL w0 w bk C 5) (hC : C ≤ 1099000000000) :
    Calls Tryz.prog 43 #[.pointer (some ⟨bk, 0, none⟩)] w fun e w' => e = .returned (.bool true) ∧ BookL w0 w' bk (C + 480020) 3 := by
  obtain ⟨nv, av, wv, ev, N, A, M, FE, I, h1, h2, h3, h4, h5⟩ := h
  have HST : Hid (∀ W, Kept [] w W → Calls Tryz.prog 15 #[.pointer (some ⟨bk, 0, none⟩)] W fun e w' => e = .returned (.bool true) ∧ BookL w0 w' bk (C + 480020) 3) := by
    intro W hW
    refine (settles_any bk nv av wv ev N A M FE I W (h1.kept hW) (by omega) (by omega)).mono ?_
    rintro e w' ⟨rfl, hp⟩
    obtain ⟨a1, a2, a3, a4, a5, a6, a7, a8, a9, b1, b2, b3, b4, b5⟩ := BookL.settled h2 (h3.trans hW) C h4 hp
    exact ⟨rfl, a1, a2, a3, a4, a5, a6, a7, a8, a9, b1, b2, b3, by omega, by omega⟩
  have HWT : Hid (∀ n, Calls Tryz.prog 44 #[.pointer (some ⟨bk, 0, none⟩)] (w.drewN n) fun e w' => e = .returned (.bool true) ∧ ∃ n', w' = (w.drewN n).drewN n') := fun n => by
    have hb := h1.kept ((Kept.refl [] w).drewN n)
    exact waits_any bk nv av wv ev (I.map WItem.v) (I.map WItem.c) _ hb.bm.place hb.wrow hb.erow (by simp) (by simp; omega) hb.same
  have HRD : Hid (∀ W, Kept [] w W → Calls Tryz.prog 47 #[.pointer (some ⟨bk, 0, none⟩)] W fun e w' => e = .returned (.bool true) ∧ Kept [] W w') := fun W hW => reads_any bk nv av wv ev N A M W (h1.kept hW).bm (by omega)
  have HBL : Hid (∀ W, Kept [] w W → I.length ≤ 3 → BookL w0 W bk (C + 480020) 3) := fun W hW hl => ⟨nv, av, wv, ev, N, A, M, FE, I, h1.kept hW, h2, h3.trans hW, by omega, hl⟩
  have hwr : w.ownsRow 0 31 1 wv I.length (I.map WItem.v) := by
    have := h1.wrow
    rwa [List.length_map] at this
  obtain ⟨wa, wc, rfl⟩ := ownsRow_form hwr
  have q3 := h1.bm.place.cell3
  obtain ⟨_, q5, _⟩ := h1.bm.place.cellT
  clear h1 h2 h3 h4 hwr
  generalize I.length = m at *
  by_cases hm : 3 < m
  · have hm' : (3 : Int) < (m : Int) := by omega
    go_enter Tryz.func43, Tryz.ntmps43
    go_wp2_with fail
    go_quiet (fail)
    go_wp2_with fail
    refine (HST.out _ ((Kept.refl [] w).drewN _)).mono ?_
    rintro e w1 ⟨rfl, hp⟩
    have HP : Hid _ := hp
    clear hp
    go_wp2_with fail
    go_ret
    exact ⟨rfl, HP.out⟩
  · have hm' : ((3 : Int) < (m : Int)) = False := by simp; omega
    go_enter Tryz.func43, Tryz.ntmps43
    go_wp2_with fail
    go_quiet (fail)
    go_wp2_with fail
    refine (HWT.out _).mono ?_
    rintro e w1 ⟨rfl, n1, hw1⟩
    have hk1 : Kept [] w w1 := by rw [hw1]; exact ((Kept.refl [] w).drewN _).drewN _
    clear hw1
    go_wp2_with fail
    refine (HRD.out w1 hk1).mono ?_
    rintro e w2 ⟨rfl, hk2⟩
    go_wp2_with fail
    go_ret
    exact ⟨rfl, HBL.out _ (hk1.trans hk2) (by omega)⟩
end Go.Proofs.YtlpmjpmefdpcmaaGreatDoor
/- A call of Parse in the book; what is known. -/
namespace Go.Proofs.YtlpmjpmefdpcmaaGreatDoor
open Go.RowKit Scrub Go.Shelf
theorem same_trees {w : World} {v1 v2 : Value} {E : List Ev} {fp1 fp2 : List Nat} (h1 : Tree w v1 E fp1) (h2 : Tree w v2 E fp2) (hb : evBulk E ≤ 12000) :
    Calls Tryz.prog 29 #[v1, v2] w fun e w' => e = .returned (.bool true) ∧ ∃ n, w' = w.drewN n := by
  obtain ⟨d1, f1, l1, e1, n1⟩ := h1.told
  obtain ⟨d2, f2, l2, e2, n2⟩ := h2.told
  refine (rSm_any d1 d2 f1 f2 _ _ w l1 l2 (by rw [bulkF_ev d1 f1 n1, e1]; omega)).mono ?_
  rintro e w'' ⟨r, rfl, hr, hn⟩
  have : r = true := hr.2 (sameF_of n1 n2 (by rw [e1, e2]))
  subst this
  exact ⟨rfl, hn⟩
theorem parse_bulk (s : List UInt8) : evBulk (parseP s) ≤ 12000 := by
  unfold parseP
  split
  · simp [evBulk]
  · have := readP_bulk s
    omega
/-- A list that came out, beside the book. -/
def Beside (w0 w : World) (bk : Nat) (nv av wv ev : Value) (M FE : List Nat) (I : List WItem) (v : Value) (E : List Ev) (fp : List Nat) : Prop :=
  (Tree w v E fp ∧ fp.Nodup ∧ evBulk E ≤ 12000) ∧ ∀ b ∈ fp, w0.heap.size ≤ b ∧ FarB bk nv av wv ev M FE I b
def Held2 (w0 w : World) (bk C m : Nat) (v1 v2 : Value) (E : List Ev) : Prop :=
  ∃ nv av wv ev N A M FE I fp1 fp2, BookW w bk nv av wv ev N A M FE I ∧ (∀ b, b ∈ rowsOf bk nv av ∨ wv.ownBlock = some b ∨ ev.ownBlock = some b ∨ b ∈ fpI I → w0.heap.size ≤ b) ∧ Kept [] w0 w ∧ (N.length + A.length ≤ C ∧ I.length ≤ m) ∧
    Beside w0 w bk nv av wv ev M FE I v1 E fp1 ∧ Beside w0 w bk nv av wv ev M FE I v2 E fp2 ∧ ∀ b ∈ fp1, b ∉ fp2
def Held1 (w0 w : World) (bk C m : Nat) (v : Value) (E : List Ev) : Prop :=
  ∃ nv av wv ev N A M FE I fp, BookW w bk nv av wv ev N A M FE I ∧ (∀ b, b ∈ rowsOf bk nv av ∨ wv.ownBlock = some b ∨ ev.ownBlock = some b ∨ b ∈ fpI I → w0.heap.size ≤ b) ∧ Kept [] w0 w ∧ (N.length + A.length ≤ C ∧ I.length ≤ m) ∧
    Beside w0 w bk nv av wv ev M FE I v E fp
theorem kept_book {w0 w w' : World} {bk : Nat} {nv av wv ev : Value} {I : List WItem} (hlo : ∀ b, b ∈ rowsOf bk nv av ∨ wv.ownBlock = some b ∨ ev.ownBlock = some b ∨ b ∈ fpI I → w0.heap.size ≤ b) (hk : Kept [] w0 w) (hk' : Kept (bk :: (wv.ownBlock.toList ++ ev.ownBlock.toList)) w w') : Kept [] w0 w' := by
  refine hk.trans_new hk' (fun b hb => .inr ?_)
  rcases List.mem_cons.1 hb with rfl | hb
  · exact hlo _ (.inl (mem_rows.2 (.inl rfl)))
  · rcases List.mem_append.1 hb with hb | hb
    · exact hlo b (.inr (.inl (Option.mem_toList.1 hb)))
    · exact hlo b (.inr (.inr (.inl (Option.mem_toList.1 hb))))
theorem keep_two (w0 w : World) (bk C m : Nat) (v1 v2 : Value) (E : List Ev) (h : Held2 w0 w bk C m v1 v2 E) (hm : m ≤ 1000) :
    Calls Tryz.prog 30 #[.pointer (some ⟨bk, 0, none⟩), v1] w fun e w' => e = .returned (.tuple #[]) ∧ Held1 w0 w' bk C (m + 1) v2 E := by
  obtain ⟨nv, av, wv, ev, N, A, M, FE, I, fp1, fp2, hB, hlo, hk, ⟨hC, hI⟩, ⟨⟨t1, n1, b1⟩, f1⟩, ⟨⟨t2, n2, b2⟩, f2⟩, hd⟩ := h
  refine (keep_any bk nv av wv ev v1 N A M FE I E fp1 w hB (by omega) t1 n1 b1 (fun b hb => (f1 b hb).2)).mono ?_
  rintro e w' ⟨rfl, wv', ev', FE', c, hB', hk', hw', he', hF'⟩
  have hz := hk.size
  have t2l := t2.lt
  have t1l := t1.lt
  refine ⟨rfl, nv, av, wv', ev', N, A, M, FE', I ++ [⟨v1, E, fp1, c⟩], fp2, hB', ?_, kept_book hlo hk hk', ⟨hC, by simp; omega⟩, ⟨⟨t2.same (fun b hb => hk'.block b (t2l b hb) (fun hc => ?_)), n2, b2⟩, fun b hb => ?_⟩⟩
  · intro b hb
    rcases hb with hb | hb | hb | hb
    · exact hlo b (.inl hb)
    · rcases hw' b hb with h1 | h1
      · exact hlo b (.inr (.inl h1))
      · omega
    · rcases he' b hb with h1 | h1
      · exact hlo b (.inr (.inr (.inl h1)))
      · omega
    · have e : fpI (I ++ [⟨v1, E, fp1, c⟩]) = fpI I ++ fp1 := by simp [fpI]
      rw [e] at hb
      rcases List.mem_append.1 hb with hb | hb
      · exact hlo b (.inr (.inr (.inr hb)))
      · exact (f1 b hb).1
  · obtain ⟨⟨g1, _⟩, _, g2, g3⟩ := (f2 b hb).2
    rcases List.mem_cons.1 hc with rfl | hc
    · exact g1 (mem_rows.2 (.inl rfl))
    · rcases List.mem_append.1 hc with hc | hc
      · exact g2 (Option.mem_toList.1 hc)
      · exact g3 (Option.mem_toList.1 hc)
  · obtain ⟨⟨g1, g2⟩, ⟨g3, g4⟩, g5, g6⟩ := (f2 b hb).2
    have hbl := t2l b hb
    refine ⟨(f2 b hb).1, ⟨g1, g2⟩, ⟨fun hc => ?_, fun hc => ?_⟩, fun hc => ?_, fun hc => ?_⟩
    · have e : fpI (I ++ [⟨v1, E, fp1, c⟩]) = fpI I ++ fp1 := by simp [fpI]
      rw [e] at hc
      rcases List.mem_append.1 hc with hc | hc
      · exact g3 hc
      · exact hd b hc hb
    · rcases hF' b hc with h1 | h1
      · exact g4 h1
      · omega
    · rcases hw' b hc with h1 | h1
      · exact g5 h1
      · omega
    · rcases he' b hc with h1 | h1
      · exact g6 h1
      · omega
theorem keep_one (w0 w : World) (bk C m : Nat) (v : Value) (E : List Ev) (h : Held1 w0 w bk C m v E) (hm : m ≤ 1000) :
    Calls Tryz.prog 30 #[.pointer (some ⟨bk, 0, none⟩), v] w fun e w' => e = .returned (.tuple #[]) ∧ BookL w0 w' bk C (m + 1) := by
  obtain ⟨nv, av, wv, ev, N, A, M, FE, I, fp1, hB, hlo, hk, ⟨hC, hI⟩, ⟨⟨t1, n1, b1⟩, f1⟩⟩ := h
  refine (keep_any bk nv av wv ev v N A M FE I E fp1 w hB (by omega) t1 n1 b1 (fun b hb => (f1 b hb).2)).mono ?_
  rintro e w' ⟨rfl, wv', ev', FE', c, hB', hk', hw', he', hF'⟩
  have hz := hk.size
  refine ⟨rfl, nv, av, wv', ev', N, A, M, FE', I ++ [⟨v, E, fp1, c⟩], hB', ?_, kept_book hlo hk hk', hC, by simp; omega⟩
  intro b hb
  rcases hb with hb | hb | hb | hb
  · exact hlo b (.inl hb)
  · rcases hw' b hb with h1 | h1
    · exact hlo b (.inr (.inl h1))
    · omega
  · rcases he' b hb with h1 | h1
    · exact hlo b (.inr (.inr (.inl h1)))
    · omega
  · have e : fpI (I ++ [⟨v, E, fp1, c⟩]) = fpI I ++ fp1 := by simp [fpI]
    rw [e] at hb
    rcases List.mem_append.1 hb with hb | hb
    · exact hlo b (.inr (.inr (.inr hb)))
    · exact (f1 b hb).1
/-- Two lists that came out one after the other. -/
theorem held_two {w0 wx w1 w2 w : World} {bk C m : Nat} {v1 v2 : Value} {E : List Ev} (h : BookL w0 wx bk C m) (h1 : NewTree wx w1 v1 E) (h2 : NewTree w1 w2 v2 E) (hk : Kept [] w2 w) (hE : evBulk E ≤ 12000) : Held2 w0 w bk C m v1 v2 E := by
  obtain ⟨nv, av, wv, ev, N, A, M, FE, I, hB, hlo, hk0, hC, hI⟩ := h
  obtain ⟨fp1, t1, n1, b1, k1⟩ := h1
  obtain ⟨fp2, t2, n2, b2, k2⟩ := h2
  have hz0 := hk0.size
  have hz1 := k1.size
  have hz2 := k2.size
  have hfar : ∀ b, wx.heap.size ≤ b → w0.heap.size ≤ b ∧ FarB bk nv av wv ev M FE I b := by
    intro b hb
    refine ⟨by omega, ⟨fun hc => ?_, fun hc => ?_⟩, ⟨fun hc => ?_, fun hc => ?_⟩, fun hc => ?_, fun hc => ?_⟩
    · have := rows_lt hB.bm b hc
      omega
    · have := (hB.bm.mlt b hc).1
      omega
    · have := fpI_lt hB.trees b hc
      omega
    · have := (hB.efar b hc).1
      omega
    · have := own_lt hB.wrow hc
      omega
    · have := own_lt hB.erow hc
      omega
  refine ⟨nv, av, wv, ev, N, A, M, FE, I, fp1, fp2, hB.kept (k1.trans (k2.trans hk)), hlo, hk0.trans (k1.trans (k2.trans hk)), ⟨hC, hI⟩, ⟨⟨t1.same (fun b hb => (k2.trans hk).block b (b1 b hb).2 (by simp)), n1, hE⟩, fun b hb => hfar b (b1 b hb).1⟩, ⟨⟨t2.same (fun b hb => hk.block b (b2 b hb).2 (by simp)), n2, hE⟩, fun b hb => hfar b (by have := (b2 b hb).1; omega)⟩, fun b hb hc => ?_⟩
  have := (b1 b hb).2
  have := (b2 b hc).1
  omega
set_option maxRecDepth 100000 in
set_option maxHeartbeats 2000000 in
theorem one_parse (w0 w : World) (bk C : Nat) (s : List UInt8) (h : BookL w0 w bk C 3) (hC : C ≤ 1099000000000) (hg : Glob w) :
    Calls Tryz.prog 14 #[.pointer (some ⟨bk, 0, none⟩), .agg #[.int .i64 1, .string ⟨s.toArray⟩, .slice none 0 0, .slice none 0 0, .slice none 0 0, .slice none 0 0]] w fun e w' => e = .returned (.bool true) ∧ BookL w0 w' bk (C + 480020) 3 := by
  have hkx : Kept [] w (w.alloc (.cells #[.int .i64 1, .string ⟨s.toArray⟩, .slice none 0 0, .slice none 0 0, .slice none 0 0, .slice none 0 0] 35)) := (Kept.refl _ _).alloc _
  have HBX : Hid (∀ W, Kept [] (w.alloc (.cells #[.int .i64 1, .string ⟨s.toArray⟩, .slice none 0 0, .slice none 0 0, .slice none 0 0, .slice none 0 0] 35)) W → W.cell? ⟨w.heap.size, 1, none⟩ = some (.string ⟨s.toArray⟩)) := by
    intro W hW
    have hb := (hW.block w.heap.size (by simp) (by simp)).trans (heap_alloc_new w (.cells #[.int .i64 1, .string ⟨s.toArray⟩, .slice none 0 0, .slice none 0 0, .slice none 0 0, .slice none 0 0] 35))
    simp [World.cell?, hb]
  have HPA : Hid (∀ W, Kept [] w W → Calls Tryz.prog 23 #[.string ⟨s.toArray⟩] W fun e w' => ∃ v, e = .returned (.tuple #[v, .int .i64 (parseE s)]) ∧ NewTree W w' v (parseP s)) := fun W hW => parse_any s W (hg.kept hW (by simp) (by simp))
  have HPR : Hid (∀ W, Calls Tryz.prog 28 #[.string ⟨s.toArray⟩] W fun e w' => ∃ v, e = .returned (.tuple #[v, .int .i64 (parseE s)]) ∧ NewTree W w' v (parseP s)) := fun W => rParse_any s W
  have HBL : Hid (BookL w0 w bk C 3) := h
  have HPB : Hid (evBulk (parseP s) ≤ 12000) := parse_bulk s
  have HKX : Hid _ := hkx
  clear h hg hkx
  generalize parseP s = E at *
  generalize parseE s = code at *
  go_enter Tryz.func14, Tryz.ntmps14
  go_wp2_with fail
  refine (HPA.out _ HKX.out).mono ?_
  rintro e w1 ⟨v1, rfl, hn1⟩
  have HN1 : Hid (NewTree _ w1 v1 E) := hn1
  have hk1 := hn1.kept
  have p1 := HBX.out w1 hk1
  clear hn1
  go_wp2_with fail
  refine (HPA.out w1 (HKX.out.trans hk1)).mono ?_
  rintro e w2 ⟨v2, rfl, hn2⟩
  have HN2 : Hid (NewTree w1 w2 v2 E) := hn2
  have hk2 := hn2.kept
  have p2 := HBX.out w2 (hk1.trans hk2)
  clear hn2 p1
  go_wp2_with fail
  refine (HPR.out w2).mono ?_
  rintro e w3 ⟨v3, rfl, hn3⟩
  have hk3 := hn3.kept
  have HT : Hid (∀ W, Kept [] w3 W → Calls Tryz.prog 29 #[v1, v3] W (fun e w' => e = .returned (.bool true) ∧ ∃ n, w' = W.drewN n) ∧ Calls Tryz.prog 29 #[v2, v3] W (fun e w' => e = .returned (.bool true) ∧ ∃ n, w' = W.drewN n)) := by
    intro W hW
    obtain ⟨fp1, t1, _, b1, _⟩ := HN1.out
    obtain ⟨fp2, t2, _, b2, _⟩ := HN2.out
    obtain ⟨fp3, t3, _, b3, _⟩ := hn3
    have t1' := t1.same (fun b hb => (hk2.trans (hk3.trans hW)).block b (b1 b hb).2 (by simp))
    have t2' := t2.same (fun b hb => (hk3.trans hW).block b (b2 b hb).2 (by simp))
    have t3' := t3.same (fun b hb => hW.block b (b3 b hb).2 (by simp))
    exact ⟨same_trees t1' t3' HPB.out, same_trees t2' t3' HPB.out⟩
  have HH2 : Hid (∀ W, Kept [] w3 W → Held2 w0 W bk C 3 v1 v2 E) := fun W hW => held_two (HBL.out.kept HKX.out) HN1.out HN2.out (hk3.trans hW) HPB.out
  obtain ⟨a1, m1, c1, hv1⟩ : ∃ a n c, v1 = .slice a n c := by
    obtain ⟨fp1, t1, _⟩ := HN1.out
    exact t1.form
  obtain ⟨a2, m2, c2, hv2⟩ : ∃ a n c, v2 = .slice a n c := by
    obtain ⟨fp2, t2, _⟩ := HN2.out
    exact t2.form
  obtain ⟨a3, m3, c3, hv3⟩ : ∃ a n c, v3 = .slice a n c := by
    obtain ⟨fp3, t3, _⟩ := hn3
    exact t3.form
  subst hv1 hv2 hv3
  clear hn3 p2
  go_wp2_with fail
  refine ((HT.out w3 (Kept.refl _ _)).1).mono ?_
  rintro e w4 ⟨rfl, n4, hw4⟩
  have hk4 : Kept [] w3 w4 := by rw [hw4]; exact (Kept.refl [] w3).drewN n4
  clear hw4
  go_wp2_with fail
  refine ((HT.out w4 hk4).2).mono ?_
  rintro e w5 ⟨rfl, n5, hw5⟩
  have hk5 : Kept [] w3 w5 := by rw [hw5]; exact hk4.drewN n5
  have HK1 : Hid (Calls _ _ _ _ _) := keep_two w0 w5 bk C 3 _ _ E (HH2.out w5 hk5) (by omega)
  clear hw5
  go_wp2_with fail
  refine Calls.mono HK1.out ?_
  rintro e w6 ⟨rfl, hh6⟩
  have HK2 : Hid (Calls _ _ _ _ _) := keep_one w0 w6 bk C 4 _ E hh6 (by omega)
  clear hh6
  go_wp2_with fail
  refine Calls.mono HK2.out ?_
  rintro e w7 ⟨rfl, hb7⟩
  have HLK : Hid (Calls _ _ _ _ _) := looks_any w0 w7 bk C hb7 hC
  clear hb7
  go_wp2_with fail
  refine (rNum code w7).mono ?_
  rintro e w8 ⟨rfl, rfl⟩
  go_wp2_with fail
  refine (rNum code _).mono ?_
  rintro e w9 ⟨rfl, rfl⟩
  go_wp2_with fail
  refine Calls.mono HLK.out ?_
  rintro e w10 ⟨rfl, hb10⟩
  have HB10 : Hid _ := hb10
  clear hb10
  go_wp2_with fail
  go_ret
  exact ⟨rfl, HB10.out⟩
end Go.Proofs.YtlpmjpmefdpcmaaGreatDoor
/- Parses. -/
namespace Go.Proofs.YtlpmjpmefdpcmaaGreatDoor
open Go.RowKit Scrub Go.Shelf
/-- What the document's first example is read as. -/
def kC : GN 0 := (([] : List UInt8), ([] : List (List UInt8 × List UInt8)), (), ([99] : List UInt8))
def kA : GN 1 := (([] : List UInt8), ([] : List (List UInt8 × List UInt8)), (([] : List (GN 0)) : GF 1), ([97] : List UInt8))
def kB : GN 1 := (([98] : List UInt8), ([] : List (List UInt8 × List UInt8)), (([kC] : List (GN 0)) : GF 1), ([] : List UInt8))
def kP : GN 2 := (([112] : List UInt8), ([] : List (List UInt8 × List UInt8)), (([kA, kB] : List (GN 1)) : GF 2), ([] : List UInt8))
def kD : GN 2 := (([] : List UInt8), ([] : List (List UInt8 × List UInt8)), (([] : List (GN 1)) : GF 2), ([100] : List UInt8))
def knownF : GF 3 := ([kP, kD] : List (GN 2))
theorem knownF_ev : evF 3 knownF = [evOpen [112] [], evText [97], evOpen [98] [], evText [99], none, none, evText [100]] := by rfl
theorem nice_text {d : Nat} {n : GN d} (h1 : n.1 = []) (h2 : n.2.2.2 ≠ []) (h3 : n.2.1 = []) (h4 : glen d n.2.2.1 = 0) (h5 : niceF d n.2.2.1) : niceN (niceF d) n := ⟨fun _ => ⟨h2, h3, h4⟩, fun h => absurd h1 h, h5⟩
theorem nice_elem {d : Nat} {n : GN d} (h1 : n.1 ≠ []) (h2 : n.2.2.2 = []) (h5 : niceF d n.2.2.1) : niceN (niceF d) n := ⟨fun h => absurd h h1, fun _ => h2, h5⟩
theorem nice_two {d : Nat} {a b : GN d} (ha : niceN (niceF d) a) (hb : niceN (niceF d) b) : niceF (d + 1) ([a, b] : List (GN d)) := by
  intro n hn
  have hn' : n ∈ [a, b] := hn
  rcases List.mem_cons.1 hn' with rfl | hn'
  · exact ha
  · rcases List.mem_cons.1 hn' with rfl | hn'
    · exact hb
    · simp at hn'
theorem nice_one {d : Nat} {a : GN d} (ha : niceN (niceF d) a) : niceF (d + 1) ([a] : List (GN d)) := by
  intro n hn
  have hn' : n ∈ [a] := hn
  rcases List.mem_cons.1 hn' with rfl | hn'
  · exact ha
  · simp at hn'
theorem nice_nil (d : Nat) : niceF (d + 1) ([] : List (GN d)) := by
  intro n hn
  have hn' : n ∈ ([] : List (GN d)) := hn
  simp at hn'
theorem knownF_nice : niceF 3 knownF :=
  nice_two (nice_elem (by simp [kP]) rfl (nice_two (nice_text rfl (by simp [kA]) rfl rfl (nice_nil 0)) (nice_elem (by simp [kB]) rfl (nice_one (nice_text rfl (by simp [kC]) rfl rfl trivial))))) (nice_text rfl (by simp [kD]) rfl rfl (nice_nil 1))
theorem known_cells {w : World} {v : Value} {fp : List Nat} (h : Tree w v [evOpen [112] [], evText [97], evOpen [98] [], evText [99], none, none, evText [100]] fp) :
    ∃ g o c h' q c', v = .slice (some ⟨g, o, none⟩) 2 c ∧ w.cell? ⟨g, o, none⟩ = some (.string ⟨#[112]⟩) ∧ w.cell? ⟨g, o + 2, none⟩ = some (.slice (some ⟨h', q, none⟩) 2 c') ∧ w.cell? ⟨g, o + 4 + 3, none⟩ = some (.string ⟨#[100]⟩) ∧ w.cell? ⟨h', q + 3, none⟩ = some (.string ⟨#[97]⟩) ∧ w.cell? ⟨h', q + 4, none⟩ = some (.string ⟨#[98]⟩) := by
  obtain ⟨d, f, hL, he, hn⟩ := h.told
  have hs : SameF d 3 f knownF := sameF_of hn knownF_nice (by rw [he, knownF_ev])
  cases d with
  | zero => exact absurd hs (by show ¬ glen 3 knownF = 0; decide)
  | succ d =>
    have hs' : SameL d 2 (SameF d 2) (gnodes d f) (gnodes 2 knownF) := hs
    have hlen : (gnodes d f).length = 2 := hs'.len
    obtain ⟨a, c, hv, hc⟩ := hL
    obtain ⟨g, o, ea, av0, kv0, c0, _, c2, _, _, hK⟩ := hc 0 (by omega)
    obtain ⟨g1, o1, ea1, av1, kv1, _, _, _, d3, _, _⟩ := hc 1 (by omega)
    rw [ea] at ea1
    injection ea1 with ea1
    injection ea1 with e1 e2
    subst e1 e2
    obtain ⟨s1, _, _, s4⟩ := hs'.get 0 (by omega) (by decide)
    obtain ⟨_, _, t3, _⟩ := hs'.get 1 (by omega) (by decide)
    have s4' : SameF d 2 ((gnodes d f)[0]).2.2.1 kP.2.2.1 := s4
    cases d with
    | zero => exact absurd s4' (by show ¬ glen 2 kP.2.2.1 = 0; decide)
    | succ d =>
      have k' : SameL d 1 (SameF d 1) (gnodes d ((gnodes (d + 1) f)[0]).2.2.1) (gnodes 1 kP.2.2.1) := s4'
      have klen : (gnodes d ((gnodes (d + 1) f)[0]).2.2.1).length = 2 := k'.len
      obtain ⟨ka, kc, hkv, hkc⟩ := hK
      obtain ⟨h0, q0, eb, _, _, _, _, _, x3, _, _⟩ := hkc 0 (by omega)
      obtain ⟨h1, q1, eb1, _, _, y0, _⟩ := hkc 1 (by omega)
      rw [eb] at eb1
      injection eb1 with eb1
      injection eb1 with e1 e2
      subst e1 e2
      obtain ⟨_, _, u3, _⟩ := k'.get 0 (by omega) (by decide)
      obtain ⟨v1, _, _, _⟩ := k'.get 1 (by omega) (by decide)
      refine ⟨g, o, c, h0, q0, kc, by rw [hv, hlen, ea], ?_, ?_, ?_, ?_, ?_⟩
      · have s1' : _ = ([112] : List UInt8) := s1
        rw [s1'] at c0
        simpa using c0
      · rw [hkv, klen, eb] at c2
        simpa using c2
      · have t3' : _ = ([100] : List UInt8) := t3
        rw [t3'] at d3
        simpa [Nat.add_assoc] using d3
      · have u3' : _ = ([97] : List UInt8) := u3
        rw [u3'] at x3
        simpa using x3
      · have v1' : _ = ([98] : List UInt8) := v1
        rw [v1'] at y0
        simpa using y0
set_option maxRecDepth 100000 in
set_option maxHeartbeats 1000000 in
theorem known_any (w : World) (hg : Glob w) : Calls Tryz.prog 13 #[] w fun e w' => e = .returned (.bool true) ∧ Kept [] w w' := by
  have HP : Hid (Calls Tryz.prog 23 #[.string ⟨#[60, 80, 62, 97, 60, 98, 62, 99, 60, 47, 112, 62, 100]⟩] w fun e w' => ∃ g o c h' q c', e = .returned (.tuple #[.slice (some ⟨g, o, none⟩) 2 c, .int .i64 0]) ∧ (w'.cell? ⟨g, o, none⟩ = some (.string ⟨#[112]⟩) ∧ w'.cell? ⟨g, o + 2, none⟩ = some (.slice (some ⟨h', q, none⟩) 2 c') ∧ w'.cell? ⟨g, o + 4 + 3, none⟩ = some (.string ⟨#[100]⟩) ∧ w'.cell? ⟨h', q + 3, none⟩ = some (.string ⟨#[97]⟩) ∧ w'.cell? ⟨h', q + 4, none⟩ = some (.string ⟨#[98]⟩)) ∧ Kept [] w w') := by
    refine (parse_any [60, 80, 62, 97, 60, 98, 62, 99, 60, 47, 112, 62, 100] w hg).mono ?_
    rintro e w' ⟨v, rfl, hn⟩
    have hp : parseP [60, 80, 62, 97, 60, 98, 62, 99, 60, 47, 112, 62, 100] = [evOpen [112] [], evText [97], evOpen [98] [], evText [99], none, none, evText [100]] := by
      unfold parseP
      rw [if_neg (by decide)]
      exact known_read
    rw [hp] at hn
    have hk := hn.kept
    obtain ⟨fp, ht, _⟩ := hn
    obtain ⟨g, o, c, h', q, c', rfl, r1, r2, r3, r4, r5⟩ := known_cells ht
    exact ⟨g, o, c, h', q, c', rfl, ⟨r1, r2, r3, r4, r5⟩, hk⟩
  clear hg
  go_enter Tryz.func13, Tryz.ntmps13
  go_wp2_with fail
  refine HP.out.mono ?_
  rintro e w1 ⟨g, o, c, h', q, c', rfl, ⟨r1, r2, r3, r4, r5⟩, hk1⟩
  go_wp2_with fail
  go_ret
  exact ⟨rfl, hk1⟩
/-- A book in which nothing stands, new. -/
def bookE : Obj := .cells #[.slice none 0 0, .slice none 0 0, .slice none 0 0, .slice none 0 0, .slice none 0 0, .slice none 0 0, .slice none 0 0] 28
theorem book_new (w W : World) (hk : Kept [] (w.alloc bookE) W) : BookL w W w.heap.size 0 3 := by
  have hat : BookAt W w.heap.size (.slice none 0 0) (.slice none 0 0) (.slice none 0 0) (.slice none 0 0) := (hk.block w.heap.size (by simp) (by simp)).trans (heap_alloc_new w bookE)
  have hm : BookM W w.heap.size (.slice none 0 0) (.slice none 0 0) (.slice none 0 0) (.slice none 0 0) [] [] [] :=
    ⟨hat, World.ownsRow_nil _ _ _ _, World.ownsRow_nil _ _ _ _, by simp [rowsOf, Value.ownBlock], rfl, rfl, by simp, by simp, by simp, by simp⟩
  refine ⟨_, _, _, _, [], [], [], [], [], hm.none, fun b hb => ?_, ((Kept.refl [] w).alloc _).trans hk, Nat.le_refl _, Nat.zero_le _⟩
  rcases hb with hb | hb | hb | hb
  · rcases mem_rows.1 hb with rfl | hb | hb
    · exact Nat.le_refl _
    · cases hb
    · cases hb
  · cases hb
  · cases hb
  · simp [fpI] at hb
theorem BookL.done {w0 w : World} {bk C : Nat} (h : BookL w0 w bk C 3) (hC : C ≤ 1099000000000) : Calls Tryz.prog 15 #[.pointer (some ⟨bk, 0, none⟩)] w fun e w' => e = .returned (.bool true) ∧ Kept [] w0 w' := by
  obtain ⟨nv, av, wv, ev, N, A, M, FE, I, h1, h2, h3, h4, h5⟩ := h
  refine (settles_any bk nv av wv ev N A M FE I w h1 (by omega) (by omega)).mono ?_
  rintro e w' ⟨rfl, hp⟩
  obtain ⟨_, _, _, _, _, _, _, _, _, _, _, b3, _⟩ := BookL.settled h2 h3 C h4 hp
  exact ⟨rfl, b3⟩
theorem BookL.old {w0 w : World} {bk C m : Nat} (h : BookL w0 w bk C m) : Kept [] w0 w := by
  obtain ⟨_, _, _, _, _, _, _, _, _, _, _, h3, _⟩ := h
  exact h3
set_option maxRecDepth 100000 in
set_option maxHeartbeats 1000000 in
theorem parses_any (v : Value) (es : List (List UInt8)) (w : World) (h : StrsAt w v es) (hl : es.length ≤ 1048576) (hg : Glob w) :
    Calls Tryz.prog 3 #[v] w fun e w' => e = .returned (.bool true) ∧ Kept [] w w' := by
  obtain ⟨a, c, rfl, hc⟩ := h
  have HC : Hid (∀ (i : Nat) (s : List UInt8), es[i]? = some s → ∃ g o, a = some ⟨g, o, none⟩ ∧ w.cell? ⟨g, o + i, none⟩ = some (.string ⟨s.toArray⟩)) := by
    intro i s hs
    obtain ⟨hi, he⟩ := List.getElem?_eq_some_iff.1 hs
    have := hc i hi
    rwa [he] at this
  have HG : Hid (∀ W, Kept [] w W → Glob W) := fun W hW => hg.kept hW (by simp) (by simp)
  have HKN : Hid (Calls _ _ _ _ _) := known_any (w.alloc bookE) (HG.out _ ((Kept.refl [] w).alloc _))
  have HNEW : Hid _ := book_new w
  clear hc hg
  generalize hln : es.length = ln at *
  have HLN : Hid (es.length = ln) := hln
  clear hln
  go_enter Tryz.func3, Tryz.ntmps3
  go_wp2_with fail
  refine Calls.mono HKN.out ?_
  rintro e w1 ⟨rfl, hk1⟩
  have HB1 : Hid (BookL w w1 w.heap.size 0 3) := HNEW.out w1 hk1
  clear hk1 HKN HNEW
  go_wp2_with fail
  go_loopg [5] ln (fun g x wr => ∃ k : Nat, k ≤ ln ∧ g = ln - k ∧ x = .int .i64 (k : Int) ∧ BookL w wr w.heap.size (k * 480020) 3)
  case atStart => exact ⟨0, by omega, rfl, rfl, by simpa using HB1.out⟩
  case round =>
    obtain ⟨k, hks, hgk, rfl, hb⟩ := hrel
    have HGK : Hid _ := hgk
    have HB : Hid (BookL w wr w.heap.size (k * 480020) 3) := hb
    have hkw := hb.old
    clear hgk hb
    have hge : (0 : Int) ≤ (k : Int) := by omega
    by_cases hlt : k < ln
    · have hlt' : (k : Int) < (ln : Int) := by omega
      obtain ⟨s, hs⟩ : ∃ s, es[k]? = some s := ⟨_, List.getElem?_eq_getElem (by rw [HLN.out]; exact hlt)⟩
      obtain ⟨g, o, rfl, c0⟩ := HC.out k s hs
      have c1 := cell_kept hkw c0
      have HONE : Hid (Calls _ _ _ _ _) := one_parse w wr w.heap.size (k * 480020) s HB.out (by omega) (HG.out wr hkw)
      clear c0
      go_wp2_with fail
      refine Calls.mono HONE.out ?_
      rintro e w2 ⟨rfl, hb2⟩
      have HB2 : Hid _ := hb2
      clear hb2
      go_wp2_with fail
      go_roundg (ln - (k + 1))
      case measure => rw [HGK.out]; omega
      case rel => exact ⟨k + 1, by omega, rfl, by first | rfl | congr 1, by have := HB2.out; rwa [show k * 480020 + 480020 = (k + 1) * 480020 by omega] at this⟩
    · have hlt' : ((k : Int) < (ln : Int)) = False := by simp; omega
      have HDN : Hid (Calls _ _ _ _ _) := HB.out.done (by omega)
      go_wp2_with fail
      refine Calls.mono HDN.out ?_
      rintro e w2 ⟨rfl, hk2⟩
      go_wp2_with fail
      go_ret
      exact ⟨rfl, hk2⟩
end Go.Proofs.YtlpmjpmefdpcmaaGreatDoor
