import Derived.Test.YtlpmjpmefdpcmaaGreatDoorQUc
/- The book marks a list of attributes. -/
namespace Go.Proofs.YtlpmjpmefdpcmaaGreatDoor
open Go.RowKit Scrub Go.Shelf
theorem infoAs : (Tryz.prog.info? 40).map (fun i => (i.zero, i.size, i.bytes)) = some (some (.slice none 0 0), 1, 24) := by kernel_rfl
theorem infoNs : (Tryz.prog.info? 31).map (fun i => (i.zero, i.size, i.bytes)) = some (some (.slice none 0 0), 1, 24) := by kernel_rfl
/-- What marking leaves. -/
def MPost (bk : Nat) (nv av wv ev : Value) (N A : List Value) (M X S : List Nat) (c : Nat) (w w' : World) : Prop :=
  ∃ nv' av' N' A' M', BookM w' bk nv' av' wv ev N' A' M' ∧ Grew bk nv av M X w nv' av' M' ∧ Kept S w w' ∧ N'.length + A'.length ≤ N.length + A.length + c
/-- The first k are marked. -/
theorem mark_set2 {w : World} {g n c k : Nat} {es : List Value} {xs : List Value} {u0 u1 : Value} (hes : es = [u0, u1]) (h : w.ownsRow 0 63 2 (.slice (some ⟨g, 0, none⟩) n c) n (again k es ++ xs.drop (k * 2))) (hx : xs.length = n * 2) (hk : k < n) :
    ((w.setCell ⟨g, k * 2, none⟩ u0).setCell ⟨g, k * 2 + 1, none⟩ u1).ownsRow 0 63 2 (.slice (some ⟨g, 0, none⟩) n c) n (again (k + 1) es ++ xs.drop ((k + 1) * 2)) := by
  have hl : (again k es).length = k * 2 := by rw [again_len, hes]; rfl
  have hd : xs.drop (k * 2) = xs[k * 2]'(by omega) :: xs[k * 2 + 1]'(by omega) :: xs.drop ((k + 1) * 2) := by
    rw [List.drop_eq_getElem_cons (by omega), List.drop_eq_getElem_cons (by omega)]
    congr 3
    omega
  have h1 := own_setCell h (k * 2) (by rw [List.length_append, hl, List.length_drop]; omega) u0
  have h2 := own_setCell h1 (k * 2 + 1) (by rw [List.length_set, List.length_append, hl, List.length_drop]; omega) u1
  rw [hd] at h2
  have e : (((again k es ++ xs[k * 2]'(by omega) :: xs[k * 2 + 1]'(by omega) :: xs.drop ((k + 1) * 2)).set (k * 2) u0).set (k * 2 + 1) u1) = again (k + 1) es ++ xs.drop ((k + 1) * 2) := by
    rw [List.set_append_right _ _ (by omega), hl, Nat.sub_self, List.set_cons_zero, List.set_append_right _ _ (by omega), hl, show k * 2 + 1 - k * 2 = 1 by omega, List.set_cons_succ, List.set_cons_zero, ← again_add, List.append_assoc]
    rw [hes]
    rfl
  rw [e] at h2
  exact h2
theorem again_one (es : List Value) : again 1 es = es := by simp [again]
theorem news1 (w : World) (u0 u1 : Value) (t : TypeId) : ∀ j u, (again 1 [u0, u1])[j]? = some u → (w.alloc (.cells #[u0, u1] t)).cell? ((⟨w.heap.size, 0, none⟩ : Addr).add j) = some u := new_cells w (again 1 [u0, u1]) t
theorem news2 (w : World) (u0 u1 : Value) (t : TypeId) : ∀ j u, (again 2 [u0, u1])[j]? = some u → (w.alloc (.cells #[u0, u1, u0, u1] t)).cell? ((⟨w.heap.size, 0, none⟩ : Addr).add j) = some u := new_cells w (again 2 [u0, u1]) t
theorem news3 (w : World) (u0 u1 : Value) (t : TypeId) : ∀ j u, (again 3 [u0, u1])[j]? = some u → (w.alloc (.cells #[u0, u1, u0, u1, u0, u1] t)).cell? ((⟨w.heap.size, 0, none⟩ : Addr).add j) = some u := new_cells w (again 3 [u0, u1]) t
theorem BookAt.setA {w : World} {bk : Nat} {nv av wv ev : Value} (h : BookAt w bk nv av wv ev) (u : Value) : BookAt (w.setCell ⟨bk, 1, none⟩ u) bk nv u wv ev := block_set h 1 u
theorem BookAt.setN {w : World} {bk : Nat} {nv av wv ev : Value} (h : BookAt w bk nv av wv ev) (u : Value) : BookAt (w.setCell ⟨bk, 0, none⟩ u) bk u av wv ev := block_set h 0 u
theorem BookAt.cell1 {w : World} {bk : Nat} {nv av wv ev : Value} (h : BookAt w bk nv av wv ev) : w.cell? ⟨bk, 1, none⟩ = some av := by
  have e : w.heap[bk]? = _ := h
  unfold World.cell?
  rw [e]
  rfl
theorem BookAt.cell0 {w : World} {bk : Nat} {nv av wv ev : Value} (h : BookAt w bk nv av wv ev) : w.cell? ⟨bk, 0, none⟩ = some nv := by
  have e : w.heap[bk]? = _ := h
  unfold World.cell?
  rw [e]
  rfl
theorem BookAt.free {w : World} {bk : Nat} {nv av wv ev : Value} (h : BookAt w bk nv av wv ev) (i : Nat) : w.frozen? ⟨bk, i, none⟩ = false := by
  have e : w.heap[bk]? = _ := h
  simp [World.frozen?, e]
theorem markA_end {w w5 w6 : World} {bk : Nat} {nv av av' wv ev l x1 x2 x3 : Value} {N A : List Value} {M : List Nat} (h : BookM w bk nv av wv ev N A M)
    (hX : ∀ b, l.ownBlock = some b → b < w.heap.size ∧ b ∉ rowsOf bk nv av ∧ b ∉ M) (hk5 : Kept l.ownBlock.toList w w5) (hk6 : Kept av.ownBlock.toList w5 w6) (hpl : BookAt w6 bk nv av wv ev)
    (hrow : w6.ownsRow 0 40 1 av' (A.length + 4) (A ++ [l, x1, x2, x3])) (hm : ∀ x ∈ [l, x1, x2, x3], MK w5 (aMark (A.length / 4)) x)
    (hx : ∀ x ∈ [l, x1, x2, x3], ∀ b, x.ownBlock = some b → (l.ownBlock = some b ∨ w.heap.size ≤ b) ∧ b < w5.heap.size) (hav : ∀ b, av'.ownBlock = some b → av.ownBlock = some b ∨ w5.heap.size ≤ b) :
    MPost bk nv av wv ev N A M l.ownBlock.toList (bk :: (av.ownBlock.toList ++ l.ownBlock.toList)) 4 w (w6.setCell ⟨bk, 1, none⟩ av') := by
  have hbk := h.place.lt
  have hz := hk5.size
  obtain ⟨nd1, nd2, nd3⟩ := rows_nd.1 h.nd
  have hkE : Kept (bk :: (av.ownBlock.toList ++ l.ownBlock.toList)) w (w6.setCell ⟨bk, 1, none⟩ av') := ((hk5.mono (fun i hi => by simp [hi])).trans (hk6.mono (fun i hi => by simp [hi]))).setCell (.inl (by simp)) _
  have hk5E : Kept (bk :: av.ownBlock.toList) w5 (w6.setCell ⟨bk, 1, none⟩ av') := (hk6.mono (fun i hi => by simp [hi])).setCell (.inl (by simp)) _
  have hat := hpl.setA av'
  have hr : (w6.setCell ⟨bk, 1, none⟩ av').ownsRow 0 40 1 av' (A.length + 4) (A ++ [l, x1, x2, x3]) := by
    refine ownsRow_kept hrow ((Kept.refl [bk] w6).setCell (.inl (by simp)) _) (fun b hb hc => ?_)
    have hc' : b = bk := by simpa using hc
    subst hc'
    rcases hav b hb with hb | hb
    · exact nd2 hb
    · omega
  have hm' : ∀ x ∈ [l, x1, x2, x3], MK (w6.setCell ⟨bk, 1, none⟩ av') (aMark (A.length / 4)) x := by
    intro x hxm
    refine (hm x hxm).kept (by simp [aMark]) hk5E (fun b hb hc => ?_)
    rcases (hx x hxm b hb).1 with h1 | h1
    · refine (hX b h1).2.1 ?_
      rcases List.mem_cons.1 hc with hc | hc
      · exact mem_rows.2 (.inl hc)
      · exact mem_rows.2 (.inr (.inr (Option.mem_toList.1 hc)))
    · rcases List.mem_cons.1 hc with hc | hc
      · omega
      · have := own_lt h.arow (Option.mem_toList.1 hc)
        omega
  obtain ⟨M', h1, h2⟩ := h.addA hX hkE hat hr hm' w5.heap.size hz hk5E.size hx hav
  exact ⟨_, _, _, _, M', h1, h2, hkE, by simp; omega⟩
theorem markN_end {w w5 w6 : World} {bk : Nat} {nv av nv' wv ev l x1 x2 x3 : Value} {N A : List Value} {M : List Nat} (h : BookM w bk nv av wv ev N A M)
    (hX : ∀ b, l.ownBlock = some b → b < w.heap.size ∧ b ∉ rowsOf bk nv av ∧ b ∉ M) (hk5 : Kept l.ownBlock.toList w w5) (hk6 : Kept nv.ownBlock.toList w5 w6) (hpl : BookAt w6 bk nv av wv ev)
    (hrow : w6.ownsRow 0 31 1 nv' (N.length + 4) (N ++ [l, x1, x2, x3])) (hm : ∀ x ∈ [l, x1, x2, x3], MK w5 (nMark (N.length / 4)) x)
    (hx : ∀ x ∈ [l, x1, x2, x3], ∀ b, x.ownBlock = some b → (l.ownBlock = some b ∨ w.heap.size ≤ b) ∧ b < w5.heap.size) (hav : ∀ b, nv'.ownBlock = some b → nv.ownBlock = some b ∨ w5.heap.size ≤ b) :
    MPost bk nv av wv ev N A M l.ownBlock.toList (bk :: (nv.ownBlock.toList ++ l.ownBlock.toList)) 4 w (w6.setCell ⟨bk, 0, none⟩ nv') := by
  have hbk := h.place.lt
  have hz := hk5.size
  obtain ⟨nd1, nd2, nd3⟩ := rows_nd.1 h.nd
  have hkE : Kept (bk :: (nv.ownBlock.toList ++ l.ownBlock.toList)) w (w6.setCell ⟨bk, 0, none⟩ nv') := ((hk5.mono (fun i hi => by simp [hi])).trans (hk6.mono (fun i hi => by simp [hi]))).setCell (.inl (by simp)) _
  have hk5E : Kept (bk :: nv.ownBlock.toList) w5 (w6.setCell ⟨bk, 0, none⟩ nv') := (hk6.mono (fun i hi => by simp [hi])).setCell (.inl (by simp)) _
  have hat := hpl.setN nv'
  have hr : (w6.setCell ⟨bk, 0, none⟩ nv').ownsRow 0 31 1 nv' (N.length + 4) (N ++ [l, x1, x2, x3]) := by
    refine ownsRow_kept hrow ((Kept.refl [bk] w6).setCell (.inl (by simp)) _) (fun b hb hc => ?_)
    have hc' : b = bk := by simpa using hc
    subst hc'
    rcases hav b hb with hb | hb
    · exact nd1 hb
    · omega
  have hm' : ∀ x ∈ [l, x1, x2, x3], MK (w6.setCell ⟨bk, 0, none⟩ nv') (nMark (N.length / 4)) x := by
    intro x hxm
    refine (hm x hxm).kept (by simp [nMark]) hk5E (fun b hb hc => ?_)
    rcases (hx x hxm b hb).1 with h1 | h1
    · refine (hX b h1).2.1 ?_
      rcases List.mem_cons.1 hc with hc | hc
      · exact mem_rows.2 (.inl hc)
      · exact mem_rows.2 (.inr (.inl (Option.mem_toList.1 hc)))
    · rcases List.mem_cons.1 hc with hc | hc
      · omega
      · have := own_lt h.nrow (Option.mem_toList.1 hc)
        omega
  obtain ⟨M', h1, h2⟩ := h.addN hX hkE hat hr hm' w5.heap.size hz hk5E.size hx hav
  exact ⟨_, _, _, _, M', h1, h2, hkE, by simp; omega⟩
set_option maxRecDepth 100000 in
set_option maxHeartbeats 4000000 in
theorem markAttrs_any (bk : Nat) (nv av wv ev l : Value) (N A : List Value) (M : List Nat) (al : List (List UInt8 × List UInt8)) (w : World) (h : BookM w bk nv av wv ev N A M) (hA : AOwn w l al)
    (hX : ∀ b, l.ownBlock = some b → b ∉ rowsOf bk nv av ∧ b ∉ M) (hl : al.length ≤ 1099511627776) (hAl : A.length ≤ 1099511627776) :
    Calls Tryz.prog 67 #[.pointer (some ⟨bk, 0, none⟩), l] w fun e w' => e = .returned (.tuple #[]) ∧ MPost bk nv av wv ev N A M l.ownBlock.toList (bk :: (av.ownBlock.toList ++ l.ownBlock.toList)) 4 w w' := by
  obtain ⟨i0, hi, hz0, hz1, hz2⟩ := info_parts infoAttr
  obtain ⟨j0, hj, hy0, hy1, hy2⟩ := info_parts infoAs
  have hbk := h.place.lt
  obtain ⟨aa, ac, rfl⟩ := ownsRow_form h.arow
  obtain ⟨la, lc, rfl⟩ := ownsRow_form hA
  have HH : Hid _ := h
  have HX : Hid _ := hX
  have hcell : ∀ W, Kept [] w W → W.cell? ⟨bk, 1, none⟩ = some (.slice aa A.length ac) := fun W hW => by
    have e : W.heap[bk]? = _ := h.place.kept hW (by simp)
    unfold World.cell?
    rw [e]
    rfl
  have q1 := hcell w (Kept.refl _ _)
  have HCL : Hid _ := hcell
  have HOWN : Hid (AOwn w (.slice la al.length lc) al) := hA
  clear h hX hA hcell
  generalize han : A.length = an at *
  generalize hln : al.length = ln at *
  have HAN : Hid (A.length = an) := han
  have HLN : Hid (al.length = ln) := hln
  clear han hln
  have HTX : Hid (Calls Tryz.prog 68 #[.int .i64 ((an : Int) / 4)] w fun e w' => e = .returned (.string ⟨(textP (an / 4)).toArray⟩) ∧ Kept [] w w') := markText_any (an / 4) w (by omega)
  obtain ⟨T, HT⟩ : ∃ T, Hid (T = (⟨(textP (an / 4)).toArray⟩ : ByteArray)) := ⟨_, rfl⟩
  have HES : Hid (aMark (an / 4) = [.string T, .string ⟨#[]⟩]) := by
    show _ = _
    rw [HT.out]
    rfl
  rw [← HT.out] at HTX
  clear HT
  go_enter Tryz.func67, Tryz.ntmps67
  go_wp2_with fail
  refine HTX.out.mono ?_
  rintro e w1 ⟨rfl, hk1⟩
  have hkb : Kept [] w (w1.alloc (.cells #[.string T, .string ⟨#[]⟩] 63)) := hk1.alloc _
  have hbx : (w1.alloc (.cells #[.string T, .string ⟨#[]⟩] 63)).heap[w1.heap.size]? = some (.cells #[.string T, .string ⟨#[]⟩] 63 (0, 0)) := heap_alloc_new w1 _
  have hbs : w1.heap.size < (w1.alloc (.cells #[.string T, .string ⟨#[]⟩] 63)).heap.size := by simp
  have HS1 : Hid (w.heap.size ≤ w1.heap.size) := hk1.size
  have HKB : Hid (Kept [] w (w1.alloc (.cells #[.string T, .string ⟨#[]⟩] 63))) := hkb
  have HBX : Hid _ := hbx
  have HBS : Hid _ := hbs
  clear hkb hbx hbs hk1 q1 HTX
  go_wp2_with fail
  generalize w1.alloc (.cells #[.string T, .string ⟨#[]⟩] 63) = wb at *
  have HOWB : Hid (wb.ownsRow 0 63 2 (.slice la ln lc) ln (again 0 [.string T, .string ⟨#[]⟩] ++ (attrCells al).drop (0 * 2))) := by
    have := ownsRow_kept HOWN.out HKB.out (by simp)
    show wb.ownsRow _ _ _ _ _ _
    simpa [again, HLN.out] using this
  have HCK : Hid (∀ W, Kept (Value.slice la ln lc).ownBlock.toList wb W → W.cell? ⟨w1.heap.size, 0, none⟩ = some (.string T) ∧ W.cell? ⟨w1.heap.size, 1, none⟩ = some (.string ⟨#[]⟩)) := by
    intro W hW
    have e := (hW.block _ HBS.out (fun hc => ?_)).trans HBX.out
    · exact ⟨by unfold World.cell?; rw [e]; rfl, by unfold World.cell?; rw [e]; rfl⟩
    · have h1 := own_lt HOWN.out (k := w1.heap.size) (Option.mem_toList.1 hc)
      have := HS1.out
      omega
  go_loopg [5] ln (fun g x wr => ∃ k : Nat, k ≤ ln ∧ g = ln - k ∧ x = .int .i64 (k : Int) ∧ Kept (Value.slice la ln lc).ownBlock.toList wb wr ∧ wr.ownsRow 0 63 2 (.slice la ln lc) ln (again k [.string T, .string ⟨#[]⟩] ++ (attrCells al).drop (k * 2)))
  case atStart => exact ⟨0, by omega, rfl, rfl, Kept.refl _ _, HOWB.out⟩
  case round =>
    obtain ⟨wo, hwo⟩ : ∃ x, x = wr := ⟨_, rfl⟩
    subst hwo
    obtain ⟨k, hks, hgk, rfl, hkr, hrow⟩ := hrel
    have HG : Hid _ := hgk
    clear hgk
    have hge : (0 : Int) ≤ (k : Int) := by omega
    obtain ⟨m0, m1⟩ := HCK.out wo hkr
    have HKR : Hid (Kept _ wb wo) := hkr
    by_cases hlt : k < ln
    · have hlt' : (k : Int) < (ln : Int) := by omega
      obtain ⟨g, rfl⟩ : ∃ g, la = some ⟨g, 0, none⟩ := by
        rcases hrow.2 with ⟨e, _⟩ | ⟨g, cap, cur, e, _⟩
        · injection e with e1 e2 e3
          omega
        · injection e with e1 e2 e3
          exact ⟨g, e1⟩
      have hxl : (attrCells al).length = ln * 2 := by rw [attrCells_length, HLN.out]
      have hset := mark_set2 rfl hrow hxl hlt
      have HSET : Hid (World.ownsRow _ _ _ _ _ _ _) := hset
      have t0 := row_free hrow (k * 2)
      have t1 := row_free hrow (k * 2 + 1)
      have hll : (again k [.string T, .string ⟨#[]⟩] ++ (attrCells al).drop (k * 2)).length = ln * 2 := hrow.1
      obtain ⟨s0v, s0⟩ : ∃ v, wo.cell? ⟨g, k * 2, none⟩ = some v := ⟨_, row_cell hrow (List.getElem?_eq_getElem (by omega))⟩
      obtain ⟨s1v, s1⟩ : ∃ v, wo.cell? ⟨g, k * 2 + 1, none⟩ = some v := ⟨_, row_cell hrow (List.getElem?_eq_getElem (by omega))⟩
      clear hset hrow hxl hll
      go_wp2_with fail
      go_roundg (ln - (k + 1))
      case measure => rw [HG.out]; omega
      case rel =>
        refine ⟨k + 1, by omega, rfl, by first | rfl | congr 1, ?_, HSET.out⟩
        exact (hkr.setCell (.inl (by simp [Value.ownBlock])) _).setCell (.inl (by simp [Value.ownBlock])) _
    · obtain rfl : k = ln := by omega
      have hlt' : ((k : Int) < (k : Int)) = False := by simp
      have hxl : (attrCells al).length = k * 2 := by rw [attrCells_length, HLN.out]
      have hrow0 : wo.ownsRow 0 63 2 (.slice la k lc) k (again k [.string T, .string ⟨#[]⟩]) := by
        have := hrow
        rwa [List.drop_eq_nil_of_le (by omega), List.append_nil] at this
      have HR0 : Hid (wo.ownsRow 0 63 2 (.slice la k lc) k (again k [.string T, .string ⟨#[]⟩])) := hrow0
      clear hrow hrow0 hxl HOWB
      go_wp2_with (at_builtin; refine wpList_append_mark _ rfl _ _ 40 rfl 63 i0 _ 32 [.string T, .string ⟨#[]⟩] Tryz.underlying40 hi hz0 hz1 hz2 rfl (by simp) _ k rfl _ 1 1 rfl ?own1 ?news1 ?one1 ?len1 ?by1 ?_)
      case own1 => exact ownsRow_kept HR0.out ((Kept.refl [] _).alloc _) (by simp)
      case news1 => exact news1 wo _ _ _
      case one1 => intro u hu; simp at hu; rcases hu with rfl | rfl <;> rfl
      case len1 => unfold maxLen; omega
      case by1 => omega
      intro x1 w3 hown3 hmk3 hst3 hmv3 hlt3
      have hk3 : Kept (Value.slice la k lc).ownBlock.toList wb w3 := HKR.out.trans ((((Kept.refl [] wo).alloc _).mono (by simp)).trans hst3.1)
      have HX1 : Hid (MK w3 [.string T, .string ⟨#[]⟩] x1 ∧ Moved (wo.alloc (.cells #[.string T, .string ⟨#[]⟩] 63)) (.slice la k lc) x1 ∧ (∀ b, x1.ownBlock = some b → b < w3.heap.size)) := ⟨hmk3, hmv3, hlt3⟩
      have HW3 : Hid (wo.heap.size ≤ w3.heap.size) := Nat.le_trans ((Kept.refl [] wo).alloc _).size hst3.1.size
      have HR3 : Hid (w3.ownsRow 0 63 2 (.slice la k lc) k (again k [.string T, .string ⟨#[]⟩])) := hown3
      obtain ⟨x1a, x1n, x1c, hx1, _⟩ := hmk3
      subst hx1
      clear m0 m1 hown3 hst3 hmv3 hlt3
      obtain ⟨m0, m1⟩ := HCK.out w3 hk3
      go_wp2_with (at_builtin; refine wpList_append_mark _ rfl _ _ 40 rfl 63 i0 _ 32 [.string T, .string ⟨#[]⟩] Tryz.underlying40 hi hz0 hz1 hz2 rfl (by simp) _ k rfl _ 2 2 rfl ?own2 ?news2 ?one2 ?len2 ?by2 ?_)
      case own2 => exact ownsRow_kept HR3.out ((Kept.refl [] _).alloc _) (by simp)
      case news2 => exact news2 w3 _ _ _
      case one2 => intro u hu; simp at hu; rcases hu with rfl | rfl <;> rfl
      case len2 => unfold maxLen; omega
      case by2 => omega
      intro x2 w4 hown4 hmk4 hst4 hmv4 hlt4
      have hk4 : Kept (Value.slice la k lc).ownBlock.toList wb w4 := hk3.trans ((((Kept.refl [] w3).alloc _).mono (by simp)).trans hst4.1)
      have HX2 : Hid (MK w4 [.string T, .string ⟨#[]⟩] x2 ∧ Moved (w3.alloc (.cells #[.string T, .string ⟨#[]⟩, .string T, .string ⟨#[]⟩] 63)) (.slice la k lc) x2 ∧ (∀ b, x2.ownBlock = some b → b < w4.heap.size)) := ⟨hmk4, hmv4, hlt4⟩
      have HR4 : Hid (w4.ownsRow 0 63 2 (.slice la k lc) k (again k [.string T, .string ⟨#[]⟩])) := hown4
      have HST4 : Hid (Stamps [.string T, .string ⟨#[]⟩] (Value.slice la k lc).ownBlock.toList w3 w4) := by
        refine Stamps.trans (Stamps.of ((Kept.refl [] w3).alloc _) (fun x hx => ?_)) hst4
        exact own_lt HR3.out (Option.mem_toList.1 hx)
      obtain ⟨x2a, x2n, x2c, hx2, _⟩ := hmk4
      subst hx2
      clear m0 m1 hown4 hst4 hmv4 hlt4
      obtain ⟨m0, m1⟩ := HCK.out w4 hk4
      go_wp2_with (at_builtin; refine wpList_append_mark _ rfl _ _ 40 rfl 63 i0 _ 32 [.string T, .string ⟨#[]⟩] Tryz.underlying40 hi hz0 hz1 hz2 rfl (by simp) _ k rfl _ 3 3 rfl ?own3 ?news3 ?one3 ?len3 ?by3 ?_)
      case own3 => exact ownsRow_kept HR4.out ((Kept.refl [] _).alloc _) (by simp)
      case news3 => exact news3 w4 _ _ _
      case one3 => intro u hu; simp at hu; rcases hu with rfl | rfl <;> rfl
      case len3 => unfold maxLen; omega
      case by3 => omega
      intro x3 w5 hown5 hmk5 hst5 hmv5 hlt5
      have hk5 : Kept (Value.slice la k lc).ownBlock.toList wb w5 := hk4.trans ((((Kept.refl [] w4).alloc _).mono (by simp)).trans hst5.1)
      have HX3 : Hid (MK w5 [.string T, .string ⟨#[]⟩] x3 ∧ Moved (w4.alloc (.cells #[.string T, .string ⟨#[]⟩, .string T, .string ⟨#[]⟩, .string T, .string ⟨#[]⟩] 63)) (.slice la k lc) x3 ∧ (∀ b, x3.ownBlock = some b → b < w5.heap.size)) := ⟨hmk5, hmv5, hlt5⟩
      have HR5 : Hid (w5.ownsRow 0 63 2 (.slice la k lc) k (again k [.string T, .string ⟨#[]⟩])) := hown5
      have HST5 : Hid (Stamps [.string T, .string ⟨#[]⟩] (Value.slice la k lc).ownBlock.toList w4 w5) := by
        refine Stamps.trans (Stamps.of ((Kept.refl [] w4).alloc _) (fun x hx => ?_)) hst5
        exact own_lt HR4.out (Option.mem_toList.1 hx)
      obtain ⟨x3a, x3n, x3c, hx3, _⟩ := hmk5
      subst hx3
      clear m0 m1 hown5 hst5 hmv5 hlt5
      have hkw5 : Kept (Value.slice la k lc).ownBlock.toList w w5 := (HKB.out.mono (by simp)).trans hk5
      have hpl5 : BookAt w5 bk nv (.slice aa an ac) wv ev := HH.out.place.kept hkw5 (fun hc => (HX.out bk (Option.mem_toList.1 hc)).1 (mem_rows.2 (.inl rfl)))
      have HPL5 : Hid (BookAt w5 bk nv (.slice aa an ac) wv ev) := hpl5
      have q1 := hpl5.cell1
      clear hpl5
      go_wp2_with (at_builtin; refine wpList_append_fp _ rfl _ _ 25 rfl 0 40 j0 _ 1 24 Tryz.underlying25 hj hy0 hy1 hy2 rfl (by decide) _ an A rfl ?own4 _ 4 4 [.slice la k lc, .slice x1a x1n x1c, .slice x2a x2n x2c, .slice x3a x3n x3c] rfl rfl ?news4 ?one4 ?len4 ?by4 (Nat.zero_le _) ?_)
      case own4 =>
        have h1 := HH.out.arow
        rw [HAN.out] at h1
        refine ownsRow_kept h1 (hkw5.alloc _) (fun b hb hc => (HX.out b (Option.mem_toList.1 hc)).1 (mem_rows.2 (.inr (.inr hb))))
      case news4 => exact new_cells w5 [.slice la k lc, .slice x1a x1n x1c, .slice x2a x2n x2c, .slice x3a x3n x3c] 40
      case one4 => intro u hu; simp at hu; rcases hu with rfl | rfl | rfl | rfl <;> rfl
      case len4 => unfold maxLen; omega
      case by4 => omega
      intro av' w6 hown6 hgr6 hmv6
      have HO6 : Hid (w6.ownsRow 0 40 1 av' (an + 4) (A ++ [.slice la k lc, .slice x1a x1n x1c, .slice x2a x2n x2c, .slice x3a x3n x3c])) := hown6
      have hk6 : Kept (Value.slice aa an ac).ownBlock.toList w5 w6 := (((Kept.refl [] w5).alloc _).mono (by simp)).trans (Kept.own hgr6)
      have hbk6 : bk ∉ (Value.slice aa an ac).ownBlock.toList := fun hc => (rows_nd.1 HH.out.nd).2.1 (Option.mem_toList.1 hc)
      have hpl6 := HPL5.out.kept hk6 hbk6
      have HPL6 : Hid (BookAt w6 bk nv (.slice aa an ac) wv ev) := hpl6
      have q6 := hpl6.cell1
      have f6 := hpl6.free 1
      have HMV6 : Hid (∀ b, av'.ownBlock = some b → (Value.slice aa an ac).ownBlock = some b ∨ w5.heap.size ≤ b) := by
        intro b hb
        rcases hmv6 with hm | ⟨j, hm, hj⟩
        · exact .inl (hm ▸ hb)
        · rw [hm] at hb
          injection hb with hb
          simp at hj
          exact .inr (by omega)
      have HK6 : Hid (Kept _ w5 w6) := hk6
      obtain ⟨va, vc, hva⟩ := ownsRow_form hown6
      subst hva
      clear hown6 hgr6 hmv6 hpl6 hk6 hbk6
      go_wp2_with fail
      refine bodyPost_end (v := .tuple #[]) (by simp [results, Tryz.results67, go_sem]) rfl ?_
      refine ⟨rfl, ?_⟩
      obtain ⟨hm1, hv1, hl1⟩ := HX1.out
      obtain ⟨hm2, hv2, hl2⟩ := HX2.out
      obtain ⟨hm3, hv3, hl3⟩ := HX3.out
      have hs35 := HST4.out.1.size
      have hs45 := HST5.out.1.size
      have hwo : w.heap.size ≤ wo.heap.size := Nat.le_trans HKB.out.size HKR.out.size
      have hw3 : wo.heap.size ≤ w3.heap.size := (HW3.out)
      have hes : aMark (A.length / 4) = [.string T, .string ⟨#[]⟩] := by rw [HAN.out]; exact HES.out
      have hlo : ∀ b, (Value.slice la k lc).ownBlock = some b → b < w.heap.size := fun b hb => own_lt HOWN.out hb
      refine markA_end HH.out (fun b hb => ⟨hlo b hb, HX.out b hb⟩) hkw5 HK6.out HPL6.out (by rw [HAN.out]; exact HO6.out) ?_ ?_ HMV6.out
      · rw [hes]
        intro x hx
        simp at hx
        rcases hx with rfl | rfl | rfl | rfl
        · exact MK.of_row HR5.out (by simp)
        · exact (hm1.stamps (by simp) HST4.out).stamps (by simp) HST5.out
        · exact hm2.stamps (by simp) HST5.out
        · exact hm3
      · intro x hx b hb
        simp at hx
        have hmoved : ∀ {W : World} {y : Value}, Moved W (.slice la k lc) y → w.heap.size ≤ W.heap.size → y.ownBlock = some b → (Value.slice la k lc).ownBlock = some b ∨ w.heap.size ≤ b := by
          intro W y hm hW hy
          rcases hm with hm | ⟨j, hm, hj⟩
          · exact .inl (hm ▸ hy)
          · rw [hm] at hy
            injection hy with hy
            exact .inr (by omega)
        rcases hx with rfl | rfl | rfl | rfl
        · exact ⟨.inl hb, by have := hlo b hb; omega⟩
        · exact ⟨hmoved hv1 (by simp; omega) hb, by have := hl1 b hb; omega⟩
        · exact ⟨hmoved hv2 (by simp; omega) hb, by have := hl2 b hb; omega⟩
        · exact ⟨hmoved hv3 (by simp; omega) hb, hl3 b hb⟩
end Go.Proofs.YtlpmjpmefdpcmaaGreatDoor
