import Derived.Test.YtlpmjpmefdpcmaaGreatDoorQUd
/- The book marks a list of nodes, however deep. -/
namespace Go.Proofs.YtlpmjpmefdpcmaaGreatDoor
open Go.RowKit Scrub Go.Shelf
theorem MPost.then {bk : Nat} {nv av nv1 av1 wv ev : Value} {N A N1 A1 : List Value} {M M1 X X' S' : List Nat} {c c' : Nat} {w w1 w2 : World}
    (h1 : Grew bk nv av M X w nv1 av1 M1) (hk1 : Kept (rowsOf bk nv av ++ X) w w1) (hc : N1.length + A1.length ≤ N.length + A.length + c) (h2 : MPost bk nv1 av1 wv ev N1 A1 M1 X' S' c' w1 w2) (hS : ∀ b ∈ S', b ∈ rowsOf bk nv1 av1 ∨ b ∈ X') :
    MPost bk nv av wv ev N A M (X ++ X') (rowsOf bk nv av ++ (X ++ X')) (c + c') w w2 := by
  obtain ⟨nv2, av2, N2, A2, M2, b2, ⟨g1, g2⟩, k2, c2⟩ := h2
  have hz := hk1.size
  refine ⟨nv2, av2, N2, A2, M2, b2, ⟨fun b hb => ?_, fun b hb => ?_⟩, ?_, by omega⟩
  · rcases g1 b hb with hb | hb
    · exact h1.1 b hb
    · exact .inr (by omega)
  · rcases g2 b hb with hb | hb | hb
    · rcases h1.2 b hb with hb | hb | hb
      · exact .inl hb
      · exact .inr (.inl (List.mem_append_left _ hb))
      · exact .inr (.inr hb)
    · exact .inr (.inl (List.mem_append_right _ hb))
    · exact .inr (.inr (by omega))
  · refine (hk1.mono (fun i hi => ?_)).trans_new k2 (fun i hi => ?_)
    · rcases List.mem_append.1 hi with hi | hi
      · exact List.mem_append_left _ hi
      · exact List.mem_append_right _ (List.mem_append_left _ hi)
    · rcases hS i hi with hi | hi
      · rcases h1.1 i hi with hi | hi
        · exact .inl (List.mem_append_left _ hi)
        · exact .inr hi
      · exact .inl (List.mem_append_right _ (List.mem_append_right _ hi))
theorem mark_set4 {w : World} {g n c k : Nat} {es : List Value} {xs : List Value} {u0 u1 u2 u3 : Value} (hes : es = [u0, u1, u2, u3]) (h : w.ownsRow 0 42 4 (.slice (some ⟨g, 0, none⟩) n c) n (again k es ++ xs.drop (k * 4))) (hx : xs.length = n * 4) (hk : k < n) :
    ((((w.setCell ⟨g, k * 4, none⟩ u0).setCell ⟨g, k * 4 + 1, none⟩ u1).setCell ⟨g, k * 4 + 2, none⟩ u2).setCell ⟨g, k * 4 + 3, none⟩ u3).ownsRow 0 42 4 (.slice (some ⟨g, 0, none⟩) n c) n (again (k + 1) es ++ xs.drop ((k + 1) * 4)) := by
  have hl : (again k es).length = k * 4 := by rw [again_len, hes]; rfl
  have hd : xs.drop (k * 4) = xs[k * 4]'(by omega) :: xs[k * 4 + 1]'(by omega) :: xs[k * 4 + 2]'(by omega) :: xs[k * 4 + 3]'(by omega) :: xs.drop ((k + 1) * 4) := by
    rw [List.drop_eq_getElem_cons (by omega), List.drop_eq_getElem_cons (by omega), List.drop_eq_getElem_cons (by omega), List.drop_eq_getElem_cons (by omega)]
    congr 5
    omega
  have h1 := own_setCell h (k * 4) (by rw [List.length_append, hl, List.length_drop]; omega) u0
  have h2 := own_setCell h1 (k * 4 + 1) (by rw [List.length_set, List.length_append, hl, List.length_drop]; omega) u1
  have h3 := own_setCell h2 (k * 4 + 2) (by rw [List.length_set, List.length_set, List.length_append, hl, List.length_drop]; omega) u2
  have h4 := own_setCell h3 (k * 4 + 3) (by rw [List.length_set, List.length_set, List.length_set, List.length_append, hl, List.length_drop]; omega) u3
  rw [hd] at h4
  have e : (((((again k es ++ xs[k * 4]'(by omega) :: xs[k * 4 + 1]'(by omega) :: xs[k * 4 + 2]'(by omega) :: xs[k * 4 + 3]'(by omega) :: xs.drop ((k + 1) * 4)).set (k * 4) u0).set (k * 4 + 1) u1).set (k * 4 + 2) u2).set (k * 4 + 3) u3) = again (k + 1) es ++ xs.drop ((k + 1) * 4) := by
    rw [List.set_append_right _ _ (by omega), hl, Nat.sub_self, List.set_cons_zero, List.set_append_right _ _ (by omega), hl, show k * 4 + 1 - k * 4 = 1 by omega, List.set_cons_succ, List.set_cons_zero,
      List.set_append_right _ _ (by omega), hl, show k * 4 + 2 - k * 4 = 2 by omega, List.set_cons_succ, List.set_cons_succ, List.set_cons_zero,
      List.set_append_right _ _ (by omega), hl, show k * 4 + 3 - k * 4 = 3 by omega, List.set_cons_succ, List.set_cons_succ, List.set_cons_succ, List.set_cons_zero, ← again_add, List.append_assoc]
    rw [hes]
    rfl
  rw [e] at h4
  exact h4
theorem newsN1 (w : World) (u0 u1 u2 u3 : Value) (t : TypeId) : ∀ j u, (again 1 [u0, u1, u2, u3])[j]? = some u → (w.alloc (.cells #[u0, u1, u2, u3] t)).cell? ((⟨w.heap.size, 0, none⟩ : Addr).add j) = some u := new_cells w (again 1 [u0, u1, u2, u3]) t
theorem newsN2 (w : World) (u0 u1 u2 u3 : Value) (t : TypeId) : ∀ j u, (again 2 [u0, u1, u2, u3])[j]? = some u → (w.alloc (.cells #[u0, u1, u2, u3, u0, u1, u2, u3] t)).cell? ((⟨w.heap.size, 0, none⟩ : Addr).add j) = some u := new_cells w (again 2 [u0, u1, u2, u3]) t
theorem newsN3 (w : World) (u0 u1 u2 u3 : Value) (t : TypeId) : ∀ j u, (again 3 [u0, u1, u2, u3])[j]? = some u → (w.alloc (.cells #[u0, u1, u2, u3, u0, u1, u2, u3, u0, u1, u2, u3] t)).cell? ((⟨w.heap.size, 0, none⟩ : Addr).add j) = some u := new_cells w (again 3 [u0, u1, u2, u3]) t
/-- What marking a tree asks and gives. -/
def MarkOk (d : Nat) : Prop := ∀ (bk : Nat) (nv av wv ev v : Value) (N A : List Value) (M : List Nat) (E : List Ev) (fp : List Nat) (w : World), BookM w bk nv av wv ev N A M → Rep d w v E fp → fp.Nodup → (∀ b ∈ fp, b ∉ rowsOf bk nv av ∧ b ∉ M) → N.length + A.length + 8 * evBulk E ≤ 1099511627000 →
  Calls Tryz.prog 45 #[.pointer (some ⟨bk, 0, none⟩), v] w fun e w' => e = .returned (.tuple #[]) ∧ MPost bk nv av wv ev N A M fp (rowsOf bk nv av ++ fp) (8 * evBulk E + 4) w w'
/-- What a node's own events weigh. -/
theorem node_bulk {d : Nat} {w : World} {n : NodeR} (h : NodeOk (Rep d) w n) : evBulk n.ev + 1 ≤ evBulk n.evs := by
  obtain ⟨kfp, _, _, _, h4, h5⟩ := h
  unfold NodeR.evs
  split
  · rename_i hn
    rw [(h4 hn).2.2]
    simp [evBulk]
  · simp [evBulk, evBulk_append]
    omega
theorem fp_take {ns : List NodeR} {k : Nat} (hk : k < ns.length) : fpOf (ns.take (k + 1)) = fpOf (ns.take k) ++ ns[k].fp := by
  rw [List.take_succ_eq_append_getElem hk, fpOf_append]
  simp [fpOf]
theorem ev_take {ns : List NodeR} {k : Nat} (hk : k < ns.length) : evBulk (evsOf (ns.take (k + 1))) = evBulk (evsOf (ns.take k)) + evBulk ns[k].evs := by
  rw [List.take_succ_eq_append_getElem hk, evsOf_append, evBulk_append]
  simp [evsOf]
theorem ev_take_le (ns : List NodeR) (k : Nat) : evBulk (evsOf (ns.take k)) ≤ evBulk (evsOf ns) := by
  have e : evsOf ns = evsOf (ns.take k) ++ evsOf (ns.drop k) := by rw [← evsOf_append, List.take_append_drop]
  rw [e, evBulk_append]
  omega
theorem nd_take {ns : List NodeR} {v : Value} (h : (v.ownBlock.toList ++ fpOf ns).Nodup) {k : Nat} (hk : k < ns.length) : (∀ b ∈ ns[k].fp, b ∉ fpOf (ns.take k)) ∧ (ns[k].fp).Nodup ∧ ∀ j, ∀ b ∈ fpOf (ns.take j), v.ownBlock ≠ some b := by
  obtain ⟨_, h2, h3⟩ := List.nodup_append.1 h
  have e : fpOf ns = fpOf (ns.take k) ++ (ns[k].fp ++ fpOf (ns.drop (k + 1))) := by
    conv => lhs; rw [← List.take_append_drop k ns, fpOf_append, List.drop_eq_getElem_cons hk]
    simp only [fpOf, List.flatMap_cons]
  rw [e] at h2
  obtain ⟨_, h4, h5⟩ := List.nodup_append.1 h2
  refine ⟨fun b hb hc => h5 b hc b (List.mem_append_left _ hb) rfl, (List.nodup_append.1 h4).1, fun j b hb hc => ?_⟩
  have hb' : b ∈ fpOf ns := by
    have e2 : fpOf ns = fpOf (ns.take j) ++ fpOf (ns.drop j) := by rw [← fpOf_append, List.take_append_drop]
    rw [e2]
    exact List.mem_append_left _ hb
  exact h3 b (Option.mem_toList.2 hc) b hb' rfl
theorem node_attrs {d : Nat} {w : World} {n : NodeR} (h : NodeOk (Rep d) w n) : n.al.length ≤ evBulk n.evs := by
  obtain ⟨kfp, _, _, _, h4, h5⟩ := h
  unfold NodeR.evs
  split
  · rename_i hn
    rw [(h4 hn).2.1]
    simp
  · have := bulkA_len n.al
    simp [evBulk, evBulk_append]
    omega
theorem Rep.lt : ∀ (d : Nat) {w : World} {v : Value} {ev : List Ev} {fp : List Nat}, Rep d w v ev fp → ∀ b ∈ fp, b < w.heap.size
  | 0, _, _, _, _, h => by
    obtain ⟨rfl, rfl, rfl⟩ := h
    simp
  | d + 1, w, v, ev, fp, h => by
    obtain ⟨ns, h1, h2, h3, rfl⟩ := h
    intro b hb
    rcases List.mem_append.1 hb with hb | hb
    · exact own_lt h1 (Option.mem_toList.1 hb)
    · obtain ⟨n, hn, hb⟩ := List.mem_flatMap.1 hb
      obtain ⟨kfp, a1, a2, a3, _⟩ := h2 n hn
      rw [a3] at hb
      rcases List.mem_append.1 hb with hb | hb
      · exact own_lt a1 (Option.mem_toList.1 hb)
      · exact Rep.lt d a2 b hb
theorem Rep.form (d : Nat) {w : World} {v : Value} {ev : List Ev} {fp : List Nat} (h : Rep d w v ev fp) : ∃ a n c, v = .slice a n c := by
  cases d with
  | zero => exact ⟨_, _, _, h.1⟩
  | succ d =>
    obtain ⟨ns, h1, _⟩ := h
    obtain ⟨a, c, e⟩ := ownsRow_form h1
    exact ⟨a, _, c, e⟩
theorem Grew.far {bk : Nat} {nv av nv1 av1 : Value} {M X M1 : List Nat} {w : World} (h : Grew bk nv av M X w nv1 av1 M1) {b : Nat} (hb : b < w.heap.size) (h1 : b ∉ rowsOf bk nv av) (h2 : b ∉ M) (h3 : b ∉ X) : b ∉ rowsOf bk nv1 av1 ∧ b ∉ M1 := by
  refine ⟨fun hc => ?_, fun hc => ?_⟩
  · rcases h.1 b hc with hc | hc
    · exact h1 hc
    · omega
  · rcases h.2 b hc with hc | hc | hc
    · exact h2 hc
    · exact h3 hc
    · omega
theorem MPost.le {bk : Nat} {nv av wv ev : Value} {N A : List Value} {M X X' S S' : List Nat} {c c' : Nat} {w w' : World} (h : MPost bk nv av wv ev N A M X S c w w') (hX : ∀ b ∈ X, b ∈ X') (hS : ∀ b ∈ S, b ∈ S') (hc : c ≤ c') : MPost bk nv av wv ev N A M X' S' c' w w' := by
  obtain ⟨nv2, av2, N2, A2, M2, b2, ⟨g1, g2⟩, k2, c2⟩ := h
  refine ⟨nv2, av2, N2, A2, M2, b2, ⟨g1, fun b hb => ?_⟩, k2.mono hS, by omega⟩
  rcases g2 b hb with h | h | h
  · exact .inl h
  · exact .inr (.inl (hX b h))
  · exact .inr (.inr h)
set_option maxRecDepth 100000 in
set_option maxHeartbeats 4000000 in
theorem markNodes_row (d : Nat) (ns : List NodeR) (ih : ns ≠ [] → MarkOk d) (bk : Nat) (nv av wv ev v : Value) (N A : List Value) (M : List Nat) (w : World) (h : BookM w bk nv av wv ev N A M)
    (hrow : w.ownsRow 0 42 4 v ns.length (cellsOf ns)) (hok : ∀ n ∈ ns, NodeOk (Rep d) w n) (hnd : (v.ownBlock.toList ++ fpOf ns).Nodup) (hX : ∀ b ∈ v.ownBlock.toList ++ fpOf ns, b ∉ rowsOf bk nv av ∧ b ∉ M) (hsz : N.length + A.length + 8 * evBulk (evsOf ns) ≤ 1099511627000) :
    Calls Tryz.prog 45 #[.pointer (some ⟨bk, 0, none⟩), v] w fun e w' => e = .returned (.tuple #[]) ∧ MPost bk nv av wv ev N A M (v.ownBlock.toList ++ fpOf ns) (rowsOf bk nv av ++ (v.ownBlock.toList ++ fpOf ns)) (8 * evBulk (evsOf ns) + 4) w w' := by
  obtain ⟨i0, hi, hz0, hz1, hz2⟩ := info_parts infoNode
  obtain ⟨j0, hj, hy0, hy1, hy2⟩ := info_parts infoNs
  obtain ⟨la, lc, rfl⟩ := ownsRow_form hrow
  have HH : Hid _ := h
  have HIH : Hid _ := ih
  have HROW : Hid (w.ownsRow 0 42 4 (.slice la ns.length lc) ns.length (cellsOf ns)) := hrow
  have HOK : Hid _ := hok
  have HND : Hid _ := hnd
  have HX : Hid _ := hX
  have HSZ : Hid _ := hsz
  clear h ih hrow hok hnd hX
  have hnl := evBulk_evs ns
  generalize hln : ns.length = ln at *
  have HLN : Hid (ns.length = ln) := hln
  clear hln
  have hln40 : ln ≤ 1099511627000 := by omega
  clear hsz hnl
  go_enter Tryz.func45, Tryz.ntmps45
  go_wp2_with fail
  go_loopg [4] ln (fun g x wr => ∃ k : Nat, k ≤ ln ∧ g = ln - k ∧ x = .int .i64 (k : Int) ∧ MPost bk nv av wv ev N A M (fpOf (ns.take k)) (rowsOf bk nv av ++ fpOf (ns.take k)) (8 * evBulk (evsOf (ns.take k))) w wr)
  case atStart => exact ⟨0, by omega, rfl, rfl, nv, av, N, A, M, HH.out, ⟨fun b hb => .inl hb, fun b hb => .inl hb⟩, Kept.refl _ _, by omega⟩
  case round =>
    obtain ⟨wo, hwo⟩ : ∃ x, x = wr := ⟨_, rfl⟩
    subst hwo
    obtain ⟨k, hks, hgk, rfl, nv1, av1, N1, A1, M1, hb1, hg1, hk1, hc1⟩ := hrel
    have HG : Hid _ := hgk
    clear hgk
    have hge : (0 : Int) ≤ (k : Int) := by omega
    have hz := hk1.size
    -- what is not yet marked is as it was
    have hfar : ∀ b, b < w.heap.size → b ∈ (Value.slice la ln lc).ownBlock.toList ++ fpOf ns → b ∉ fpOf (ns.take k) → b ∉ rowsOf bk nv1 av1 ∧ b ∉ M1 ∧ b ∉ rowsOf bk nv av ++ fpOf (ns.take k) := by
      intro b hbl hbm hbt
      obtain ⟨x1, x2⟩ := HX.out b hbm
      refine ⟨fun hc => ?_, fun hc => ?_, fun hc => ?_⟩
      · rcases hg1.1 b hc with hc | hc
        · exact x1 hc
        · omega
      · rcases hg1.2 b hc with hc | hc | hc
        · exact x2 hc
        · exact hbt hc
        · omega
      · rcases List.mem_append.1 hc with hc | hc
        · exact x1 hc
        · exact hbt hc
    have hown : wo.ownsRow 0 42 4 (.slice la ln lc) ln (cellsOf ns) := by
      refine ownsRow_kept HROW.out hk1 (fun b hb hc => ?_)
      have hbl := own_lt HROW.out hb
      refine (hfar b hbl (List.mem_append_left _ (Option.mem_toList.2 hb)) ?_).2.2 hc
      intro hc2
      rcases Nat.lt_or_ge 0 ns.length with h0 | h0
      · exact (nd_take HND.out h0).2.2 k b hc2 hb
      · have : ns = [] := List.eq_nil_of_length_eq_zero (by omega)
        rw [this] at hc2
        simp [fpOf] at hc2
    by_cases hlt : k < ln
    · have hlt' : (k : Int) < (ln : Int) := by omega
      have hltl : k < ns.length := by rw [HLN.out]; exact hlt
      obtain ⟨g, rfl⟩ : ∃ g, la = some ⟨g, 0, none⟩ := by
        rcases hown.2 with ⟨e, _⟩ | ⟨g, cap, cur, e, _⟩
        · injection e with e1 e2 e3
          omega
        · injection e with e1 e2 e3
          exact ⟨g, e1⟩
      obtain ⟨_, c1, c2, _⟩ := cellsOf_get ns k hltl
      have q1 := row_cell hown c1
      have q2 := row_cell hown c2
      have hmem : ns[k] ∈ ns := List.getElem_mem hltl
      have hokn := HOK.out _ hmem
      have hbn := node_bulk hokn
      have hal := node_attrs hokn
      obtain ⟨kfp, hA, hK, hfp, _⟩ := hokn
      obtain ⟨nd1, nd2, nd3⟩ := nd_take HND.out hltl
      have hfpt := fp_take hltl
      have hevt := ev_take hltl
      have hevl := ev_take_le ns (k + 1)
      have hsub : ∀ b ∈ ns[k].fp, b ∈ (Value.slice (some ⟨g, 0, none⟩) ln lc).ownBlock.toList ++ fpOf ns := fun b hb => List.mem_append_right _ (mem_fpOf hmem hb)
      have hIH := HIH.out (by intro h0; rw [h0] at hltl; simp at hltl)
      generalize ns[k] = n at *
      obtain ⟨aa, ac, hav⟩ := ownsRow_form hA
      obtain ⟨ka, kn, kc, hkv⟩ := hK.form
      have hsz := HSZ.out
      have haf : ∀ b ∈ n.av.ownBlock.toList, b ∈ n.fp := fun b hb => by rw [hfp]; exact List.mem_append_left _ hb
      have hkf : ∀ b ∈ kfp, b ∈ n.fp := fun b hb => by rw [hfp]; exact List.mem_append_right _ hb
      have hnlt : ∀ b ∈ n.fp, b < w.heap.size := by
        intro b hb
        rw [hfp] at hb
        rcases List.mem_append.1 hb with hb | hb
        · exact own_lt hA (Option.mem_toList.1 hb)
        · exact Rep.lt d hK b hb
      have hA1 : AOwn wo n.av n.al := ownsRow_same hA (fun b hb => hk1.block b (own_lt hA hb) (hfar b (own_lt hA hb) (hsub b (haf b (Option.mem_toList.2 hb))) (nd1 b (haf b (Option.mem_toList.2 hb)))).2.2)
      have hX1 : ∀ b, n.av.ownBlock = some b → b ∉ rowsOf bk nv1 av1 ∧ b ∉ M1 := fun b hb => by
        have := hfar b (own_lt hA hb) (hsub b (haf b (Option.mem_toList.2 hb))) (nd1 b (haf b (Option.mem_toList.2 hb)))
        exact ⟨this.1, this.2.1⟩
      have HMA : Hid (Calls _ _ _ _ _) := markAttrs_any bk nv1 av1 wv ev n.av N1 A1 M1 n.al wo hb1 hA1 hX1 (by omega) (by omega)
      have HNX : Hid (∀ w2, MPost bk nv1 av1 wv ev N1 A1 M1 n.av.ownBlock.toList (bk :: (av1.ownBlock.toList ++ n.av.ownBlock.toList)) 4 wo w2 → Kept (rowsOf bk nv av ++ (fpOf (ns.take k) ++ n.av.ownBlock.toList)) w w2 ∧ Calls Tryz.prog 45 #[.pointer (some ⟨bk, 0, none⟩), n.kv] w2 fun e w' => e = .returned (.tuple #[]) ∧ MPost bk nv av wv ev N A M (fpOf (ns.take (k + 1))) (rowsOf bk nv av ++ fpOf (ns.take (k + 1))) (8 * evBulk (evsOf (ns.take (k + 1)))) w w') := by
        intro w2 hp2
        have hp := MPost.then hg1 hk1 hc1 hp2 (fun b hb => by
          rcases List.mem_cons.1 hb with hb | hb
          · exact .inl (mem_rows.2 (.inl hb))
          · rcases List.mem_append.1 hb with hb | hb
            · exact .inl (mem_rows.2 (.inr (.inr (Option.mem_toList.1 hb))))
            · exact .inr hb)
        obtain ⟨nv2, av2, N2, A2, M2, hb2, hg2, hk2, hc2⟩ := hp
        have hkd : ∀ b ∈ kfp, b ∉ fpOf (ns.take k) ++ n.av.ownBlock.toList := by
          intro b hb hc
          rcases List.mem_append.1 hc with hc | hc
          · exact nd1 b (hkf b hb) hc
          · rw [hfp] at nd2
            exact (List.nodup_append.1 nd2).2.2 b hc b hb rfl
        have hkx : ∀ b ∈ kfp, b ∉ rowsOf bk nv2 av2 ∧ b ∉ M2 := fun b hb =>
          hg2.far (hnlt b (hkf b hb)) (HX.out b (hsub b (hkf b hb))).1 (HX.out b (hsub b (hkf b hb))).2 (hkd b hb)
        have hK2 : Rep d w2 n.kv n.ev kfp := Rep.same d _ _ _ hK (fun b hb => hk2.block b (hnlt b (hkf b hb)) (fun hc => by
          rcases List.mem_append.1 hc with hc | hc
          · exact (HX.out b (hsub b (hkf b hb))).1 hc
          · exact hkd b hb hc))
        have hknd : kfp.Nodup := by
          rw [hfp] at nd2
          exact (List.nodup_append.1 nd2).2.1
        refine ⟨hk2, (hIH bk nv2 av2 wv ev n.kv N2 A2 M2 n.ev kfp w2 hb2 hK2 hknd hkx (by omega)).mono ?_⟩
        rintro e w' ⟨rfl, hp3⟩
        refine ⟨rfl, (MPost.then hg2 hk2 hc2 hp3 (fun b hb => List.mem_append.1 hb)).le (fun b hb => ?_) (fun b hb => ?_) (by omega)⟩
        · rw [hfpt, hfp]
          simp only [List.append_assoc] at hb ⊢
          exact hb
        · rw [hfpt, hfp]
          simp only [List.append_assoc] at hb ⊢
          exact hb
      have hglt : g < w.heap.size := own_lt HROW.out rfl
      have hgn : g ∉ rowsOf bk nv av ++ (fpOf (ns.take k) ++ n.av.ownBlock.toList) := by
        intro hc
        rcases List.mem_append.1 hc with hc | hc
        · exact (HX.out g (List.mem_append_left _ (by simp [Value.ownBlock]))).1 hc
        · rcases List.mem_append.1 hc with hc | hc
          · exact nd3 k g hc rfl
          · have h1 := hsub g (haf g hc)
            have h2 := (List.nodup_append.1 HND.out).2.2 g (by simp [Value.ownBlock])
            exact h2 g (mem_fpOf hmem (haf g hc)) rfl
      have HGN : Hid (∀ w2, Kept (rowsOf bk nv av ++ (fpOf (ns.take k) ++ n.av.ownBlock.toList)) w w2 → w2.cell? ⟨g, k * 4 + 2, none⟩ = some n.kv) := by
        intro w2 hk2
        have h1 := row_cell HROW.out c2
        exact (hk2.cell hglt hgn).trans h1
      rw [hav] at q1 HMA
      rw [hkv] at q2 HGN HNX
      clear hb1 hg1 hk1 hc1 hz hfar hown c1 c2 hmem hA hK hfp nd1 nd2 nd3 hfpt hevt hevl hsub hIH haf hkf hnlt hA1 hX1 hsz hbn hal hglt hgn
      go_wp2_with fail
      refine Calls.mono HMA.out ?_
      rintro e w2 ⟨rfl, hp2⟩
      rw [← hav] at hp2
      obtain ⟨hk2, hcall⟩ := HNX.out w2 hp2
      have q3 := HGN.out w2 hk2
      have HCALL : Hid (Calls _ _ _ _ _) := hcall
      clear hp2 hcall q2
      go_wp2_with fail
      refine Calls.mono HCALL.out ?_
      rintro e w3 ⟨rfl, hp3⟩
      have HP3 : Hid _ := hp3
      clear hp3
      go_wp2_with fail
      go_roundg (ln - (k + 1))
      case measure => rw [HG.out]; omega
      case rel => exact ⟨k + 1, by omega, rfl, by first | rfl | congr 1, HP3.out⟩
    · obtain rfl : k = ln := by omega
      have hlt' : ((k : Int) < (k : Int)) = False := by simp
      have htk : ns.take k = ns := List.take_of_length_le (by rw [HLN.out]; exact Nat.le_refl _)
      have hvn : ∀ b, (Value.slice la k lc).ownBlock = some b → b ∉ fpOf ns := fun b hb hc => (List.nodup_append.1 HND.out).2.2 b (Option.mem_toList.2 hb) b hc rfl
      have HXV : Hid (∀ b, (Value.slice la k lc).ownBlock = some b → b ∉ rowsOf bk nv1 av1 ∧ b ∉ M1) := fun b hb => by
        have := hfar b (own_lt HROW.out hb) (List.mem_append_left _ (Option.mem_toList.2 hb)) (by rw [htk]; exact hvn b hb)
        exact ⟨this.1, this.2.1⟩
      rw [htk] at hg1 hk1 hc1
      have HFIN : Hid (∀ w', MPost bk nv1 av1 wv ev N1 A1 M1 (Value.slice la k lc).ownBlock.toList (bk :: (nv1.ownBlock.toList ++ (Value.slice la k lc).ownBlock.toList)) 4 wo w' → MPost bk nv av wv ev N A M ((Value.slice la k lc).ownBlock.toList ++ fpOf ns) (rowsOf bk nv av ++ ((Value.slice la k lc).ownBlock.toList ++ fpOf ns)) (8 * evBulk (evsOf ns) + 4) w w') := by
        intro w' hp
        refine (MPost.then hg1 hk1 hc1 hp (fun b hb => ?_)).le (fun b hb => ?_) (fun b hb => ?_) (Nat.le_refl _)
        · rcases List.mem_cons.1 hb with hb | hb
          · exact .inl (mem_rows.2 (.inl hb))
          · rcases List.mem_append.1 hb with hb | hb
            · exact .inl (mem_rows.2 (.inr (.inl (Option.mem_toList.1 hb))))
            · exact .inr hb
        · exact List.mem_append.2 ((List.mem_append.1 hb).symm)
        · rcases List.mem_append.1 hb with hb | hb
          · exact List.mem_append_left _ hb
          · exact List.mem_append_right _ (List.mem_append.2 ((List.mem_append.1 hb).symm))
      have hsz := HSZ.out
      have hNl : N1.length ≤ 1099511627776 := by omega
      have hl : k ≤ 1099511627776 := by omega
      have HB1 : Hid _ := hb1
      have HOWN : Hid (wo.ownsRow 0 42 4 (.slice la k lc) k (cellsOf ns)) := hown
      obtain ⟨na, nc, hnv⟩ := ownsRow_form hb1.nrow
      subst hnv
      have q1 := hb1.place.cell0
      clear hsz hb1 hown hvn htk hfar hg1 hk1 hc1 hz
      generalize hnn : N1.length = nn at *
      have HNN : Hid (N1.length = nn) := hnn
      clear hnn
      obtain ⟨ln, hlk⟩ : ∃ x, x = k := ⟨_, rfl⟩
      subst hlk
      have HTX : Hid (Calls Tryz.prog 68 #[.int .i64 ((nn : Int) / 4)] wo fun e wo' => e = .returned (.string ⟨(textP (nn / 4)).toArray⟩) ∧ Kept [] wo wo') := markText_any (nn / 4) wo (by omega)
      obtain ⟨T, HT⟩ : ∃ T, Hid (T = (⟨(textP (nn / 4)).toArray⟩ : ByteArray)) := ⟨_, rfl⟩
      have HES : Hid (nMark (nn / 4) = [.string ⟨#[]⟩, .slice none 0 0, .slice none 0 0, .string T]) := by
        show _ = _
        rw [HT.out]
        rfl
      rw [← HT.out] at HTX
      clear HT
      go_wp2_with fail
      refine HTX.out.mono ?_
      rintro e w1 ⟨rfl, hk1⟩
      have hkb : Kept [] wo (w1.alloc (.cells #[.string ⟨#[]⟩, .slice none 0 0, .slice none 0 0, .string T] 42)) := hk1.alloc _
      have hbx : (w1.alloc (.cells #[.string ⟨#[]⟩, .slice none 0 0, .slice none 0 0, .string T] 42)).heap[w1.heap.size]? = some (.cells #[.string ⟨#[]⟩, .slice none 0 0, .slice none 0 0, .string T] 42 (0, 0)) := heap_alloc_new w1 _
      have hbs : w1.heap.size < (w1.alloc (.cells #[.string ⟨#[]⟩, .slice none 0 0, .slice none 0 0, .string T] 42)).heap.size := by simp
      have HS1 : Hid (wo.heap.size ≤ w1.heap.size) := hk1.size
      have HKB : Hid (Kept [] wo (w1.alloc (.cells #[.string ⟨#[]⟩, .slice none 0 0, .slice none 0 0, .string T] 42))) := hkb
      have HBX : Hid _ := hbx
      have HBS : Hid _ := hbs
      clear hkb hbx hbs hk1 q1 HTX
      go_wp2_with fail
      generalize w1.alloc (.cells #[.string ⟨#[]⟩, .slice none 0 0, .slice none 0 0, .string T] 42) = wb at *
      have HOWB : Hid (wb.ownsRow 0 42 4 (.slice la ln lc) ln (again 0 [.string ⟨#[]⟩, .slice none 0 0, .slice none 0 0, .string T] ++ (cellsOf ns).drop (0 * 4))) := by
        have := ownsRow_kept HOWN.out HKB.out (by simp)
        show wb.ownsRow _ _ _ _ _ _
        simpa [again, HLN.out] using this
      have HCK : Hid (∀ W, Kept (Value.slice la ln lc).ownBlock.toList wb W → W.cell? ⟨w1.heap.size, 0, none⟩ = some (.string ⟨#[]⟩) ∧ W.cell? ⟨w1.heap.size, 1, none⟩ = some (.slice none 0 0) ∧ W.cell? ⟨w1.heap.size, 2, none⟩ = some (.slice none 0 0) ∧ W.cell? ⟨w1.heap.size, 3, none⟩ = some (.string T)) := by
        intro W hW
        have e := (hW.block _ HBS.out (fun hc => ?_)).trans HBX.out
        · exact ⟨by unfold World.cell?; rw [e]; rfl, by unfold World.cell?; rw [e]; rfl, by unfold World.cell?; rw [e]; rfl, by unfold World.cell?; rw [e]; rfl⟩
        · have h1 := own_lt HOWN.out (k := w1.heap.size) (Option.mem_toList.1 hc)
          have := HS1.out
          omega
      go_loopg [6] ln (fun g x wr => ∃ k : Nat, k ≤ ln ∧ g = ln - k ∧ x = .int .i64 (k : Int) ∧ Kept (Value.slice la ln lc).ownBlock.toList wb wr ∧ wr.ownsRow 0 42 4 (.slice la ln lc) ln (again k [.string ⟨#[]⟩, .slice none 0 0, .slice none 0 0, .string T] ++ (cellsOf ns).drop (k * 4)))
      case atStart => exact ⟨0, by omega, rfl, rfl, Kept.refl _ _, HOWB.out⟩
      case round =>
        obtain ⟨wi, hwi⟩ : ∃ x, x = wr := ⟨_, rfl⟩
        subst hwi
        obtain ⟨k, hks, hgk, rfl, hkr, hrow⟩ := hrel
        have HG : Hid _ := hgk
        clear hgk
        have hge : (0 : Int) ≤ (k : Int) := by omega
        obtain ⟨m0, m1, m2, m3⟩ := HCK.out wi hkr
        have HKR : Hid (Kept _ wb wi) := hkr
        by_cases hlt : k < ln
        · have hlt' : (k : Int) < (ln : Int) := by omega
          obtain ⟨g, rfl⟩ : ∃ g, la = some ⟨g, 0, none⟩ := by
            rcases hrow.2 with ⟨e, _⟩ | ⟨g, cap, cur, e, _⟩
            · injection e with e1 e2 e3
              omega
            · injection e with e1 e2 e3
              exact ⟨g, e1⟩
          have hxl : (cellsOf ns).length = ln * 4 := by rw [cellsOf_length, HLN.out]
          have hset := mark_set4 rfl hrow hxl hlt
          have HSET : Hid (World.ownsRow _ _ _ _ _ _ _) := hset
          have t0 := row_free hrow (k * 4)
          have t1 := row_free hrow (k * 4 + 1)
          have t2 := row_free hrow (k * 4 + 2)
          have t3 := row_free hrow (k * 4 + 3)
          have hll : (again k [.string ⟨#[]⟩, .slice none 0 0, .slice none 0 0, .string T] ++ (cellsOf ns).drop (k * 4)).length = ln * 4 := hrow.1
          obtain ⟨s0v, s0⟩ : ∃ v, wi.cell? ⟨g, k * 4, none⟩ = some v := ⟨_, row_cell hrow (List.getElem?_eq_getElem (by omega))⟩
          obtain ⟨s1v, s1⟩ : ∃ v, wi.cell? ⟨g, k * 4 + 1, none⟩ = some v := ⟨_, row_cell hrow (List.getElem?_eq_getElem (by omega))⟩
          obtain ⟨s2v, s2⟩ : ∃ v, wi.cell? ⟨g, k * 4 + 2, none⟩ = some v := ⟨_, row_cell hrow (List.getElem?_eq_getElem (by omega))⟩
          obtain ⟨s3v, s3⟩ : ∃ v, wi.cell? ⟨g, k * 4 + 3, none⟩ = some v := ⟨_, row_cell hrow (List.getElem?_eq_getElem (by omega))⟩
          clear hset hrow hxl hll
          go_wp2_with fail
          go_roundg (ln - (k + 1))
          case measure => rw [HG.out]; omega
          case rel =>
            refine ⟨k + 1, by omega, rfl, by first | rfl | congr 1, ?_, HSET.out⟩
            exact (((hkr.setCell (.inl (by simp [Value.ownBlock])) _).setCell (.inl (by simp [Value.ownBlock])) _).setCell (.inl (by simp [Value.ownBlock])) _).setCell (.inl (by simp [Value.ownBlock])) _
        · obtain rfl : k = ln := by omega
          have hlt' : ((k : Int) < (k : Int)) = False := by simp
          have hxl : (cellsOf ns).length = k * 4 := by rw [cellsOf_length, HLN.out]
          have hrow0 : wi.ownsRow 0 42 4 (.slice la k lc) k (again k [.string ⟨#[]⟩, .slice none 0 0, .slice none 0 0, .string T]) := by
            have := hrow
            rwa [List.drop_eq_nil_of_le (by omega), List.append_nil] at this
          have HR0 : Hid (wi.ownsRow 0 42 4 (.slice la k lc) k (again k [.string ⟨#[]⟩, .slice none 0 0, .slice none 0 0, .string T])) := hrow0
          clear hrow hrow0 hxl HOWB
          go_wp2_with (at_builtin; refine wpList_append_mark _ rfl _ _ 31 rfl 42 i0 _ 80 [.string ⟨#[]⟩, .slice none 0 0, .slice none 0 0, .string T] Tryz.underlying31 hi hz0 hz1 hz2 rfl (by simp) _ k rfl _ 1 1 rfl ?own1 ?news1 ?one1 ?len1 ?by1 ?_)
          case own1 => exact ownsRow_kept HR0.out ((Kept.refl [] _).alloc _) (by simp)
          case news1 => exact newsN1 wi _ _ _ _ _
          case one1 => intro u hu; simp at hu; rcases hu with rfl | rfl | rfl | rfl <;> rfl
          case len1 => unfold maxLen; omega
          case by1 => omega
          intro x1 w3 hown3 hmk3 hst3 hmv3 hlt3
          have hk3 : Kept (Value.slice la k lc).ownBlock.toList wb w3 := HKR.out.trans ((((Kept.refl [] wi).alloc _).mono (by simp)).trans hst3.1)
          have HX1 : Hid (MK w3 [.string ⟨#[]⟩, .slice none 0 0, .slice none 0 0, .string T] x1 ∧ Moved (wi.alloc (.cells #[.string ⟨#[]⟩, .slice none 0 0, .slice none 0 0, .string T] 42)) (.slice la k lc) x1 ∧ (∀ b, x1.ownBlock = some b → b < w3.heap.size)) := ⟨hmk3, hmv3, hlt3⟩
          have HW3 : Hid (wi.heap.size ≤ w3.heap.size) := Nat.le_trans ((Kept.refl [] wi).alloc _).size hst3.1.size
          have HR3 : Hid (w3.ownsRow 0 42 4 (.slice la k lc) k (again k [.string ⟨#[]⟩, .slice none 0 0, .slice none 0 0, .string T])) := hown3
          obtain ⟨x1a, x1n, x1c, hx1, _⟩ := hmk3
          subst hx1
          clear m0 m1 m2 m3 hown3 hst3 hmv3 hlt3
          obtain ⟨m0, m1, m2, m3⟩ := HCK.out w3 hk3
          go_wp2_with (at_builtin; refine wpList_append_mark _ rfl _ _ 31 rfl 42 i0 _ 80 [.string ⟨#[]⟩, .slice none 0 0, .slice none 0 0, .string T] Tryz.underlying31 hi hz0 hz1 hz2 rfl (by simp) _ k rfl _ 2 2 rfl ?own2 ?news2 ?one2 ?len2 ?by2 ?_)
          case own2 => exact ownsRow_kept HR3.out ((Kept.refl [] _).alloc _) (by simp)
          case news2 => exact newsN2 w3 _ _ _ _ _
          case one2 => intro u hu; simp at hu; rcases hu with rfl | rfl | rfl | rfl <;> rfl
          case len2 => unfold maxLen; omega
          case by2 => omega
          intro x2 w4 hown4 hmk4 hst4 hmv4 hlt4
          have hk4 : Kept (Value.slice la k lc).ownBlock.toList wb w4 := hk3.trans ((((Kept.refl [] w3).alloc _).mono (by simp)).trans hst4.1)
          have HX2 : Hid (MK w4 [.string ⟨#[]⟩, .slice none 0 0, .slice none 0 0, .string T] x2 ∧ Moved (w3.alloc (.cells #[.string ⟨#[]⟩, .slice none 0 0, .slice none 0 0, .string T, .string ⟨#[]⟩, .slice none 0 0, .slice none 0 0, .string T] 42)) (.slice la k lc) x2 ∧ (∀ b, x2.ownBlock = some b → b < w4.heap.size)) := ⟨hmk4, hmv4, hlt4⟩
          have HR4 : Hid (w4.ownsRow 0 42 4 (.slice la k lc) k (again k [.string ⟨#[]⟩, .slice none 0 0, .slice none 0 0, .string T])) := hown4
          have HST4 : Hid (Stamps [.string ⟨#[]⟩, .slice none 0 0, .slice none 0 0, .string T] (Value.slice la k lc).ownBlock.toList w3 w4) := by
            refine Stamps.trans (Stamps.of ((Kept.refl [] w3).alloc _) (fun x hx => ?_)) hst4
            exact own_lt HR3.out (Option.mem_toList.1 hx)
          obtain ⟨x2a, x2n, x2c, hx2, _⟩ := hmk4
          subst hx2
          clear m0 m1 m2 m3 hown4 hst4 hmv4 hlt4
          obtain ⟨m0, m1, m2, m3⟩ := HCK.out w4 hk4
          go_wp2_with (at_builtin; refine wpList_append_mark _ rfl _ _ 31 rfl 42 i0 _ 80 [.string ⟨#[]⟩, .slice none 0 0, .slice none 0 0, .string T] Tryz.underlying31 hi hz0 hz1 hz2 rfl (by simp) _ k rfl _ 3 3 rfl ?own3 ?news3 ?one3 ?len3 ?by3 ?_)
          case own3 => exact ownsRow_kept HR4.out ((Kept.refl [] _).alloc _) (by simp)
          case news3 => exact newsN3 w4 _ _ _ _ _
          case one3 => intro u hu; simp at hu; rcases hu with rfl | rfl | rfl | rfl <;> rfl
          case len3 => unfold maxLen; omega
          case by3 => omega
          intro x3 w5 hown5 hmk5 hst5 hmv5 hlt5
          have hk5 : Kept (Value.slice la k lc).ownBlock.toList wb w5 := hk4.trans ((((Kept.refl [] w4).alloc _).mono (by simp)).trans hst5.1)
          have HX3 : Hid (MK w5 [.string ⟨#[]⟩, .slice none 0 0, .slice none 0 0, .string T] x3 ∧ Moved (w4.alloc (.cells #[.string ⟨#[]⟩, .slice none 0 0, .slice none 0 0, .string T, .string ⟨#[]⟩, .slice none 0 0, .slice none 0 0, .string T, .string ⟨#[]⟩, .slice none 0 0, .slice none 0 0, .string T] 42)) (.slice la k lc) x3 ∧ (∀ b, x3.ownBlock = some b → b < w5.heap.size)) := ⟨hmk5, hmv5, hlt5⟩
          have HR5 : Hid (w5.ownsRow 0 42 4 (.slice la k lc) k (again k [.string ⟨#[]⟩, .slice none 0 0, .slice none 0 0, .string T])) := hown5
          have HST5 : Hid (Stamps [.string ⟨#[]⟩, .slice none 0 0, .slice none 0 0, .string T] (Value.slice la k lc).ownBlock.toList w4 w5) := by
            refine Stamps.trans (Stamps.of ((Kept.refl [] w4).alloc _) (fun x hx => ?_)) hst5
            exact own_lt HR4.out (Option.mem_toList.1 hx)
          obtain ⟨x3a, x3n, x3c, hx3, _⟩ := hmk5
          subst hx3
          clear m0 m1 m2 m3 hown5 hst5 hmv5 hlt5
          have hkw5 : Kept (Value.slice la k lc).ownBlock.toList wo w5 := (HKB.out.mono (by simp)).trans hk5
          have hpl5 : BookAt w5 bk (.slice na nn nc) av1 wv ev := HB1.out.place.kept hkw5 (fun hc => (HXV.out bk (Option.mem_toList.1 hc)).1 (mem_rows.2 (.inl rfl)))
          have HPL5 : Hid (BookAt w5 bk (.slice na nn nc) av1 wv ev) := hpl5
          have q1 := hpl5.cell0
          clear hpl5
          go_wp2_with (at_builtin; refine wpList_append_fp _ rfl _ _ 24 rfl 0 31 j0 _ 1 24 Tryz.underlying24 hj hy0 hy1 hy2 rfl (by decide) _ nn N1 rfl ?own4 _ 4 4 [.slice la k lc, .slice x1a x1n x1c, .slice x2a x2n x2c, .slice x3a x3n x3c] rfl rfl ?news4 ?one4 ?len4 ?by4 (Nat.zero_le _) ?_)
          case own4 =>
            have h1 := HB1.out.nrow
            rw [HNN.out] at h1
            refine ownsRow_kept h1 (hkw5.alloc _) (fun b hb hc => (HXV.out b (Option.mem_toList.1 hc)).1 (mem_rows.2 (.inr (.inl hb))))
          case news4 => exact new_cells w5 [.slice la k lc, .slice x1a x1n x1c, .slice x2a x2n x2c, .slice x3a x3n x3c] 31
          case one4 => intro u hu; simp at hu; rcases hu with rfl | rfl | rfl | rfl <;> rfl
          case len4 => unfold maxLen; omega
          case by4 => omega
          intro nv' w6 hown6 hgr6 hmv6
          have HO6 : Hid (w6.ownsRow 0 31 1 nv' (nn + 4) (N1 ++ [.slice la k lc, .slice x1a x1n x1c, .slice x2a x2n x2c, .slice x3a x3n x3c])) := hown6
          have hk6 : Kept (Value.slice na nn nc).ownBlock.toList w5 w6 := (((Kept.refl [] w5).alloc _).mono (by simp)).trans (Kept.own hgr6)
          have hbk6 : bk ∉ (Value.slice na nn nc).ownBlock.toList := fun hc => (rows_nd.1 HB1.out.nd).1 (Option.mem_toList.1 hc)
          have hpl6 := HPL5.out.kept hk6 hbk6
          have HPL6 : Hid (BookAt w6 bk (.slice na nn nc) av1 wv ev) := hpl6
          have q6 := hpl6.cell0
          have f6 := hpl6.free 0
          have HMV6 : Hid (∀ b, nv'.ownBlock = some b → (Value.slice na nn nc).ownBlock = some b ∨ w5.heap.size ≤ b) := by
            intro b hb
            rcases hmv6 with hm | ⟨j, hm, hj⟩
            · exact .inl (hm ▸ hb)
            · rw [hm] at hb
              injection hb with hb
              simp at hj
              exact .inr (by omega)
          have HK6 : Hid (Kept _ w5 w6) := hk6
          obtain ⟨va, vc, hva⟩ := ownsRow_form hown6
          subst hva
          clear hown6 hgr6 hmv6 hpl6 hk6 hbk6
          go_wp2_with fail
          refine bodyPost_end (v := .tuple #[]) (by simp [results, Tryz.results45, go_sem]) rfl ?_
          refine ⟨rfl, HFIN.out _ ?_⟩
          obtain ⟨hm1, hv1, hl1⟩ := HX1.out
          obtain ⟨hm2, hv2, hl2⟩ := HX2.out
          obtain ⟨hm3, hv3, hl3⟩ := HX3.out
          have hs35 := HST4.out.1.size
          have hs45 := HST5.out.1.size
          have hwi : wo.heap.size ≤ wi.heap.size := Nat.le_trans HKB.out.size HKR.out.size
          have hw3 : wi.heap.size ≤ w3.heap.size := (HW3.out)
          have hes : nMark (N1.length / 4) = [.string ⟨#[]⟩, .slice none 0 0, .slice none 0 0, .string T] := by rw [HNN.out]; exact HES.out
          have hlo : ∀ b, (Value.slice la k lc).ownBlock = some b → b < wo.heap.size := fun b hb => own_lt HOWN.out hb
          refine markN_end HB1.out (fun b hb => ⟨hlo b hb, HXV.out b hb⟩) hkw5 HK6.out HPL6.out (by rw [HNN.out]; exact HO6.out) ?_ ?_ HMV6.out
          · rw [hes]
            intro x hx
            simp at hx
            rcases hx with rfl | rfl | rfl | rfl
            · exact MK.of_row HR5.out (by simp)
            · exact (hm1.stamps (by simp) HST4.out).stamps (by simp) HST5.out
            · exact hm2.stamps (by simp) HST5.out
            · exact hm3
          · intro x hx b hb
            simp at hx
            have hmoved : ∀ {W : World} {y : Value}, Moved W (.slice la k lc) y → wo.heap.size ≤ W.heap.size → y.ownBlock = some b → (Value.slice la k lc).ownBlock = some b ∨ wo.heap.size ≤ b := by
              intro W y hm hW hy
              rcases hm with hm | ⟨j, hm, hj⟩
              · exact .inl (hm ▸ hy)
              · rw [hm] at hy
                injection hy with hy
                exact .inr (by omega)
            rcases hx with rfl | rfl | rfl | rfl
            · exact ⟨.inl hb, by have := hlo b hb; omega⟩
            · exact ⟨hmoved hv1 (by simp; omega) hb, by have := hl1 b hb; omega⟩
            · exact ⟨hmoved hv2 (by simp; omega) hb, by have := hl2 b hb; omega⟩
            · exact ⟨hmoved hv3 (by simp; omega) hb, hl3 b hb⟩

theorem markNodes_any : ∀ d, MarkOk d
  | 0 => by
    intro bk nv av wv ev v N A M E fp w h hr hnd hX hsz
    obtain ⟨rfl, rfl, rfl⟩ := hr
    exact markNodes_row 0 [] (fun h => absurd rfl h) bk nv av wv ev (.slice none 0 0) N A M w h (World.ownsRow_nil _ _ _ _) (by simp) (by simp [Value.ownBlock, fpOf]) (by simp [Value.ownBlock, fpOf]) hsz
  | d + 1 => by
    intro bk nv av wv ev v N A M E fp w h hr hnd hX hsz
    obtain ⟨ns, h1, h2, rfl, rfl⟩ := hr
    exact markNodes_row d ns (fun _ => markNodes_any d) bk nv av wv ev v N A M w h h1 h2 hnd hX hsz
end Go.Proofs.YtlpmjpmefdpcmaaGreatDoor
