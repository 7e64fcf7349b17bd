import Derived.Test.YtlpmjpmefdpcmaaGreatDoorQUe
import Derived.Deep.RegionHeld3
import Derived.Deep.RegionLaw
/- The book copies nodes, however deep. -/
namespace Go.Proofs.YtlpmjpmefdpcmaaGreatDoor
open Go.RowKit Scrub Go.Shelf
theorem Left.snoc {lo : Nat} {w w' : World} {v v' : Value} {ns : List NodeR} {x : NodeR} (h : Left lo w v ns) (hlo : lo ≤ w.heap.size) (hx : NodeOk Tree w x) (hf : ∀ k ∈ x.fp, (lo ≤ k ∧ k < w.heap.size) ∧ v.ownBlock ≠ some k)
    (hr : w'.ownsRow 0 42 4 v' (ns.length + 1) (cellsOf ns ++ x.cells)) (hm : Moved w v v') (hk : Kept v.ownBlock.toList w w') : Left lo w' v' (ns ++ [x]) := by
  obtain ⟨h1, h2, h3, h4⟩ := h
  have hsz := hk.size
  have hmem : ∀ n ∈ ns ++ [x], NodeOk Tree w n ∧ ∀ k ∈ n.fp, (lo ≤ k ∧ k < w.heap.size) ∧ v.ownBlock ≠ some k := by
    intro n hn
    rcases List.mem_append.1 hn with hn | hn
    · exact ⟨h2 n hn, h4 n hn⟩
    · simp at hn
      subst hn
      exact ⟨hx, hf⟩
  refine ⟨?_, fun n hn => (hmem n hn).1.keep (fun k hkf => hk.block k ((hmem n hn).2 k hkf).1.2 (fun hc => ((hmem n hn).2 k hkf).2 (Option.mem_toList.1 hc))), fun k hk' => ?_, fun n hn k hkf => ?_⟩
  · have e : cellsOf (ns ++ [x]) = cellsOf ns ++ x.cells := by simp [cellsOf]
    rw [e, List.length_append]
    exact hr
  · rcases hm with hm | ⟨b, hm, hb⟩
    · exact h3 k (hm ▸ hk')
    · rw [hm] at hk'
      injection hk' with hk'
      omega
  · obtain ⟨⟨a1, a2⟩, a3⟩ := (hmem n hn).2 k hkf
    refine ⟨⟨a1, by omega⟩, fun hc => ?_⟩
    rcases hm with hm | ⟨b, hm, hb⟩
    · exact a3 (hm ▸ hc)
    · rw [hm] at hc
      injection hc with hc
      omega
/-- What a copy is: a tree of these events, all of it new. -/
def CPost (E : List Ev) (w : World) (e : Ending) (w' : World) : Prop := ∃ (a : Option Addr) (n c : Nat) (fp : List Nat), e = .returned (.slice a n c) ∧ Tree w' (.slice a n c) E fp ∧ (∀ k ∈ fp, w.heap.size ≤ k ∧ k < w'.heap.size) ∧ Kept [] w w'
def CopyOk (d : Nat) : Prop := ∀ (v : Value) (E : List Ev) (fp : List Nat) (w : World), Rep d w v E fp → evBulk E ≤ 1099511627000 →
  Calls Tryz.prog 59 #[v] w (CPost E w)
theorem append_attrs (w : World) (ty : TypeId) (v2 : Value) (al : List (List UInt8 × List UInt8)) (h2 : AOwn w v2 al) (hb : al.length ≤ 1099511627776) :
    ∃ v' w', (Builtin.append_ #[40, 40] ty #[.slice none 0 0, v2]).run Tryz.prog w = .ok v' w' ∧ AOwn w' v' al ∧ Kept [] w w' ∧ (∀ k, v'.ownBlock = some k → w.heap.size ≤ k) := by
  obtain ⟨i0, hi, hz0, hz1, hz2⟩ := info_parts infoAttr
  rcases h2.2 with ⟨rfl, h0⟩ | ⟨g, cap, cur, rfl, _⟩
  · have hal : al = [] := List.eq_nil_of_length_eq_zero h0
    subst hal
    refine ⟨_, w, run_append_owned_none (P := Tryz.prog) (w := w) 0 40 ty 63 i0 2 Tryz.underlying40 hi (.slice none 0 0) 0 [] (World.ownsRow_nil _ _ _ _), World.ownsRow_nil _ _ _ _, Kept.refl _ _, fun k hk => by cases hk⟩
  · obtain ⟨v', w', hr, h3, h4, h5⟩ := run_append_fp (P := Tryz.prog) w 0 40 ty 63 i0 _ 2 32 Tryz.underlying40 hi hz0 hz1 hz2 rfl (by decide) (.slice none 0 0) 0 [] (World.ownsRow_nil _ _ _ _) ⟨g, 0, none⟩ al.length cap (attrCells al) (attrCells_length al) (h2.cells (g := g) rfl) (fun u hu => by
      obtain ⟨x, _, hx⟩ := List.mem_flatMap.1 hu
      simp at hx
      rcases hx with rfl | rfl <;> rfl) (by unfold maxLen; omega) (by omega) (Nat.zero_le _)
    refine ⟨v', w', hr, ?_, Kept.own h4, fun k hk => ?_⟩
    · unfold AOwn
      simpa using h3
    · rcases h5 with h5 | ⟨j, h5, hj⟩
      · rw [h5] at hk
        cases hk
      · rw [h5] at hk
        injection hk with hk
        omega
theorem wpList_append_attrs (w : World) {ops : Array Oper} {rest : List Oper} {o : Oper} {a : Act} {Q : Exit → Act → World → Prop} (hgd : o.guard = none) (s x : Operand)
    (ho : o.op = .call { callee := .builtin .append, args := #[s, x], argTypes := #[40, 40] }) (v2 : Value) (al : List (List UInt8 × List UInt8)) (hs : a.eval s = .slice none 0 0) (hx : a.eval x = v2)
    (h2 : AOwn w v2 al) (hb : al.length ≤ 1099511627776)
    (h : ∀ v' w', AOwn w' v' al → Kept [] w w' → (∀ k, v'.ownBlock = some k → w.heap.size ≤ k) → wpList Tryz.prog ops Q rest (a.put o.dst v') w') : wpList Tryz.prog ops Q (o :: rest) a w := by
  refine wpList_plain hgd fun _ hK => ?_
  obtain ⟨v', w', hr, h3, h4, h5⟩ := append_attrs w o.type v2 al h2 hb
  unfold Oper.wp execOp
  simp only [ho, resolve, invoke, builtin, Sem.run_bind, Sem.run_pure, Result.andThen_ok, List.map_toArray, List.map_cons, List.map_nil, hs, hx, hr]
  exact hK _ _ (h v' w' h3 h4 h5)
set_option maxRecDepth 100000 in
set_option maxHeartbeats 4000000 in
theorem copied_row (d : Nat) (ns : List NodeR) (ih : ns ≠ [] → CopyOk d) (v : Value) (w : World) (hrow : w.ownsRow 0 42 4 v ns.length (cellsOf ns)) (hok : ∀ n ∈ ns, NodeOk (Rep d) w n) (hsz : evBulk (evsOf ns) ≤ 1099511627000) :
    Calls Tryz.prog 59 #[v] w (CPost (evsOf ns) w) := by
  obtain ⟨i0, hi, hz0, hz1, hz2⟩ := info_parts infoNode
  obtain ⟨la, lc, rfl⟩ := ownsRow_form hrow
  have HIH : Hid _ := ih
  have HROW : Hid (w.ownsRow 0 42 4 (.slice la ns.length lc) ns.length (cellsOf ns)) := hrow
  have HOK : Hid _ := hok
  have HSZ : Hid _ := hsz
  have hnl := evBulk_evs ns
  clear ih hrow hok
  generalize hln : ns.length = ln at *
  have HLN : Hid (ns.length = ln) := hln
  clear hln
  have hln40 : ln ≤ 1099511627000 := by omega
  clear hsz hnl
  go_enter Tryz.func59, Tryz.ntmps59
  go_wp2_with fail
  go_loopg [3, 4] ln (fun g ov x wr => ∃ (k : Nat) (os : List NodeR), k ≤ ln ∧ g = ln - k ∧ x = .int .i64 (k : Int) ∧ Left w.heap.size wr ov os ∧ os.length = k ∧ evsOf os = evsOf (ns.take k) ∧ Kept [] w wr)
  case atStart => exact ⟨0, [], by omega, rfl, rfl, Left.nil _ _, rfl, rfl, Kept.refl _ _⟩
  case round =>
    obtain ⟨wo, hwo⟩ : ∃ x, x = wr := ⟨_, rfl⟩
    subst hwo
    obtain ⟨k, os, hks, hgk, rfl, hleft, hol, hoe, hkw⟩ := hrel
    have HG : Hid _ := hgk
    have HLEFT : Hid (Left w.heap.size wo _ os) := hleft
    have HOL : Hid (os.length = k) := hol
    have HOE : Hid (evsOf os = evsOf (ns.take k)) := hoe
    have hge : (0 : Int) ≤ (k : Int) := by omega
    obtain ⟨oa, oc, hov⟩ := ownsRow_form hleft.1
    rw [hol] at hov
    subst hov
    clear hgk hleft hol hoe
    by_cases hlt : k < ln
    · have hlt' : (k : Int) < (ln : Int) := by omega
      have hltl : k < ns.length := by rw [HLN.out]; exact hlt
      have hown : wo.ownsRow 0 42 4 (.slice la ln lc) ln (cellsOf ns) := ownsRow_kept HROW.out hkw (by simp)
      obtain ⟨g, rfl⟩ : ∃ g, la = some ⟨g, 0, none⟩ := by
        rcases hown.2 with ⟨e, _⟩ | ⟨g, cap, cur, e, _⟩
        · injection e with e1 e2 e3
          omega
        · injection e with e1 e2 e3
          exact ⟨g, e1⟩
      obtain ⟨c0, c1, c2, c3⟩ := cellsOf_get ns k hltl
      have q0 := row_cell hown c0
      have q1 := row_cell hown c1
      have q2 := row_cell hown c2
      have q3 := row_cell hown c3
      have hokn := HOK.out _ (List.getElem_mem hltl)
      have hal := node_attrs hokn
      have hbn := node_bulk hokn
      have hev := ev_take hltl
      have hel := ev_take_le ns (k + 1)
      have hsz := HSZ.out
      have HET : Hid (evsOf (ns.take (k + 1)) = evsOf (ns.take k) ++ (ns[k]).evs) := by
        show _ = _
        rw [List.take_succ_eq_append_getElem hltl, evsOf_append]
        simp [evsOf]
      have hglt : g < w.heap.size := own_lt HROW.out rfl
      have hIH := HIH.out (by intro h0; rw [h0] at hltl; simp at hltl)
      generalize ns[k] = n at *
      obtain ⟨kfp, hA, hK, hfp, hcond⟩ := hokn
      obtain ⟨aa, ac, hav⟩ := ownsRow_form hA
      obtain ⟨ka, kn, kc, hkv⟩ := hK.form
      have HCOND : Hid _ := hcond
      have HAO : Hid (AOwn wo n.av n.al) := ownsRow_kept hA hkw (by simp)
      have halb : n.al.length ≤ 1099511627776 := by omega
      have HCALL : Hid (∀ W, Kept [] w W → Calls Tryz.prog 59 #[n.kv] W (CPost n.ev W)) := fun W hW => hIH n.kv n.ev kfp W (Rep.same d _ _ _ hK (fun b hb => hW.block b (Rep.lt d hK b hb) (by simp))) (by omega)
      rw [hav] at q1 HAO
      rw [hkv] at q2 HCALL
      clear hal hbn hev hel hsz hA hK hfp hcond hown c0 c1 c2 c3 hIH hav hkv
      go_wp2_with (at_builtin; refine wpList_append_attrs _ rfl _ _ rfl _ n.al rfl rfl ?ao ?ab ?_)
      case ao => exact HAO.out
      case ab => exact halb
      intro av2 w2 ha2 hk2 hn2
      have HA2 : Hid (AOwn w2 av2 n.al ∧ ∀ b, av2.ownBlock = some b → wo.heap.size ≤ b) := ⟨ha2, hn2⟩
      obtain ⟨va, vc, hva⟩ := ownsRow_form ha2
      subst hva
      have HK2 : Hid (Kept [] wo w2) := hk2
      have p0 := cell_kept hk2 q0
      have p2 := cell_kept hk2 q2
      have p3 := cell_kept hk2 q3
      have HQ : Hid (∀ W, Kept [] w2 W → W.cell? ⟨g, k * 4, none⟩ = some (.string ⟨n.name.toArray⟩) ∧ W.cell? ⟨g, k * 4 + 2, none⟩ = some (.slice ka kn kc) ∧ W.cell? ⟨g, k * 4 + 3, none⟩ = some (.string ⟨n.text.toArray⟩)) := fun W hW => ⟨cell_kept hW p0, cell_kept hW p2, cell_kept hW p3⟩
      have HFAR : Hid (∀ W0 w', Kept [] w2 W0 → W0.grownBy w' (Value.slice oa k oc).ownBlock → w'.cell? ⟨g, k * 4, none⟩ = some (.string ⟨n.name.toArray⟩) ∧ w'.cell? ⟨g, k * 4 + 2, none⟩ = some (.slice ka kn kc) ∧ w'.cell? ⟨g, k * 4 + 3, none⟩ = some (.string ⟨n.text.toArray⟩)) := by
        intro W0 w' hW0 hgr
        obtain ⟨r0, r2, r3⟩ := HQ.out W0 hW0
        have hkg := Kept.own hgr
        have hng : ∀ i, (⟨g, i, none⟩ : Addr).block ∉ (Value.slice oa k oc).ownBlock.toList := by
          intro i hc
          have := HLEFT.out.2.2.1 g (Option.mem_toList.1 hc)
          omega
        exact ⟨(hkg.cell (cell_lt r0) (hng _)).trans r0, (hkg.cell (cell_lt r2) (hng _)).trans r2, (hkg.cell (cell_lt r3) (hng _)).trans r3⟩
      have HOWN : Hid (∀ W, Kept [] w2 W → W.ownsRow 0 42 4 (.slice oa k oc) k (cellsOf os)) := by
        intro W hW
        have := ownsRow_kept HLEFT.out.1 (HK2.out.trans hW) (by simp)
        rwa [HOL.out] at this
      have hkw2 := hkw.trans hk2
      clear q0 q1 q2 q3 ha2 hn2 HAO
      go_wp2_with fail
      go_region_held3 (fun w' => w'.cell? ⟨g, k * 4, none⟩ = some (.string ⟨n.name.toArray⟩) ∧ w'.cell? ⟨g, k * 4 + 2, none⟩ = some (.slice ka kn kc) ∧ w'.cell? ⟨g, k * 4 + 3, none⟩ = some (.string ⟨n.text.toArray⟩)) (go_keep)
        (first
          | (refine step_append_fp (by rfl) (.tmp 19) (.tmp 38) 31 (by rfl) 0 42 i0 _ 4 80 Tryz.underlying31 hi hz0 hz1 hz2 (by rfl) (by decide) (.slice oa k oc) k (cellsOf os) (by simp [Act.eval]) (by exact HOWN.out _ (hk5.alloc _)) _ 1 1 [.string ⟨n.name.toArray⟩, .slice va n.al.length vc, .slice ka5 kn5 kc5, .string ⟨n.text.toArray⟩] (by simp [Act.eval]; rfl) rfl (by exact new_cells w5 [.string ⟨n.name.toArray⟩, .slice va n.al.length vc, .slice ka5 kn5 kc5, .string ⟨n.text.toArray⟩] 42) (by simp [Value.oneCell']) (by unfold maxLen; omega) (by omega) (Nat.zero_le _) ?_; intro ov6 w6 hown6 hgr6 hmv6; obtain ⟨s0, s2, s3⟩ := HFAR.out _ _ (hk5.alloc _) hgr6)
          | (go_at_call 59; refine (HCALL.out _ (by first | exact hkw2 | exact hkw2.drew | exact hkw2.drewN _)).mono ?_; rintro e w5 ⟨ka5, kn5, kc5, kfp5, rfl, hT5, hb5, hk5'⟩; have hk5 : Kept [] w2 w5 := (by first | exact hk5' | exact (Kept.refl [] w2).drew.trans hk5' | exact ((Kept.refl [] w2).drewN _).trans hk5'); obtain ⟨r0, r2, r3⟩ := HQ.out w5 hk5)
          | fail)
      have HNEXT : Hid (Left w.heap.size w6 ov6 (os ++ [{ name := n.name, text := n.text, av := .slice va n.al.length vc, kv := .slice ka5 kn5 kc5, al := n.al, ev := n.ev, fp := (Value.slice va n.al.length vc).ownBlock.toList ++ kfp5 }]) ∧ Kept [] w w6) := by
        have hka : Kept [] w5 (w5.alloc (.cells #[.string ⟨n.name.toArray⟩, .slice va n.al.length vc, .slice ka5 kn5 kc5, .string ⟨n.text.toArray⟩] 42)) := (Kept.refl [] w5).alloc _
        have hb5' : ∀ b ∈ kfp5, w2.heap.size ≤ b ∧ b < w5.heap.size := hb5
        have h25 := hk5.size
        have h02 := HK2.out.size
        have hw0 := hkw.size
        have hsa := hka.size
        obtain ⟨ha1, ha2⟩ := HA2.out
        have hol : ∀ b, (Value.slice oa k oc).ownBlock = some b → b < wo.heap.size := fun b hb => own_lt HLEFT.out.1 hb
        have hgk := Kept.own hgr6
        refine ⟨Left.snoc (HLEFT.out.kept (HK2.out.trans (hk5.trans hka))) (by omega) ⟨kfp5, ?_, ?_, rfl, HCOND.out⟩ ?_ ?_ hmv6 hgk, ?_⟩
        · exact ownsRow_kept ha1 (hk5.trans hka) (by simp)
        · exact hT5.same (fun b hb => hka.block b (hb5' b hb).2 (by simp))
        · intro b hb
          rcases List.mem_append.1 hb with hb | hb
          · have h1 := ha2 b (Option.mem_toList.1 hb)
            have h2 := own_lt ha1 (Option.mem_toList.1 hb)
            refine ⟨⟨by omega, by omega⟩, fun hc => ?_⟩
            have := hol b hc
            omega
          · have h1 := hb5' b hb
            refine ⟨⟨by omega, by omega⟩, fun hc => ?_⟩
            have := hol b hc
            omega
        · rw [HOL.out]
          exact hown6
        · refine (hkw2.trans (hk5.trans hka)).trans_new hgk (fun b hb => .inr ?_)
          exact HLEFT.out.2.2.1 b (Option.mem_toList.1 hb)
      have HEV : Hid (evsOf (os ++ [{ name := n.name, text := n.text, av := .slice va n.al.length vc, kv := .slice ka5 kn5 kc5, al := n.al, ev := n.ev, fp := (Value.slice va n.al.length vc).ownBlock.toList ++ kfp5 }]) = evsOf (ns.take (k + 1))) := by
        show _ = _
        rw [HET.out, evsOf_append, HOE.out]
        congr 1
        simp [evsOf, NodeR.evs]
      obtain ⟨oa6, oc6, hov6⟩ := ownsRow_form hown6
      subst hov6
      clear hown6 hgr6 hmv6 hT5 hb5 hk5'
      go_wp2_with fail
      go_roundg (ln - (k + 1))
      case measure => rw [HG.out]; omega
      case rel => exact ⟨k + 1, _, by omega, rfl, by first | rfl | congr 1, HNEXT.out.1, by simp [HOL.out], HEV.out, HNEXT.out.2⟩
    · obtain rfl : k = ln := by omega
      have hlt' : ((k : Int) < (k : Int)) = False := by simp
      go_wp2_with fail
      go_ret
      have htk : ns.take k = ns := List.take_of_length_le (by rw [HLN.out]; exact Nat.le_refl _)
      have ht := HLEFT.out.tree
      rw [HOE.out, htk] at ht
      refine ⟨oa, k, oc, _, rfl, ht, fun b hb => ?_, hkw⟩
      rcases List.mem_append.1 hb with hb | hb
      · exact ⟨HLEFT.out.2.2.1 b (Option.mem_toList.1 hb), own_lt HLEFT.out.1 (Option.mem_toList.1 hb)⟩
      · obtain ⟨n, hn, hb⟩ := List.mem_flatMap.1 hb
        exact (HLEFT.out.2.2.2 n hn b hb).1
theorem copied_any : ∀ d, CopyOk d
  | 0 => by
    intro v E fp w hr hsz
    obtain ⟨rfl, rfl, rfl⟩ := hr
    exact copied_row 0 [] (fun h => absurd rfl h) (.slice none 0 0) w (World.ownsRow_nil _ _ _ _) (by simp) hsz
  | d + 1 => by
    intro v E fp w hr hsz
    obtain ⟨ns, h1, h2, rfl, rfl⟩ := hr
    exact copied_row d ns (fun _ => copied_any d) v w h1 h2 hsz
end Go.Proofs.YtlpmjpmefdpcmaaGreatDoor
/- The book keeps a list that came out, and a copy of it. -/
namespace Go.Proofs.YtlpmjpmefdpcmaaGreatDoor
open Go.RowKit Scrub Go.Shelf
theorem BookAt.setW {w : World} {bk : Nat} {nv av wv ev : Value} (h : BookAt w bk nv av wv ev) (u : Value) : BookAt (w.setCell ⟨bk, 3, none⟩ u) bk nv av u ev := block_set h 3 u
theorem BookAt.setE {w : World} {bk : Nat} {nv av wv ev : Value} (h : BookAt w bk nv av wv ev) (u : Value) : BookAt (w.setCell ⟨bk, 4, none⟩ u) bk nv av wv u := block_set h 4 u
theorem BookAt.cell3 {w : World} {bk : Nat} {nv av wv ev : Value} (h : BookAt w bk nv av wv ev) : w.cell? ⟨bk, 3, none⟩ = some wv := by
  have e : w.heap[bk]? = _ := h
  unfold World.cell?
  rw [e]
  rfl
theorem BookAt.cell4 {w : World} {bk : Nat} {nv av wv ev : Value} (h : BookAt w bk nv av wv ev) : w.cell? ⟨bk, 4, none⟩ = some ev := by
  have e : w.heap[bk]? = _ := h
  unfold World.cell?
  rw [e]
  rfl
theorem BookAt.cellT {w : World} {bk : Nat} {nv av wv ev : Value} (h : BookAt w bk nv av wv ev) : w.cell? ⟨bk, 2, none⟩ = some (.slice none 0 0) ∧ w.cell? ⟨bk, 5, none⟩ = some (.slice none 0 0) ∧ w.cell? ⟨bk, 6, none⟩ = some (.slice none 0 0) := by
  have e : w.heap[bk]? = _ := h
  exact ⟨by unfold World.cell?; rw [e]; rfl, by unfold World.cell?; rw [e]; rfl, by unfold World.cell?; rw [e]; rfl⟩
/-- What keeping a list leaves. -/
def KPost (bk : Nat) (nv av wv ev l : Value) (W E : List Value) (V : List Ev) (w w' : World) : Prop :=
  ∃ wv' ev' v' efp z1 z2, (BookAt w' bk nv av wv' ev' ∧ w'.ownsRow 0 31 1 wv' (W.length + 1) (W ++ [l]) ∧ w'.ownsRow 0 31 1 ev' (E.length + 1) (E ++ [v'])) ∧ Tree w' v' V efp ∧ Kept (bk :: (wv.ownBlock.toList ++ ev.ownBlock.toList)) w w' ∧
    (w.heap.size ≤ z1 ∧ z1 ≤ z2 ∧ z2 ≤ w'.heap.size) ∧ (∀ b, wv'.ownBlock = some b → wv.ownBlock = some b ∨ (w.heap.size ≤ b ∧ b < z1)) ∧ (∀ b ∈ efp, z1 ≤ b ∧ b < z2) ∧ ∀ b, ev'.ownBlock = some b → ev.ownBlock = some b ∨ z2 ≤ b
set_option maxRecDepth 100000 in
set_option maxHeartbeats 4000000 in
theorem keepNodes_any (bk : Nat) (nv av wv ev l : Value) (W E : List Value) (V : List Ev) (d : Nat) (fp : List Nat) (w : World) (hB : BookAt w bk nv av wv ev) (hw : w.ownsRow 0 31 1 wv W.length W) (he : w.ownsRow 0 31 1 ev E.length E)
    (h1 : wv.ownBlock ≠ some bk) (h2 : ev.ownBlock ≠ some bk) (h3 : ∀ b, wv.ownBlock = some b → ev.ownBlock ≠ some b) (hR : Rep d w l V fp) (hf : ∀ b ∈ fp, b ≠ bk ∧ wv.ownBlock ≠ some b) (hV : evBulk V ≤ 1099511627000) (hWl : W.length ≤ 1099511627000) (hEl : E.length ≤ 1099511627000) :
    Calls Tryz.prog 30 #[.pointer (some ⟨bk, 0, none⟩), l] w fun e w' => e = .returned (.tuple #[]) ∧ KPost bk nv av wv ev l W E V w w' := by
  obtain ⟨j0, hj, hy0, hy1, hy2⟩ := info_parts infoNs
  obtain ⟨wa, wc, rfl⟩ := ownsRow_form hw
  obtain ⟨ea, ec, rfl⟩ := ownsRow_form he
  obtain ⟨la, ln, lc, rfl⟩ := hR.form
  have hbk := hB.lt
  have q3 := hB.cell3
  have f3 := hB.free 3
  have HB : Hid (BookAt w bk nv av (.slice wa W.length wc) (.slice ea E.length ec)) := hB
  have HW : Hid (w.ownsRow _ _ _ _ _ _) := hw
  have HE : Hid (w.ownsRow _ _ _ _ _ _) := he
  have H1 : Hid _ := h1
  have H2 : Hid _ := h2
  have H3 : Hid _ := h3
  have HR : Hid (Rep d w _ V fp) := hR
  have HF : Hid _ := hf
  clear hB hw he h1 h2 h3 hR hf
  generalize hwn : W.length = wn at *
  generalize hen : E.length = en at *
  have HWN : Hid (W.length = wn) := hwn
  have HEN : Hid (E.length = en) := hen
  clear hwn hen
  go_enter Tryz.func30, Tryz.ntmps30
  go_wp2_with (at_builtin; refine wpList_append_fp _ rfl _ _ 24 rfl 0 31 j0 _ 1 24 Tryz.underlying24 hj hy0 hy1 hy2 rfl (by decide) _ wn W rfl ?own1 _ 1 1 [.slice la ln lc] rfl rfl ?news1 ?one1 ?len1 ?by1 (Nat.zero_le _) ?_)
  case own1 => exact ownsRow_kept HW.out ((Kept.refl [] w).alloc _) (by simp)
  case news1 => exact new_cells w [.slice la ln lc] 31
  case one1 => intro u hu; simp at hu; subst hu; rfl
  case len1 => unfold maxLen; omega
  case by1 => omega
  intro wv' w1 hown1 hgr1 hmv1
  have hk1 : Kept (Value.slice wa wn wc).ownBlock.toList w w1 := (((Kept.refl [] w).alloc _).mono (by simp)).trans (Kept.own hgr1)
  have hb1 : bk ∉ (Value.slice wa wn wc).ownBlock.toList := fun hc => H1.out (Option.mem_toList.1 hc)
  have hB1 := HB.out.kept hk1 hb1
  have r3 := hB1.cell3
  have g3 := hB1.free 3
  have hB2 := hB1.setW wv'
  have HB2 : Hid (BookAt (w1.setCell ⟨bk, 3, none⟩ wv') bk nv av wv' (.slice ea en ec)) := hB2
  have HK2 : Hid (Kept (bk :: (Value.slice wa wn wc).ownBlock.toList) w (w1.setCell ⟨bk, 3, none⟩ wv')) := (hk1.mono (fun b hb => by simp [hb])).setCell (.inl (by simp)) _
  have HMV1 : Hid (∀ b, wv'.ownBlock = some b → (Value.slice wa wn wc).ownBlock = some b ∨ (w.heap.size ≤ b ∧ b < w1.heap.size)) := by
    intro b hb
    rcases hmv1 with hm | ⟨j, hm, hj⟩
    · exact .inl (hm ▸ hb)
    · have hlt := own_lt hown1 hb
      rw [hm] at hb
      injection hb with hb
      simp at hj
      exact .inr ⟨by omega, hlt⟩
  have HO2 : Hid ((w1.setCell ⟨bk, 3, none⟩ wv').ownsRow 0 31 1 wv' (wn + 1) (W ++ [.slice la ln lc])) := by
    refine ownsRow_kept hown1 ((Kept.refl [bk] w1).setCell (.inl (by simp)) _) (fun b hb hc => ?_)
    have hc' : b = bk := by simpa using hc
    subst hc'
    rcases HMV1.out b hb with hb | hb
    · exact H1.out hb
    · omega
  have HS2 : Hid ((w1.setCell ⟨bk, 3, none⟩ wv').heap.size = w1.heap.size) := by
    show _ = _
    simp
  obtain ⟨va, vc, hva⟩ := ownsRow_form hown1
  subst hva
  have q4 := hB2.cell4
  clear hown1 hgr1 hmv1 hk1 hb1 hB1 hB2 q3 f3
  go_wp2_with fail
  generalize hw2 : w1.setCell ⟨bk, 3, none⟩ (.slice va (wn + 1) vc) = w2 at *
  have HCALL : Hid (∀ W, Kept [] w2 W → Calls Tryz.prog 59 #[.slice la ln lc] W (CPost V W)) := by
    intro W hW
    refine copied_any d _ V fp W (Rep.same d _ _ _ HR.out (fun b hb => ?_)) hV
    have hbl := Rep.lt d HR.out b hb
    have hk := HK2.out
    refine (hW.block b (Nat.lt_of_lt_of_le hbl hk.size) (by simp)).trans (hk.block b hbl (fun hc => ?_))
    rcases List.mem_cons.1 hc with hc | hc
    · exact (HF.out b hb).1 hc
    · exact (HF.out b hb).2 (Option.mem_toList.1 hc)
  have HOE : Hid (∀ W, Kept [] w2 W → W.ownsRow 0 31 1 (.slice ea en ec) en E) := by
    intro W hW
    refine ownsRow_kept (ownsRow_kept HE.out HK2.out (fun b hb hc => ?_)) hW (by simp)
    rcases List.mem_cons.1 hc with hc | hc
    · exact H2.out (hc ▸ hb)
    · exact H3.out b (Option.mem_toList.1 hc) hb
  have HST : Hid (∀ W0 w', Kept [] w2 W0 → W0.grownBy w' (Value.slice ea en ec).ownBlock → w'.cell? ⟨bk, 4, none⟩ = some (.slice ea en ec) ∧ w'.frozen? ⟨bk, 4, none⟩ = false) := by
    intro W0 w' hW0 hgr
    have h1 := (HB2.out.kept hW0 (by simp)).kept (Kept.own hgr) (fun hc => H2.out (Option.mem_toList.1 hc))
    exact ⟨h1.cell4, h1.free 4⟩
  go_region_law (first
    | (refine step_append_fp (by rfl) (.tmp 18) (.tmp 21) 24 (by rfl) 0 31 j0 _ 1 24 Tryz.underlying24 hj hy0 hy1 hy2 (by rfl) (by decide) (.slice ea en ec) en E (by simp [Act.eval]) (by exact HOE.out _ (hk5.alloc _)) _ 1 1 [.slice va5 vn5 vc5] (by simp [Act.eval]; rfl) rfl (by exact new_cells w5 [.slice va5 vn5 vc5] 31) (by simp [Value.oneCell']) (by unfold maxLen; omega) (by omega) (Nat.zero_le _) ?_; intro ev6 w6 hown6 hgr6 hmv6; obtain ⟨s4, t4⟩ := HST.out _ _ (hk5.alloc _) hgr6; obtain ⟨ea6, ec6, rfl⟩ := ownsRow_form hown6)
    | (go_simp; go_at_call 59; refine (HCALL.out _ (by first | exact Kept.refl [] _ | exact (Kept.refl [] _).drew | exact (Kept.refl [] _).drewN _)).mono ?_; rintro e w5 ⟨va5, vn5, vc5, efp, rfl, hT5, hb5, hk5'⟩; have hk5 : Kept [] w2 w5 := (by first | exact hk5' | exact (Kept.refl [] w2).drew.trans hk5' | exact ((Kept.refl [] w2).drewN _).trans hk5'); have r4 := cell_kept hk5 q4; have r4a := cell_kept ((Kept.refl [] w5).alloc (.cells #[.slice va5 vn5 vc5] 31)) r4; dsimp only))
  all_goals
    refine bodyPost_end (v := .tuple #[]) (by simp [results, Tryz.results30, go_sem]) rfl ⟨rfl, ?_⟩
    have hka : Kept [] w5 (w5.alloc (.cells #[.slice va5 vn5 vc5] 31)) := (Kept.refl [] w5).alloc _
    have h25 := hk5.size
    have hsa := hka.size
    have hs2 := HS2.out
    have hw1 := HK2.out.size
    have hgk := Kept.own hgr6
    have h6s := hgk.size
    have hel : ∀ b, (Value.slice ea en ec).ownBlock = some b → b < w.heap.size := fun b hb => own_lt HE.out hb
    have hb5' : ∀ b ∈ efp, w2.heap.size ≤ b ∧ b < w5.heap.size := hb5
    have hmv : ∀ b, (Value.slice ea6 (en + 1) ec6).ownBlock = some b → (Value.slice ea en ec).ownBlock = some b ∨ w5.heap.size ≤ b := by
      intro b hb
      rcases hmv6 with hm | ⟨j, hm, hj⟩
      · exact .inl (hm ▸ hb)
      · rw [hm] at hb
        injection hb with hb
        exact .inr (by omega)
    have hset : Kept [bk] w6 (w6.setCell ⟨bk, 4, none⟩ (.slice ea6 (en + 1) ec6)) := (Kept.refl [bk] w6).setCell (.inl (by simp)) _
    refine ⟨.slice va (wn + 1) vc, .slice ea6 (en + 1) ec6, .slice va5 vn5 vc5, efp, w1.heap.size, w5.heap.size, ⟨?_, ?_, ?_⟩, ?_, ?_, ⟨by omega, by omega, by simp; omega⟩, HMV1.out, fun b hb => ⟨by have := (hb5' b hb).1; omega, (hb5' b hb).2⟩, hmv⟩
    · exact ((HB2.out.kept (hk5.trans hka) (by simp)).kept hgk (fun hc => H2.out (Option.mem_toList.1 hc))).setE _
    · rw [HWN.out]
      refine ownsRow_kept (ownsRow_kept (ownsRow_kept HO2.out (hk5.trans hka) (by simp)) hgk (fun b hb hc => ?_)) hset (fun b hb hc => ?_)
      · have hc' := Option.mem_toList.1 hc
        rcases HMV1.out b hb with h1 | h1
        · exact H3.out b h1 hc'
        · have := hel b hc'
          omega
      · have hc' : b = bk := by simpa using hc
        subst hc'
        rcases HMV1.out b hb with h1 | h1
        · exact H1.out h1
        · omega
    · rw [HEN.out]
      refine ownsRow_kept hown6 hset (fun b hb hc => ?_)
      have hc' : b = bk := by simpa using hc
      subst hc'
      rcases hmv b hb with h1 | h1
      · exact H2.out h1
      · omega
    · refine ((hT5.same (fun b hb => hka.block b (hb5' b hb).2 (by simp))).same (fun b hb => hgk.block b (by have := (hb5' b hb).2; omega) (fun hc => ?_))).same (fun b hb => hset.block b (by have := (hb5' b hb).2; omega) (fun hc => ?_))
      · have := hel b (Option.mem_toList.1 hc)
        have := (hb5' b hb).1
        omega
      · have hc' : b = bk := by simpa using hc
        have := (hb5' b hb).1
        omega
    · refine (((HK2.out.mono (fun b hb => ?_)).trans ((hk5.trans hka).mono (by simp))).trans (hgk.mono (fun b hb => ?_))).setCell (.inl (by simp)) _
      · rcases List.mem_cons.1 hb with hb | hb
        · simp [hb]
        · simp [hb]
      · simp [hb]
end Go.Proofs.YtlpmjpmefdpcmaaGreatDoor
