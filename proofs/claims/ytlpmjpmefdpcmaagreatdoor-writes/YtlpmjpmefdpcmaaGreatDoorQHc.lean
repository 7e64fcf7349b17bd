import Derived.Test.YtlpmjpmefdpcmaaGreatDoorQHb
import Derived.Deep.RegionHeld3
/- handedNodes. -/
namespace Go.Proofs.YtlpmjpmefdpcmaaGreatDoor
open Go.RowKit Scrub Go.Shelf
theorem RowsAt.unfrozen {w : World} {b : Nat} {t : TypeId} {R : List (List Value)} (h : RowsAt w b t R) (i : Nat) : w.frozen? ⟨b, i, none⟩ = false := by
  have h' : w.heap[b]? = _ := h
  simp [World.frozen?, h']
theorem attr_spot {w : World} {b : Nat} {t : TypeId} {al : List (List UInt8 × List UInt8)} {j m : Nat} (h : RowsAt w b t (al.map aRow ++ (List.replicate j bAttr ++ List.replicate (m + 1) zAttr))) :
    (w.cell? ⟨b, (al.length + j) * 2, none⟩ = some (.string ⟨#[]⟩) ∧ w.cell? ⟨b, (al.length + j) * 2 + 1, none⟩ = some (.string ⟨#[]⟩)) ∧ (w.frozen? ⟨b, (al.length + j) * 2, none⟩ = false ∧ w.frozen? ⟨b, (al.length + j) * 2 + 1, none⟩ = false) ∧
    RowsAt ((w.setCell ⟨b, (al.length + j) * 2, none⟩ (.string ⟨#[33]⟩)).setCell ⟨b, (al.length + j) * 2 + 1, none⟩ (.string ⟨#[33]⟩)) b t (al.map aRow ++ (List.replicate (j + 1) bAttr ++ List.replicate m zAttr)) := by
  have hR : ∀ r ∈ al.map aRow ++ (List.replicate j bAttr ++ List.replicate (m + 1) zAttr), r.length = 2 := by
    intro r hr
    rcases List.mem_append.1 hr with hr | hr
    · obtain ⟨p, _, rfl⟩ := List.mem_map.1 hr; rfl
    · rcases List.mem_append.1 hr with hr | hr <;> (rw [(List.mem_replicate.1 hr).2]; rfl)
  have hi : al.length + j < (al.map aRow ++ (List.replicate j bAttr ++ List.replicate (m + 1) zAttr)).length := by simp
  have he : (al.map aRow ++ (List.replicate j bAttr ++ List.replicate (m + 1) zAttr))[al.length + j] = zAttr := by
    rw [List.getElem_append_right (by simp), List.getElem_append_right (by simp)]
    simp
  have c0 := h.cell 2 (al.length + j) 0 hi hR (by omega)
  have c1 := h.cell 2 (al.length + j) 1 hi hR (by omega)
  rw [he] at c0 c1
  refine ⟨⟨c0, c1⟩, ⟨h.unfrozen _, h.unfrozen _⟩, ?_⟩
  have hst := h.set2 hR (al.length + j) (.string ⟨#[33]⟩) (.string ⟨#[33]⟩)
  have e : (al.map aRow ++ (List.replicate j bAttr ++ List.replicate (m + 1) zAttr)).set (al.length + j) [.string ⟨#[33]⟩, .string ⟨#[33]⟩] = al.map aRow ++ (List.replicate (j + 1) bAttr ++ List.replicate m zAttr) := by
    rw [List.set_append_right _ _ (by simp), List.length_map, show al.length + j - al.length = j by omega, List.set_append_right _ _ (by simp), List.length_replicate, Nat.sub_self, List.replicate_succ, List.set_cons_zero, List.replicate_succ', List.append_assoc]
    rfl
  rw [e] at hst
  exact hst
theorem HPart.spot {d : Nat} {R : World → Nat → GF d → List Nat → Prop} {w : World} {b : Nat} {l : List (GN d)} {pre post : List (List Value)} {v0 v1 v2 v3 : Value} {fp : List Nat} (h : HPart d R w b l (pre ++ [v0, v1, v2, v3] :: post) fp) (hp : ∀ r ∈ pre ++ [v0, v1, v2, v3] :: post, r.length = 4) :
    (w.cell? ⟨b, (l.length + pre.length) * 4, none⟩ = some v0 ∧ w.cell? ⟨b, (l.length + pre.length) * 4 + 1, none⟩ = some v1 ∧ w.cell? ⟨b, (l.length + pre.length) * 4 + 2, none⟩ = some v2 ∧ w.cell? ⟨b, (l.length + pre.length) * 4 + 3, none⟩ = some v3) ∧
    (w.frozen? ⟨b, (l.length + pre.length) * 4, none⟩ = false ∧ w.frozen? ⟨b, (l.length + pre.length) * 4 + 1, none⟩ = false ∧ w.frozen? ⟨b, (l.length + pre.length) * 4 + 2, none⟩ = false ∧ w.frozen? ⟨b, (l.length + pre.length) * 4 + 3, none⟩ = false) := by
  obtain ⟨ps, h1, h2, h3, h4, h5⟩ := h
  have hll : ps.length = l.length := by rw [← h1, List.length_map]
  have hR : ∀ r ∈ ps.map hRow ++ (pre ++ [v0, v1, v2, v3] :: post), r.length = 4 := by
    intro r hr
    rcases List.mem_append.1 hr with hr | hr
    · obtain ⟨p, _, rfl⟩ := List.mem_map.1 hr; rfl
    · exact hp r hr
  have hi : l.length + pre.length < (ps.map hRow ++ (pre ++ [v0, v1, v2, v3] :: post)).length := by simp [hll]
  have he : (ps.map hRow ++ (pre ++ [v0, v1, v2, v3] :: post))[l.length + pre.length] = [v0, v1, v2, v3] := by
    rw [List.getElem_append_right (by simp [hll]), List.getElem_append_right (by simp [hll])]
    simp [hll]
  have c0 := h2.cell 4 _ 0 hi hR (by omega)
  have c1 := h2.cell 4 _ 1 hi hR (by omega)
  have c2 := h2.cell 4 _ 2 hi hR (by omega)
  have c3 := h2.cell 4 _ 3 hi hR (by omega)
  rw [he] at c0 c1 c2 c3
  exact ⟨⟨c0, c1, c2, c3⟩, h2.unfrozen _, h2.unfrozen _, h2.unfrozen _, h2.unfrozen _⟩
theorem zNode_rows (m : Nat) : ∀ r ∈ List.replicate m zNode, r.length = 4 := fun r hr => by rw [(List.mem_replicate.1 hr).2]; rfl
theorem HPart.spotZ {d : Nat} {w w' : World} {b : Nat} {l : List (GN d)} {m k : Nat} {fp : List Nat} (h : HPart d (HRep d) w b l (List.replicate (m + 1) zNode) fp) (hl : l.length = k) (hk : Kept [] w w') :
    (w'.cell? ⟨b, k * 4, none⟩ = some (.string ⟨#[]⟩) ∧ w'.cell? ⟨b, k * 4 + 1, none⟩ = some (.slice none 0 0) ∧ w'.cell? ⟨b, k * 4 + 2, none⟩ = some (.slice none 0 0) ∧ w'.cell? ⟨b, k * 4 + 3, none⟩ = some (.string ⟨#[]⟩)) ∧
    (w'.frozen? ⟨b, k * 4, none⟩ = false ∧ w'.frozen? ⟨b, k * 4 + 1, none⟩ = false ∧ w'.frozen? ⟨b, k * 4 + 2, none⟩ = false ∧ w'.frozen? ⟨b, k * 4 + 3, none⟩ = false) := by
  subst hl
  have h' := HPart.kept (R := HRep d) (fun a b c => HRep.kept a b c) h hk (by simp)
  rw [List.replicate_succ] at h'
  exact HPart.spot (pre := []) (post := List.replicate m zNode) h' (fun r hr => zNode_rows (m + 1) r hr)
theorem HPart.spotB {d : Nat} {w : World} {b : Nat} {l : List (GN d)} {j m k : Nat} {fp : List Nat} (h : HPart d (HRep d) w b l (List.replicate j bNode ++ List.replicate (m + 1) zNode) fp) (hl : l.length = k) :
    (w.cell? ⟨b, (k + j) * 4, none⟩ = some (.string ⟨#[]⟩) ∧ w.cell? ⟨b, (k + j) * 4 + 1, none⟩ = some (.slice none 0 0) ∧ w.cell? ⟨b, (k + j) * 4 + 2, none⟩ = some (.slice none 0 0) ∧ w.cell? ⟨b, (k + j) * 4 + 3, none⟩ = some (.string ⟨#[]⟩)) ∧
    (w.frozen? ⟨b, (k + j) * 4, none⟩ = false ∧ w.frozen? ⟨b, (k + j) * 4 + 1, none⟩ = false ∧ w.frozen? ⟨b, (k + j) * 4 + 2, none⟩ = false ∧ w.frozen? ⟨b, (k + j) * 4 + 3, none⟩ = false) := by
  subst hl
  rw [List.replicate_succ] at h
  have := HPart.spot (pre := List.replicate j bNode) (post := List.replicate m zNode) h (fun r hr => ?_)
  · rw [List.length_replicate] at this
    exact this
  · rcases List.mem_append.1 hr with hr | hr
    · rw [(List.mem_replicate.1 hr).2]; rfl
    · exact zNode_rows (m + 1) r hr
def HandOk (d : Nat) : Prop := ∀ (f : GF d) (v : Value) (w : World), Lies d w v f → bulkF d f ≤ 1099511627776 →
      Calls Tryz.prog 32 #[v] w fun e w' => ∃ fp, e = .returned (.slice (some ⟨w.heap.size, 0, none⟩) (glen d f) (glen d f + 8)) ∧ HRep d w' w.heap.size f fp ∧ (∀ x ∈ fp, w.heap.size ≤ x) ∧ Kept [] w w'
/-- So many nodes have been handed. -/
def HNow (d : Nat) (w wr : World) (l : List (GN d)) (tail : List (List Value)) : Prop := ∃ fp, HPart d (HRep d) wr w.heap.size l tail fp ∧ (∀ x ∈ fp, w.heap.size ≤ x) ∧ Kept [] w wr
set_option maxRecDepth 100000 in
set_option maxHeartbeats 0 in
theorem handedNodes_row (d : Nat) (l : List (GN d)) (ih : l ≠ [] → HandOk d) (a : Option Addr) (c : Nat) (w : World) (hc : ∀ i (h : i < l.length), ∃ g o, a = some ⟨g, o, none⟩ ∧ LiesN (Lies d w) w g (o + i * 4) l[i])
    (hb : ∀ n ∈ l, bulkN (bulkF d) n ≤ 1099511627776) (hlen : l.length ≤ 1099511627776) :
    Calls Tryz.prog 32 #[.slice a l.length c] w fun e w' => e = .returned (.slice (some ⟨w.heap.size, 0, none⟩) l.length (l.length + 8)) ∧ HNow d w w' l (List.replicate 8 bNode) := by
  have HIH0 : Hid _ := ih
  have HC : Hid _ := hc
  have HB : Hid _ := hb
  clear hc ih hb
  obtain ⟨L, HLE⟩ : ∃ L, Hid (l.length = L) := ⟨_, rfl⟩
  rw [HLE.out] at hlen ⊢
  obtain ⟨w1, hmk, hk1, hb1, hs1⟩ := make_nodes L w hlen
  have HB1 : Hid (RowsAt w1 w.heap.size _ _) := hb1
  clear hb1
  go_enter Tryz.func32, Tryz.ntmps32
  go_wp2_with fail
  go_loopg [5] L (fun g x wr => ∃ k : Nat, k ≤ L ∧ g = L - k ∧ x = .int .i64 (k : Int) ∧ HNow d w wr (l.take k) (List.replicate (L - k + 8) zNode))
  case atStart => exact ⟨0, by omega, rfl, rfl, [w.heap.size], ⟨[], rfl, HB1.out, by simp, rfl, by simp⟩, by simp, hk1⟩
  case round =>
    obtain ⟨wo, hwo⟩ : ∃ x, x = wr := ⟨_, rfl⟩
    subst hwo
    obtain ⟨k, hks, hgk, rfl, hnow⟩ := hrel
    have HG : Hid _ := hgk
    have HN : Hid _ := hnow
    clear hgk hnow
    by_cases hlt : k < L
    · have hlt' : (k : Int) < (L : Int) := by omega
      have hge : (0 : Int) ≤ (k : Int) := by omega
      have hltl : k < l.length := by rw [HLE.out]; exact hlt
      have HIH : Hid (HandOk d) := HIH0.out (by intro h; rw [h] at hltl; simp at hltl)
      obtain ⟨fp, hpt, hfl, hkw⟩ := HN.out
      obtain ⟨g, o, rfl, av, kv, e0, e1, e2, e3, hA, hK⟩ := HC.out k hltl
      have hbk := HB.out l[k] (List.getElem_mem hltl)
      have HTK : Hid (l.take (k + 1) = l.take k ++ [l[k]]) := List.take_succ_eq_append_getElem hltl
      generalize l[k] = n at *
      obtain ⟨nm, al, kf, tx⟩ := n
      have e0' := cell_kept hkw e0
      have e1' := cell_kept hkw e1
      have e2' := cell_kept hkw e2
      have e3' := cell_kept hkw e3
      obtain ⟨aa, ac, rfl⟩ := hA.form
      obtain ⟨ka, kc, hkv⟩ := hK.form
      subst hkv
      clear e0 e1 e2 e3
      dsimp only at e0' e1' e2' e3' hA hK hbk
      have hal : al.length ≤ 1099511627776 := by
        have := bulkA_len al
        unfold bulkN at hbk
        dsimp only at hbk
        omega
      have HKB : Hid (bulkF d kf ≤ 1099511627776) := by
        unfold bulkN at hbk
        dsimp only at hbk
        show _ ≤ _
        omega
      clear hbk
      obtain ⟨w2, hmk2, hk2, hrow2, hs2⟩ := make_attrs al.length (wo.alloc (.cells #[.string ⟨nm.toArray⟩, .slice aa al.length ac, .slice ka (glen d kf) kc, .string ⟨tx.toArray⟩] 42)) hal
      have hsz : (wo.alloc (.cells #[.string ⟨nm.toArray⟩, .slice aa al.length ac, .slice ka (glen d kf) kc, .string ⟨tx.toArray⟩] 42)).heap.size = wo.heap.size + 1 := Array.size_push ..
      have hkx : Kept [] wo (wo.alloc (.cells #[.string ⟨nm.toArray⟩, .slice aa al.length ac, .slice ka (glen d kf) kc, .string ⟨tx.toArray⟩] 42)) := (Kept.refl _ _).alloc _
      rw [hsz] at hmk2 hrow2 hs2
      have hA2 := hA.kept (hkw.trans (hkx.trans hk2))
      obtain ⟨w3, hcp, hk3, hrow3, hs3⟩ := copy_attrs w2 (wo.heap.size + 1) aa ac al hrow2 hA2
      have hbx2 := hk2.block wo.heap.size (by omega) (by simp)
      rw [heap_alloc_new] at hbx2
      have hbx := (hk3.block wo.heap.size (by omega) (by simp)).trans hbx2
      have q1 : w2.cell? ⟨wo.heap.size, 1, none⟩ = some (.slice aa al.length ac) := by simp [World.cell?, hbx2]
      clear hbx2
      have HBX : Hid _ := hbx
      have HK13 : Hid (Kept [] wo w3) := (hkx.trans hk2).trans_new hk3 (by simp)
      have HPT : Hid _ := hpt
      have HFL : Hid _ := hfl
      have HKK : Hid (Lies d w _ _) := hK
      have HROW : Hid (RowsAt w3 _ _ _) := hrow3
      have HS3 : Hid (w3.heap.size = wo.heap.size + 2) := by
        show _ = _
        omega
      clear hpt hfl hA hK hA2 hbx hkx hk2 hk3 hrow2 hrow3 hs2 hs3 hsz
      go_wp2_with fail
      go_loopg [9] 8 (fun g x wi => ∃ j : Nat, j ≤ 8 ∧ g = 8 - j ∧ x = .int .i64 ((al.length : Int) + (j : Int)) ∧ RowsAt wi (wo.heap.size + 1) 63 (al.map aRow ++ (List.replicate j bAttr ++ List.replicate (8 - j) zAttr)) ∧ Kept [wo.heap.size + 1] w3 wi)
      case atStart => exact ⟨0, by omega, rfl, by simp, HROW.out, Kept.refl _ _⟩
      case round =>
        obtain ⟨j, hj8, hgj, rfl, hrj, hkj⟩ := hrel
        have HGJ : Hid _ := hgj
        have HRJ : Hid (RowsAt _ _ _ _) := hrj
        clear hgj hrj
        have hj9 : (0 : Int) ≤ (j : Int) := by omega
        by_cases hjlt : j < 8
        · have hjlt' : (j : Int) < 8 := by omega
          have HRJ2 := HRJ.out
          rw [show 8 - j = (7 - j) + 1 by omega] at HRJ2
          go_wp2_with (go_at_call 60; refine (rBang _).mono ?_; rintro e wb ⟨rfl, hkb⟩; obtain ⟨⟨s0, s1⟩, ⟨t0, t1⟩, HR3⟩ := attr_spot (RowsAt.kept HRJ2 hkb (by simp)); have HRX : Hid (RowsAt _ _ _ _) := HR3; clear HR3)
          go_roundg (8 - (j + 1))
          case measure => rw [HGJ.out]; omega
          case rel =>
            refine ⟨j + 1, by omega, rfl, by congr 1, ?_, ?_⟩
            · rw [show 8 - (j + 1) = 7 - j by omega]
              exact HRX.out
            · exact (((hkj.trans (hkb.mono (by simp))).setCell (.inl (by simp)) _).setCell (.inl (by simp)) _)
        · obtain rfl : j = 8 := by omega
          have hbxr := (hkj.block wo.heap.size (by rw [HS3.out]; omega) (by simp)).trans HBX.out
          have q0 : wr.cell? ⟨wo.heap.size, 0, none⟩ = some (.string ⟨nm.toArray⟩) := by simp [World.cell?, hbxr]
          have q2 : wr.cell? ⟨wo.heap.size, 2, none⟩ = some (.slice ka (glen d kf) kc) := by simp [World.cell?, hbxr]
          have q3 : wr.cell? ⟨wo.heap.size, 3, none⟩ = some (.string ⟨tx.toArray⟩) := by simp [World.cell?, hbxr]
          clear hbxr
          have HKR : Hid (Kept [] wo wr) := HK13.out.trans_new hkj (by simp)
          have HLK : Hid (Lies d wr _ _) := HKK.out.kept d (hkw.trans HKR.out)
          have hapt : HAttrs wr (wo.heap.size + 1) al := HRJ.out
          have HAP : Hid (HAttrs wr (wo.heap.size + 1) al) := hapt
          clear hapt
          have HSZ : Hid (w3.heap.size ≤ wr.heap.size) := hkj.size
          clear hkj
          have hlk : (l.take k).length = k := by rw [List.length_take, HLE.out]; omega
          have hpt := HPT.out
          rw [show L - k + 8 = (L - (k + 1) + 8) + 1 by omega] at hpt
          have HP1 : Hid _ := hpt
          have HLT : Hid _ := hlk
          clear hpt hlk
          have HCALL : Hid (∀ W, Kept [] wr W → W.heap.size = wr.heap.size → Calls Tryz.prog 32 #[.slice ka (glen d kf) kc] W fun e w' => ∃ kfp, e = .returned (.slice (some ⟨wr.heap.size, 0, none⟩) (glen d kf) (glen d kf + 8)) ∧ Hid (HRep d w' wr.heap.size kf kfp) ∧ Hid (∀ x ∈ kfp, wr.heap.size ≤ x) ∧ Kept [] wr w') := by
            intro W hW hs
            refine (HIH.out kf (.slice ka (glen d kf) kc) W (HLK.out.kept d hW) HKB.out).mono ?_
            rintro e w' ⟨kfp, rfl, h1, h2, h3⟩
            rw [hs] at h1 h2
            rw [hs]
            exact ⟨kfp, rfl, h1, h2, hW.trans h3⟩
          have HNE : Hid (wo.heap.size ≠ w.heap.size) := by
            show _ ≠ _
            obtain ⟨ps, _, h2, _⟩ := HPT.out
            have := h2.lt
            omega
          have HQ : Hid (∀ W, Kept [w.heap.size] wr W → W.cell? ⟨wo.heap.size, 0, none⟩ = some (.string ⟨nm.toArray⟩) ∧ W.cell? ⟨wo.heap.size, 2, none⟩ = some (.slice ka (glen d kf) kc) ∧ W.cell? ⟨wo.heap.size, 3, none⟩ = some (.string ⟨tx.toArray⟩)) := by
            intro W hW
            have hni : ∀ i, (⟨wo.heap.size, i, none⟩ : Addr).block ∉ [w.heap.size] := by
              intro i h
              exact HNE.out (by simpa using h)
            exact ⟨(hW.cell (cell_lt q0) (hni _)).trans q0, (hW.cell (cell_lt q2) (hni _)).trans q2, (hW.cell (cell_lt q3) (hni _)).trans q3⟩
          have HSP : Hid (∀ W, Kept [] wr W → (W.cell? ⟨w.heap.size, k * 4, none⟩ = some (.string ⟨#[]⟩) ∧ W.cell? ⟨w.heap.size, k * 4 + 1, none⟩ = some (.slice none 0 0) ∧ W.cell? ⟨w.heap.size, k * 4 + 2, none⟩ = some (.slice none 0 0) ∧ W.cell? ⟨w.heap.size, k * 4 + 3, none⟩ = some (.string ⟨#[]⟩)) ∧ (W.frozen? ⟨w.heap.size, k * 4, none⟩ = false ∧ W.frozen? ⟨w.heap.size, k * 4 + 1, none⟩ = false ∧ W.frozen? ⟨w.heap.size, k * 4 + 2, none⟩ = false ∧ W.frozen? ⟨w.heap.size, k * 4 + 3, none⟩ = false)) := fun W hW => HPart.spotZ HP1.out HLT.out (HKR.out.trans hW)
          clear hmk hmk2 hcp e0' e1' e2' e3' q1
          have i0 : (0 : Int) ≤ (al.length : Int) := by omega
          have i1 : (al.length : Int) ≤ (al.length : Int) + 8 := by omega
          have i2 : (k : Int) < (L : Int) + 8 := by omega
          go_wp2_with fail
          go_region_held3 (fun w' => w'.cell? ⟨wo.heap.size, 0, none⟩ = some (.string ⟨nm.toArray⟩) ∧ w'.cell? ⟨wo.heap.size, 2, none⟩ = some (.slice ka (glen d kf) kc) ∧ w'.cell? ⟨wo.heap.size, 3, none⟩ = some (.string ⟨tx.toArray⟩)) (first | exact ⟨p0, p2, p3⟩ | exact HQ.out wr.drew (Kept.refl _ _).drew | exact HQ.out _ (Kept.setCell (Kept.setCell (Kept.setCell (Kept.setCell (hkd.mono (by simp)) (.inl (by simp)) _) (.inl (by simp)) _) (.inl (by simp)) _) (.inl (by simp)) _))
           (first
            | (go_at_call 32; refine (HCALL.out wr.drew (Kept.refl [] _).drew rfl).mono ?_; rintro e w5 ⟨kfp, rfl, HREP, HKGE, hkd⟩; obtain ⟨p0, p2, p3⟩ := HQ.out w5 (hkd.mono (by simp)); obtain ⟨⟨s0, s1, s2, s3⟩, t0, t1, t2, t3⟩ := HSP.out w5 hkd))
          all_goals
            go_wp2_with fail
            go_roundg (L - (k + 1))
            case measure => rw [HG.out]; omega
            case rel =>
              have hstep := HPart.step (n := (nm, al, kf, tx)) HP1.out (HKR.out.trans hkd) (RowsAt.kept HAP.out hkd (by simp)) HREP.out (Nat.le_succ _) (fun x hx => by
                have h1 := HKGE.out x hx
                have h2 : wr.heap.size ≤ x := h1
                have h3 := HSZ.out
                have h4 := HS3.out
                omega)
              rw [HLT.out] at hstep
              refine ⟨k + 1, by omega, rfl, by first | rfl | congr 1, _, by rw [HTK.out]; exact hstep, ?_, ?_⟩
              · intro x hx
                rcases List.mem_append.1 hx with hx | hx
                · exact HFL.out x hx
                · have hw1 := hkw.size
                  have h3 := HSZ.out
                  have h4 := HS3.out
                  rcases List.mem_cons.1 hx with rfl | hx
                  · omega
                  · have h1 := HKGE.out x hx
                    have h2 : wr.heap.size ≤ x := h1
                    omega
              · exact (((((hkw.trans (HKR.out.trans hkd)).setCell (.inr (Nat.le_refl _)) _).setCell (.inr (Nat.le_refl _)) _).setCell (.inr (Nat.le_refl _)) _).setCell (.inr (Nat.le_refl _)) _)
    · obtain rfl : k = L := by omega
      have HTA : Hid (l.take k = l) := List.take_of_length_le (by rw [HLE.out]; exact Nat.le_refl _)
      obtain ⟨fp, hpt, hfl, hkw⟩ := HN.out
      rw [HTA.out, Nat.sub_self, Nat.zero_add] at hpt
      have HPT : Hid (HPart d (HRep d) wo w.heap.size l (List.replicate 0 bNode ++ List.replicate (7 + 1) zNode) fp) := hpt
      have HFL : Hid _ := hfl
      clear hpt hfl
      go_wp2_with fail
      go_loopg [10] 8 (fun g x wi => ∃ j : Nat, j ≤ 8 ∧ g = 8 - j ∧ x = .int .i64 ((k : Int) + (j : Int)) ∧ HPart d (HRep d) wi w.heap.size l (List.replicate j bNode ++ List.replicate (8 - j) zNode) fp ∧ Kept [] w wi)
      case atStart => exact ⟨0, by omega, rfl, by simp, HPT.out, hkw⟩
      case round =>
        obtain ⟨j, hj8, hgj, rfl, hpj, hkj⟩ := hrel
        have HGJ : Hid _ := hgj
        have HPJ : Hid (HPart d (HRep d) wr _ _ _ _) := hpj
        clear hgj hpj
        have hj9 : (0 : Int) ≤ (j : Int) := by omega
        by_cases hjlt : j < 8
        · have hjlt' : (j : Int) < 8 := by omega
          have HPJ2 := HPJ.out
          rw [show 8 - j = (7 - j) + 1 by omega] at HPJ2
          obtain ⟨⟨s0, s1, s2, s3⟩, t0, t1, t2, t3⟩ := HPart.spotB HPJ2 HLE.out
          have hmk := HPart.mark HPJ2 _ rfl
          rw [HLE.out] at hmk
          have HMK : Hid _ := hmk
          clear hmk HPJ2
          go_wp2_with fail
          go_roundg (8 - (j + 1))
          case measure => rw [HGJ.out]; omega
          case rel =>
            refine ⟨j + 1, by omega, rfl, by first | rfl | congr 1, ?_, ?_⟩
            · rw [show 8 - (j + 1) = 7 - j by omega]
              exact HMK.out
            · exact ((((hkj.setCell (.inr (Nat.le_refl _)) _).setCell (.inr (Nat.le_refl _)) _).setCell (.inr (Nat.le_refl _)) _).setCell (.inr (Nat.le_refl _)) _)
        · obtain rfl : j = 8 := by omega
          go_wp2_with fail
          go_ret
          exact ⟨rfl, fp, HPJ.out, HFL.out, hkj⟩
theorem handed_any : ∀ (d : Nat), HandOk d
  | 0 => by
    intro f v w hL hb
    obtain ⟨a, c, rfl⟩ := hL
    refine (handedNodes_row 0 [] (fun h => absurd rfl h) a c w (by simp) (by simp) (by simp)).mono ?_
    rintro e w' ⟨rfl, fp, ⟨ps, h1, h2, h3, h4, h5⟩, hfl, hk⟩
    have hps : ps = [] := by simpa using h1
    subst hps
    exact ⟨fp, rfl, ⟨h2, h4⟩, hfl, hk⟩
  | d + 1 => by
    intro f v w hL hb
    obtain ⟨a, c, rfl, hc⟩ := hL
    refine (handedNodes_row d (gnodes d f) (fun _ => handed_any d) a c w hc (fun n hn => Nat.le_trans (bulkF_mem hn) hb) (Nat.le_trans (bulkF_len f) hb)).mono ?_
    rintro e w' ⟨rfl, fp, hp, hfl, hk⟩
    exact ⟨fp, rfl, hp, hfl, hk⟩
end Go.Proofs.YtlpmjpmefdpcmaaGreatDoor
