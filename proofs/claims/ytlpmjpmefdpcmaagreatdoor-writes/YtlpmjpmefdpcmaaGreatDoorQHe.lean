import Derived.Test.YtlpmjpmefdpcmaaGreatDoorQHd
import Derived.Deep.RegionHeld3
/- untouchedNodes. -/
namespace Go.Proofs.YtlpmjpmefdpcmaaGreatDoor
open Go.RowKit Scrub Go.Shelf
/-- From row k on block b reads as the rows R. -/
def NLeft (w : World) (b : Nat) (R : List (List Value)) (k : Nat) : Prop :=
  ∃ X : List (List Value), X.length = k ∧ (∀ r ∈ X, r.length = 4) ∧ RowsAt w b 42 (X ++ R.drop k)
theorem NLeft.kept {S : List Nat} {w w' : World} {b : Nat} {R : List (List Value)} {k : Nat} (h : NLeft w b R k) (hk : Kept S w w') (hb : b ∉ S) : NLeft w' b R k := by
  obtain ⟨X, h1, h2, h3⟩ := h
  exact ⟨X, h1, h2, h3.kept hk hb⟩
theorem NLeft.spot {w : World} {b : Nat} {R : List (List Value)} {k : Nat} (h : NLeft w b R k) (hR : ∀ r ∈ R, r.length = 4) {v0 v1 v2 v3 : Value} (hx : R[k]? = some [v0, v1, v2, v3]) :
    (w.cell? ⟨b, k * 4, none⟩ = some v0 ∧ w.cell? ⟨b, k * 4 + 1, none⟩ = some v1 ∧ w.cell? ⟨b, k * 4 + 2, none⟩ = some v2 ∧ w.cell? ⟨b, k * 4 + 3, none⟩ = some v3) ∧
    (w.frozen? ⟨b, k * 4, none⟩ = false ∧ w.frozen? ⟨b, k * 4 + 1, none⟩ = false ∧ w.frozen? ⟨b, k * 4 + 2, none⟩ = false ∧ w.frozen? ⟨b, k * 4 + 3, none⟩ = false) := by
  obtain ⟨X, h1, h2, h3⟩ := h
  subst h1
  obtain ⟨hlt, he⟩ := List.getElem?_eq_some_iff.1 hx
  rw [List.drop_eq_getElem_cons hlt, he] at h3
  have hR' : ∀ r ∈ X ++ [v0, v1, v2, v3] :: R.drop (X.length + 1), r.length = 4 := by
    intro r hr
    rcases List.mem_append.1 hr with hr | hr
    · exact h2 r hr
    · rcases List.mem_cons.1 hr with rfl | hr
      · rfl
      · exact hR r (List.mem_of_mem_drop hr)
  have hi : X.length < (X ++ [v0, v1, v2, v3] :: R.drop (X.length + 1)).length := by simp
  have c0 := h3.cell 4 X.length 0 hi hR' (by omega)
  have c1 := h3.cell 4 X.length 1 hi hR' (by omega)
  have c2 := h3.cell 4 X.length 2 hi hR' (by omega)
  have c3 := h3.cell 4 X.length 3 hi hR' (by omega)
  rw [List.getElem_append_right (Nat.le_refl _)] at c0 c1 c2 c3
  simp at c0 c1 c2 c3
  exact ⟨⟨c0, c1, c2, c3⟩, h3.thawed _, h3.thawed _, h3.thawed _, h3.thawed _⟩
theorem NLeft.blot {w : World} {b : Nat} {R : List (List Value)} {k : Nat} (h : NLeft w b R k) (hR : ∀ r ∈ R, r.length = 4) (hlt : k < R.length) (u0 u1 u2 u3 : Value) :
    NLeft ((((w.setCell ⟨b, k * 4, none⟩ u0).setCell ⟨b, k * 4 + 1, none⟩ u1).setCell ⟨b, k * 4 + 2, none⟩ u2).setCell ⟨b, k * 4 + 3, none⟩ u3) b R (k + 1) := by
  obtain ⟨X, h1, h2, h3⟩ := h
  subst h1
  rw [List.drop_eq_getElem_cons hlt] at h3
  have hR' : ∀ r ∈ X ++ R[X.length] :: R.drop (X.length + 1), r.length = 4 := by
    intro r hr
    rcases List.mem_append.1 hr with hr | hr
    · exact h2 r hr
    · rcases List.mem_cons.1 hr with rfl | hr
      · exact hR _ (List.getElem_mem hlt)
      · exact hR r (List.mem_of_mem_drop hr)
  have hst := h3.set4 hR' X.length u0 u1 u2 u3
  rw [List.set_append_right _ _ (Nat.le_refl _), Nat.sub_self, List.set_cons_zero] at hst
  refine ⟨X ++ [[u0, u1, u2, u3]], by simp, ?_, ?_⟩
  · intro r hr
    rcases List.mem_append.1 hr with hr | hr
    · exact h2 r hr
    · simp at hr; subst hr; rfl
  · rw [List.append_assoc]
    exact hst
def LookOk (d : Nat) : Prop := ∀ (f : GF d) (b : Nat) (fp : List Nat) (v : Value) (w0 w : World), Lies d w0 v f → Kept [] w0 w → (∀ x ∈ fp, w0.heap.size ≤ x) → HRep d w b f fp → bulkF d f ≤ 1099511627776 →
    Calls Tryz.prog 34 #[.slice (some ⟨b, 0, none⟩) (glen d f) (glen d f + 8), v] w fun e w' => e = .returned (.bool true) ∧ Kept fp w w'
/-- What is still to be looked at is as it was. -/
def PLeft (d : Nat) (w : World) (b : Nat) (ps : List (GN d × Nat × Nat × List Nat)) (k : Nat) : Prop :=
  NLeft w b (ps.map hRow ++ List.replicate 8 bNode) k ∧ ∀ p ∈ ps.drop k, HAttrs w p.2.1 p.1.2.1 ∧ HRep d w p.2.2.1 p.1.2.2.1 p.2.2.2
theorem pRows {d : Nat} (ps : List (GN d × Nat × Nat × List Nat)) : ∀ r ∈ ps.map hRow ++ List.replicate 8 bNode, r.length = 4 := by
  intro r hr
  rcases List.mem_append.1 hr with hr | hr
  · obtain ⟨p, _, rfl⟩ := List.mem_map.1 hr; rfl
  · rw [(List.mem_replicate.1 hr).2]; rfl
theorem PLeft.kept {d : Nat} {w w' : World} {b : Nat} {ps : List (GN d × Nat × Nat × List Nat)} {k : Nat} (h : PLeft d w b ps k) (hk : Kept [] w w') : PLeft d w' b ps k :=
  ⟨h.1.kept hk (by simp), fun p hp => ⟨RowsAt.kept (h.2 p hp).1 hk (by simp), (h.2 p hp).2.kept hk (by simp)⟩⟩
theorem PLeft.next {d : Nat} {S : List Nat} {w w' : World} {b : Nat} {ps : List (GN d × Nat × Nat × List Nat)} {k : Nat} (h : PLeft d w b ps k) (hk : Kept S w w') (hb : b ∉ S) (hS : ∀ q ∈ ps.drop (k + 1), ∀ x ∈ hFp q, x ∉ b :: S) (hlt : k < ps.length + 8) (u0 u1 u2 u3 : Value) :
    PLeft d ((((w'.setCell ⟨b, k * 4, none⟩ u0).setCell ⟨b, k * 4 + 1, none⟩ u1).setCell ⟨b, k * 4 + 2, none⟩ u2).setCell ⟨b, k * 4 + 3, none⟩ u3) b ps (k + 1) := by
  have hks : Kept (b :: S) w ((((w'.setCell ⟨b, k * 4, none⟩ u0).setCell ⟨b, k * 4 + 1, none⟩ u1).setCell ⟨b, k * 4 + 2, none⟩ u2).setCell ⟨b, k * 4 + 3, none⟩ u3) :=
    (((((hk.mono (fun x hx => List.mem_cons_of_mem _ hx)).setCell (.inl (by simp)) _).setCell (.inl (by simp)) _).setCell (.inl (by simp)) _).setCell (.inl (by simp)) _)
  refine ⟨(h.1.kept hk hb).blot (pRows ps) (by simpa using hlt) _ _ _ _, fun q hq => ?_⟩
  have hq' : q ∈ ps.drop k := by
    rw [← List.drop_drop] at hq
    exact List.mem_of_mem_drop hq
  obtain ⟨h1, h2⟩ := h.2 q hq'
  exact ⟨RowsAt.kept h1 hks (hS q hq _ List.mem_cons_self), h2.kept hks (fun x hx => hS q hq x (List.mem_cons_of_mem _ hx))⟩
theorem nodup_tail {d : Nat} {ps : List (GN d × Nat × Nat × List Nat)} {p : GN d × Nat × Nat × List Nat} {k : Nat} {rest : List (GN d × Nat × Nat × List Nat)} (h : (ps.flatMap hFp).Nodup) (hd : ps.drop k = p :: rest) : (hFp p).Nodup ∧ ∀ q ∈ rest, ∀ x ∈ hFp q, x ∉ hFp p := by
  have e : ps = ps.take k ++ p :: rest := by rw [← hd, List.take_append_drop]
  rw [e, List.flatMap_append, List.flatMap_cons] at h
  have h1 := (List.nodup_append.1 h).2.1
  have h2 := List.nodup_append.1 h1
  refine ⟨h2.1, fun q hq x hx hxp => ?_⟩
  exact h2.2.2 x hxp x (List.mem_flatMap.2 ⟨q, hq, hx⟩) rfl
set_option maxRecDepth 100000 in
set_option maxHeartbeats 4000000 in
theorem untouchedNodes_row (d : Nat) (ps : List (GN d × Nat × Nat × List Nat)) (ih : ps ≠ [] → LookOk d) (b : Nat) (fp : List Nat) (a : Option Addr) (c : Nat) (w0 w : World)
    (hc : ∀ i (h : i < ps.length), ∃ g o, a = some ⟨g, o, none⟩ ∧ LiesN (Lies d w0) w0 g (o + i * 4) (ps[i]).1) (hk0 : Kept [] w0 w) (hfp : ∀ x ∈ fp, w0.heap.size ≤ x) (hpl : PLeft d w b ps 0) (hf : fp = b :: ps.flatMap hFp) (hnd : fp.Nodup)
    (hbk : ∀ p ∈ ps, bulkN (bulkF d) p.1 ≤ 1099511627776) (hlen : ps.length ≤ 1099511627776) :
    Calls Tryz.prog 34 #[.slice (some ⟨b, 0, none⟩) ps.length (ps.length + 8), .slice a ps.length c] w fun e w' => e = .returned (.bool true) ∧ Kept fp w w' := by
  have HIH0 : Hid (ps ≠ [] → LookOk d) := ih
  have HC : Hid _ := hc
  have HPL : Hid (PLeft d w b ps 0) := hpl
  have HBK : Hid _ := hbk
  have HND : Hid _ := hnd
  have HF : Hid _ := hf
  have HFP : Hid _ := hfp
  clear ih hc hpl hbk hnd hf hfp
  obtain ⟨L, HLE⟩ : ∃ L, Hid (ps.length = L) := ⟨_, rfl⟩
  rw [HLE.out] at hlen ⊢
  have hbw : b < w.heap.size := by
    obtain ⟨⟨X, _, _, h⟩, _⟩ := HPL.out
    exact h.lt
  have HLT : Hid (∀ x ∈ fp, x < w.heap.size) := by
    intro x hx
    rw [HF.out] at hx
    rcases List.mem_cons.1 hx with rfl | hx
    · exact hbw
    · obtain ⟨p, hp, hx⟩ := List.mem_flatMap.1 hx
      obtain ⟨h1, h2⟩ := HPL.out.2 p (by simpa using hp)
      rcases List.mem_cons.1 hx with rfl | hx
      · exact RowsAt.lt h1
      · exact h2.lt x hx
  go_enter Tryz.func34, Tryz.ntmps34
  go_wp2_with fail
  go_loopg [7, 8] (L + 8) (fun g x y wr => ∃ k : Nat, k ≤ L + 8 ∧ g = L + 8 - k ∧ x = .bool true ∧ y = .int .i64 (k : Int) ∧ PLeft d wr b ps k ∧ Kept fp w wr)
  case atStart => exact ⟨0, by omega, rfl, rfl, rfl, HPL.out, Kept.refl _ _⟩
  case round =>
    obtain ⟨k, hks, hgk, rfl, rfl, hpl, hkr⟩ := hrel
    have HG : Hid _ := hgk
    have HPK : Hid (PLeft d wr b ps k) := hpl
    clear hgk hpl
    have hge : (0 : Int) ≤ (k : Int) := by omega
    have hkw0 : Kept [] w0 wr := hk0.trans_new hkr (fun x hx => .inr (HFP.out x hx))
    have hbr : b < wr.heap.size := Nat.lt_of_lt_of_le hbw hkr.size
    by_cases hlt : k < L
    · have hlt' : (k : Int) < (L : Int) := by omega
      have hnge : ((L : Int) ≤ (k : Int)) = False := by simp; omega
      have hlt8 : (k : Int) < (L : Int) + 8 := by omega
      have hltl : k < ps.length := by rw [HLE.out]; exact hlt
      have HIH : Hid (LookOk d) := HIH0.out (by intro h; rw [h] at hltl; simp at hltl)
      obtain ⟨g, o, rfl, av, kv, e0, e1, e2, e3, hA, hK⟩ := HC.out k hltl
      have hbk := HBK.out ps[k] (List.getElem_mem hltl)
      have HDR : Hid (ps.drop k = ps[k] :: ps.drop (k + 1)) := List.drop_eq_getElem_cons hltl
      have hrow : (ps.map hRow ++ List.replicate 8 bNode)[k]? = some (hRow ps[k]) := by
        rw [List.getElem?_append_left (by simpa using hltl), List.getElem?_map, List.getElem?_eq_getElem hltl]
        rfl
      have hmem : ps[k] ∈ ps := List.getElem_mem hltl
      generalize ps[k] = p at *
      obtain ⟨⟨nm, al, kf, tx⟩, ab, kb, kfp⟩ := p
      dsimp only at e0 e1 e2 e3 hA hK hbk
      obtain ⟨aa, ac, rfl⟩ := hA.form
      obtain ⟨ka, kc, hkv⟩ := hK.form
      subst hkv
      have hal : al.length ≤ 1099511627776 := by
        have := bulkA_len al
        unfold bulkN at hbk
        dsimp only at hbk
        omega
      have hkb2 : bulkF d kf ≤ 1099511627776 := by
        unfold bulkN at hbk
        dsimp only at hbk
        omega
      have hfpm : ∀ x ∈ ab :: kfp, x ∈ fp := fun x hx => by rw [HF.out]; exact List.mem_cons_of_mem _ (hFp_mem hmem x hx)
      have hbn : b ∉ ab :: kfp := by
        intro hx
        have hnd := HND.out
        rw [HF.out] at hnd
        exact (List.nodup_cons.1 hnd).1 (hFp_mem hmem b hx)
      have hndp : (ab :: kfp).Nodup := by
        have hnd := HND.out
        rw [HF.out] at hnd
        exact (nodup_tail (List.nodup_cons.1 hnd).2 HDR.out).1
      have HDJ : Hid (∀ q ∈ ps.drop (k + 1), ∀ x ∈ hFp q, x ∉ b :: ab :: kfp) := by
        intro q hq x hx hxp
        have hnd := HND.out
        rw [HF.out] at hnd
        rcases List.mem_cons.1 hxp with rfl | hxp
        · exact (List.nodup_cons.1 hnd).1 (hFp_mem (List.mem_of_mem_drop hq) x hx)
        · exact (nodup_tail (List.nodup_cons.1 hnd).2 HDR.out).2 q hq x hx hxp
      have hlf := HPK.out.2 ((nm, al, kf, tx), ab, kb, kfp) (by rw [HDR.out]; exact List.mem_cons_self)
      have HCA : Hid (∀ W, Kept [] wr W → Calls Tryz.prog 64 #[.slice (some ⟨ab, 0, none⟩) al.length (al.length + 8), .slice aa al.length ac] W fun e w' => e = .returned (.bool true) ∧ Kept [ab] W w') := fun W hW =>
        untouchedAttrs_any al ab _ w0 W hA (hkw0.trans hW) (HFP.out ab (hfpm ab List.mem_cons_self)) (RowsAt.kept hlf.1 hW (by simp)) hal
      have HCN : Hid (∀ W, Kept [ab] wr W → Calls Tryz.prog 34 #[.slice (some ⟨kb, 0, none⟩) (glen d kf) (glen d kf + 8), .slice ka (glen d kf) kc] W fun e w' => e = .returned (.bool true) ∧ Kept kfp W w') := fun W hW =>
        HIH.out kf kb kfp _ w0 W hK (hkw0.trans_new hW (fun x hx => .inr (by simp at hx; subst hx; exact HFP.out _ (hfpm _ List.mem_cons_self)))) (fun x hx => HFP.out x (hfpm x (List.mem_cons_of_mem _ hx))) (hlf.2.kept hW (fun x hx hx2 => by simp at hx2; subst hx2; exact (List.nodup_cons.1 hndp).1 hx)) hkb2
      have hkx : Kept [] wr (wr.alloc (.cells #[.string ⟨nm.toArray⟩, .slice (some ⟨ab, 0, none⟩) al.length (al.length + 8), .slice (some ⟨kb, 0, none⟩) (glen d kf) (glen d kf + 8), .string ⟨tx.toArray⟩] 42)) := (Kept.refl _ _).alloc _
      have HQ : Hid (∀ W, Kept (ab :: kfp) (wr.alloc (.cells #[.string ⟨nm.toArray⟩, .slice (some ⟨ab, 0, none⟩) al.length (al.length + 8), .slice (some ⟨kb, 0, none⟩) (glen d kf) (glen d kf + 8), .string ⟨tx.toArray⟩] 42)) W → (W.cell? ⟨wr.heap.size, 0, none⟩ = some (.string ⟨nm.toArray⟩) ∧ W.cell? ⟨wr.heap.size, 1, none⟩ = some (.slice (some ⟨ab, 0, none⟩) al.length (al.length + 8)) ∧ W.cell? ⟨wr.heap.size, 2, none⟩ = some (.slice (some ⟨kb, 0, none⟩) (glen d kf) (glen d kf + 8)) ∧ W.cell? ⟨wr.heap.size, 3, none⟩ = some (.string ⟨tx.toArray⟩)) ∧ (W.cell? ⟨g, o + k * 4, none⟩ = some (.string ⟨nm.toArray⟩) ∧ W.cell? ⟨g, o + k * 4 + 1, none⟩ = some (.slice aa al.length ac) ∧ W.cell? ⟨g, o + k * 4 + 2, none⟩ = some (.slice ka (glen d kf) kc) ∧ W.cell? ⟨g, o + k * 4 + 3, none⟩ = some (.string ⟨tx.toArray⟩))) := by
        intro W hW
        have hsz : (wr.alloc (.cells #[.string ⟨nm.toArray⟩, .slice (some ⟨ab, 0, none⟩) al.length (al.length + 8), .slice (some ⟨kb, 0, none⟩) (glen d kf) (glen d kf + 8), .string ⟨tx.toArray⟩] 42)).heap.size = wr.heap.size + 1 := Array.size_push ..
        have hb2 := (hW.block wr.heap.size (by omega) (fun h => by have h1 := HLT.out _ (hfpm _ h); have h2 := hkr.size; omega)).trans (heap_alloc_new wr _)
        have hl : ∀ {i v}, w0.cell? ⟨g, i, none⟩ = some v → W.cell? ⟨g, i, none⟩ = some v := fun {i v} h => by
          have h1 := cell_kept (hkw0.trans hkx) h
          have h2 : g < w0.heap.size := cell_lt h
          exact (hW.cell (cell_lt h1) (fun hm => by have := HFP.out g (hfpm g hm); omega)).trans h1
        exact ⟨⟨by simp [World.cell?, hb2], by simp [World.cell?, hb2], by simp [World.cell?, hb2], by simp [World.cell?, hb2]⟩, hl e0, hl e1, hl e2, hl e3⟩
      have HSP : Hid (∀ W, Kept (ab :: kfp) wr W → (W.cell? ⟨b, k * 4, none⟩ = some (.string ⟨nm.toArray⟩) ∧ W.cell? ⟨b, k * 4 + 1, none⟩ = some (.slice (some ⟨ab, 0, none⟩) al.length (al.length + 8)) ∧ W.cell? ⟨b, k * 4 + 2, none⟩ = some (.slice (some ⟨kb, 0, none⟩) (glen d kf) (glen d kf + 8)) ∧ W.cell? ⟨b, k * 4 + 3, none⟩ = some (.string ⟨tx.toArray⟩)) ∧ (W.frozen? ⟨b, k * 4, none⟩ = false ∧ W.frozen? ⟨b, k * 4 + 1, none⟩ = false ∧ W.frozen? ⟨b, k * 4 + 2, none⟩ = false ∧ W.frozen? ⟨b, k * 4 + 3, none⟩ = false)) := fun W hW => (HPK.out.1.kept hW hbn).spot (pRows ps) hrow
      obtain ⟨⟨s0, s1, s2, s3⟩, _⟩ := HSP.out wr (Kept.refl _ _)
      have HBN : Hid _ := hbn
      have HFM : Hid _ := hfpm
      clear hbn hfpm hrow hA hK hbk hlf e0 e1 e2 e3 hndp hkb2
      have i0 : (0 : Int) ≤ (al.length : Int) := by omega
      have HKX : Hid (Kept [] wr (wr.alloc (.cells #[.string ⟨nm.toArray⟩, .slice (some ⟨ab, 0, none⟩) al.length (al.length + 8), .slice (some ⟨kb, 0, none⟩) (glen d kf) (glen d kf + 8), .string ⟨tx.toArray⟩] 42))) := hkx
      clear hkx
      go_wp2_with fail
      go_region_held3 (fun w' => (w'.cell? ⟨wr.heap.size, 0, none⟩ = some (.string ⟨nm.toArray⟩) ∧ w'.cell? ⟨wr.heap.size, 1, none⟩ = some (.slice (some ⟨ab, 0, none⟩) al.length (al.length + 8)) ∧ w'.cell? ⟨wr.heap.size, 2, none⟩ = some (.slice (some ⟨kb, 0, none⟩) (glen d kf) (glen d kf + 8)) ∧ w'.cell? ⟨wr.heap.size, 3, none⟩ = some (.string ⟨tx.toArray⟩)) ∧ (w'.cell? ⟨g, o + k * 4, none⟩ = some (.string ⟨nm.toArray⟩) ∧ w'.cell? ⟨g, o + k * 4 + 1, none⟩ = some (.slice aa al.length ac) ∧ w'.cell? ⟨g, o + k * 4 + 2, none⟩ = some (.slice ka (glen d kf) kc) ∧ w'.cell? ⟨g, o + k * 4 + 3, none⟩ = some (.string ⟨tx.toArray⟩))) (first | exact hs5 | exact HQ.out (wr.alloc (.cells #[.string ⟨nm.toArray⟩, .slice (some ⟨ab, 0, none⟩) al.length (al.length + 8), .slice (some ⟨kb, 0, none⟩) (glen d kf) (glen d kf + 8), .string ⟨tx.toArray⟩] 42)).drew (Kept.refl _ _).drew)
       (first
        | (go_at_call 64; refine (HCA.out (wr.alloc (.cells #[.string ⟨nm.toArray⟩, .slice (some ⟨ab, 0, none⟩) al.length (al.length + 8), .slice (some ⟨kb, 0, none⟩) (glen d kf) (glen d kf + 8), .string ⟨tx.toArray⟩] 42)).drew HKX.out.drew).mono ?_; rintro e w5 ⟨rfl, hk5'⟩; have hk5 : Kept [ab] (wr.alloc (.cells #[.string ⟨nm.toArray⟩, .slice (some ⟨ab, 0, none⟩) al.length (al.length + 8), .slice (some ⟨kb, 0, none⟩) (glen d kf) (glen d kf + 8), .string ⟨tx.toArray⟩] 42)) w5 := (Kept.refl _ _).drew.trans hk5'; have hs5 := HQ.out w5 (hk5.mono (by simp))))
      obtain ⟨⟨f0, f1, f2, f3⟩, f4, f5, f6, f7⟩ := hs5
      go_wp2_with fail
      have hs5 := HQ.out w5 (hk5.mono (by simp))
      go_region_held3 (fun w' => (w'.cell? ⟨wr.heap.size, 0, none⟩ = some (.string ⟨nm.toArray⟩) ∧ w'.cell? ⟨wr.heap.size, 1, none⟩ = some (.slice (some ⟨ab, 0, none⟩) al.length (al.length + 8)) ∧ w'.cell? ⟨wr.heap.size, 2, none⟩ = some (.slice (some ⟨kb, 0, none⟩) (glen d kf) (glen d kf + 8)) ∧ w'.cell? ⟨wr.heap.size, 3, none⟩ = some (.string ⟨tx.toArray⟩)) ∧ (w'.cell? ⟨g, o + k * 4, none⟩ = some (.string ⟨nm.toArray⟩) ∧ w'.cell? ⟨g, o + k * 4 + 1, none⟩ = some (.slice aa al.length ac) ∧ w'.cell? ⟨g, o + k * 4 + 2, none⟩ = some (.slice ka (glen d kf) kc) ∧ w'.cell? ⟨g, o + k * 4 + 3, none⟩ = some (.string ⟨tx.toArray⟩))) (first | exact hs6 | exact HQ.out w5.drew (hk5.mono (by simp)).drew)
       (first
        | (go_at_call 34; refine (HCN.out w5.drew ((HKX.out.mono (by simp)).trans hk5).drew).mono ?_; rintro e w6 ⟨rfl, hk6'⟩; have hk6 : Kept (ab :: kfp) (wr.alloc (.cells #[.string ⟨nm.toArray⟩, .slice (some ⟨ab, 0, none⟩) al.length (al.length + 8), .slice (some ⟨kb, 0, none⟩) (glen d kf) (glen d kf + 8), .string ⟨tx.toArray⟩] 42)) w6 := (hk5.mono (by simp)).trans ((Kept.refl _ _).drew.trans (hk6'.mono (fun x hx => List.mem_cons_of_mem _ hx))); have hs6 := HQ.out w6 hk6))
      clear hs5 f0 f1 f2 f3 f4 f5 f6 f7
      obtain ⟨⟨f0, f1, f2, f3⟩, f4, f5, f6, f7⟩ := hs6
      obtain ⟨⟨t0, t1, t2, t3⟩, r0, r1, r2, r3⟩ := HSP.out w6 ((HKX.out.mono (by simp)).trans hk6)
      go_wp2_with fail
      go_quiet (fail)
      go_wp2_with fail
      go_roundg (L + 8 - (k + 1))
      case measure => rw [HG.out]; omega
      case rel =>
        have hk7 : Kept (ab :: kfp) wr (w6.drewN nq) := ((HKX.out.mono (by simp)).trans hk6).drewN nq
        refine ⟨k + 1, by omega, rfl, rfl, by first | rfl | congr 1, HPK.out.next hk7 HBN.out HDJ.out (by rw [HLE.out]; omega) _ _ _ _, ?_⟩
        have hbf : b ∈ fp := by rw [HF.out]; simp
        exact (((((hkr.trans (hk7.mono HFM.out)).setCell (.inl hbf) _).setCell (.inl hbf) _).setCell (.inl hbf) _).setCell (.inl hbf) _)
    · have hge' : (L : Int) ≤ (k : Int) := by omega
      by_cases hlt8 : k < L + 8
      · have hlt8' : (k : Int) < (L : Int) + 8 := by omega
        have hrow : (ps.map hRow ++ List.replicate 8 bNode)[k]? = some bNode := by
          have := HLE.out
          rw [List.getElem?_append_right (by simp; omega), List.getElem?_replicate, if_pos (by simp; omega)]
        obtain ⟨⟨s0, s1, s2, s3⟩, r0, r1, r2, r3⟩ := HPK.out.1.spot (pRows ps) hrow
        clear hrow
        go_wp2_with fail
        go_roundg (L + 8 - (k + 1))
        case measure => rw [HG.out]; omega
        case rel =>
          have hbf : b ∈ fp := by rw [HF.out]; simp
          have hd0 : ps.drop (k + 1) = [] := List.drop_eq_nil_of_le (by rw [HLE.out]; omega)
          refine ⟨k + 1, by omega, rfl, rfl, by first | rfl | congr 1, (HPK.out.next (Kept.refl [] _) (by simp) (by rw [hd0]; simp) (by rw [HLE.out]; omega) _ _ _ _).kept ((Kept.refl [] _).alloc _), ?_⟩
          exact ((((hkr.setCell (.inl hbf) _).setCell (.inl hbf) _).setCell (.inl hbf) _).setCell (.inl hbf) _).alloc _
      · have hlt8' : ((k : Int) < (L : Int) + 8) = False := by simp; omega
        go_wp2_with fail
        go_ret
        exact ⟨rfl, hkr⟩
theorem look_any : ∀ (d : Nat), LookOk d
  | 0 => by
    intro f b fp v w0 w hL hk0 hfp hR hb
    obtain ⟨a, c, rfl⟩ := hL
    obtain ⟨h1, h2⟩ := hR
    exact untouchedNodes_row 0 [] (fun h => absurd rfl h) b fp a c w0 w (by simp) hk0 hfp ⟨⟨[], rfl, by simp, h1⟩, by simp⟩ h2 (by rw [h2]; simp) (by simp) (by simp)
  | d + 1 => by
    intro f b fp v w0 w hL hk0 hfp hR hb
    obtain ⟨a, c, rfl, hc⟩ := hL
    obtain ⟨ps, h1, h2, h3, h4, h5⟩ := hR
    have hll : ps.length = (gnodes d f).length := by rw [← h1, List.length_map]
    have hgl : glen (d + 1) f = ps.length := hll.symm
    rw [hgl, ← hll]
    refine untouchedNodes_row d ps (fun _ => look_any d) b fp a c w0 w (fun i hi => ?_) hk0 hfp ⟨⟨[], rfl, by simp, h2⟩, fun p hp => h3 p (by simpa using hp)⟩ h4 h5 (fun p hp => Nat.le_trans (bulkF_mem (by rw [← h1]; exact List.mem_map_of_mem hp)) hb) (by rw [hll]; exact Nat.le_trans (bulkF_len f) hb)
    obtain ⟨g, o, ha, hn⟩ := hc i (by omega)
    refine ⟨g, o, ha, ?_⟩
    have e : (gnodes d f)[i]'(by omega) = (ps[i]).1 := by simp [← h1]
    rw [e] at hn
    exact hn
end Go.Proofs.YtlpmjpmefdpcmaaGreatDoor
