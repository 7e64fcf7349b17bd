import Derived.Test.YtlpmjpmefdpcmaaGreatDoorQText0
import Derived.Test.YtlpmjpmefdpcmaaGreatDoorQSf
import Derived.Test.YtlpmjpmefdpcmaaGreatDoorQText1
import Derived.Deep.CutBlock
/- The reference's builder in memory: one list of what is open, ahead of all the top, which has no name. No function of the program in it. -/
namespace Go.Proofs.YtlpmjpmefdpcmaaGreatDoor
open Go.RowKit Scrub Go.Shelf
/-- A node that is open, or the top. -/
def OpenOk (w : World) (n : NodeR) : Prop := ∃ kfp, AOwn w n.av n.al ∧ Tree w n.kv n.ev kfp ∧ n.fp = n.av.ownBlock.toList ++ kfp ∧ n.text = []
theorem OpenOk.keep {w w' : World} {n : NodeR} (h : OpenOk w n) (hs : ∀ k, k ∈ n.fp → w'.heap[k]? = w.heap[k]?) : OpenOk w' n := by
  obtain ⟨kfp, h1, h2, h3, h4⟩ := h
  exact ⟨kfp, ownsRow_same h1 (fun k hk => hs k (by have e : n.av.ownBlock = some k := hk; rw [h3, e]; simp)), h2.same (fun k hk => hs k (by rw [h3]; simp [hk])), h3, h4⟩
theorem OpenOk.node {w : World} {n : NodeR} (h : OpenOk w n) (hn : n.name ≠ []) : NodeOk Tree w n := by
  obtain ⟨kfp, h1, h2, h3, h4⟩ := h
  exact ⟨kfp, h1, h2, h3, fun hc => absurd hc hn, fun _ => h4⟩
theorem OpenOk.of {w : World} {n : NodeR} (h : NodeOk Tree w n) (hn : n.name ≠ []) : OpenOk w n := by
  obtain ⟨kfp, h1, h2, h3, _, h4⟩ := h
  exact ⟨kfp, h1, h2, h3, h4 hn⟩
def RAt (w : World) (bb : Nat) (ov : Value) (os : List NodeR) (F : List Nat) : Prop :=
  (∃ t, w.heap[bb]? = some (.cells #[ov] t (0, 0))) ∧
  (w.ownsRow 0 42 4 ov os.length (cellsOf os) ∧ ∀ n ∈ os, OpenOk w n) ∧
  (∀ k, k ∈ F ↔ k ∈ bb :: (ov.ownBlock.toList ++ fpOf os)) ∧ (bb :: (ov.ownBlock.toList ++ fpOf os)).Nodup ∧ ∀ k ∈ F, k < w.heap.size
theorem RAt.mem {w : World} {bb : Nat} {ov : Value} {os : List NodeR} {F : List Nat} (h : RAt w bb ov os F) (k : Nat) : k ∈ F ↔ k = bb ∨ k ∈ ov.ownBlock.toList ∨ k ∈ fpOf os := by
  rw [h.2.2.1 k]
  simp
theorem RAt.same {w w' : World} {bb : Nat} {ov : Value} {os : List NodeR} {F : List Nat} (h : RAt w bb ov os F) (hs : ∀ k, k ∈ F → w'.heap[k]? = w.heap[k]?) (hz : w.heap.size ≤ w'.heap.size) : RAt w' bb ov os F := by
  obtain ⟨⟨t, h1⟩, ⟨h4, h5⟩, h6, h7, h9⟩ := h
  have m1 : ∀ k, k ∈ bb :: (ov.ownBlock.toList ++ fpOf os) → w'.heap[k]? = w.heap[k]? := fun k hk => hs k ((h6 k).2 hk)
  refine ⟨⟨t, (m1 bb (by simp)).trans h1⟩, ⟨ownsRow_same h4 (fun k hk => m1 k (by rw [hk]; simp)), fun n hn => (h5 n hn).keep (fun k hk => m1 k ?_)⟩, h6, h7, fun k hk => Nat.lt_of_lt_of_le (h9 k hk) hz⟩
  have := mem_fpOf hn hk
  simp [this]
theorem RAt.kept {w w' : World} {bb : Nat} {ov : Value} {os : List NodeR} {F S : List Nat} (h : RAt w bb ov os F) (hk : Kept S w w') (hn : ∀ k, k ∈ F → k ∉ S) : RAt w' bb ov os F :=
  h.same (fun k hf => hk.block k (h.2.2.2.2 k hf) (hn k hf)) hk.size
theorem RAt.cells {w : World} {bb : Nat} {ov : Value} {os : List NodeR} {F : List Nat} (h : RAt w bb ov os F) : w.cell? ⟨bb, 0, none⟩ = some ov ∧ w.frozen? ⟨bb, 0, none⟩ = false := by
  obtain ⟨⟨t, h1⟩, _⟩ := h
  exact ⟨by simp [World.cell?, h1], by simp [World.frozen?, h1]⟩
theorem RAt.far {w : World} {bb : Nat} {ov : Value} {os : List NodeR} {F : List Nat} (h : RAt w bb ov os F) :
    (∀ k, ov.ownBlock = some k → k ≠ bb) ∧ (∀ y, y ∈ os → ∀ k, k ∈ y.fp → k ≠ bb ∧ ov.ownBlock ≠ some k) := by
  have h7 := h.2.2.2.1
  rw [List.nodup_cons] at h7
  refine ⟨fun k hk e => h7.1 (by rw [← e, hk]; simp), fun y hy k hk => ⟨fun e => h7.1 ?_, fun hc => ?_⟩⟩
  · rw [← e]
    exact List.mem_append.2 (.inr (mem_fpOf hy hk))
  · rw [List.nodup_append] at h7
    exact h7.2.2.2 k (by rw [hc]; simp) k (mem_fpOf hy hk) rfl
/-- One more is open. -/
theorem RAt.addOpen {w w3 : World} {bb : Nat} {ov ov' : Value} {os : List NodeR} {F : List Nat} {x : NodeR} (h : RAt w bb ov os F)
    (hr : w3.ownsRow 0 42 4 ov' (os ++ [x]).length (cellsOf (os ++ [x]))) (hm : Moved w ov ov') (hk : Kept ov.ownBlock.toList w w3)
    (hx : OpenOk w x) (hxf : ∀ k, k ∈ x.fp → k ∉ F ∧ k < w.heap.size) (hxd : x.fp.Nodup) :
    ∃ F', RAt (w3.setCell ⟨bb, 0, none⟩ ov') bb ov' (os ++ [x]) F' ∧ Kept F w (w3.setCell ⟨bb, 0, none⟩ ov') ∧ Grow (F ++ x.fp) w F' := by
  have hmem := h.mem
  obtain ⟨⟨t, h1⟩, ⟨h4, h5⟩, h6, h7, h9⟩ := h
  have hml := moved_list hm
  have hnd : (bb :: (ov'.ownBlock.toList ++ (fpOf os ++ x.fp))).Nodup := by
    refine nodup_new (B := ov.ownBlock.toList) (n := w.heap.size) h7 ?_ hml hxd ?_
    · intro k hk; exact h9 k ((h6 k).2 hk)
    · intro k hk
      exact ⟨fun hc => (hxf k hk).1 ((h6 k).2 hc), (hxf k hk).2⟩
  have hfe : fpOf (os ++ [x]) = fpOf os ++ x.fp := by rw [fpOf_append, fpOf_one]
  have hbbov : bb ∉ ov.ownBlock.toList := by
    intro hc
    rw [List.nodup_cons] at h7
    exact h7.1 (by simp [hc])
  have hbb' : ∀ k, ov'.ownBlock = some k → k ≠ bb := by
    intro k hk e
    rw [List.nodup_cons] at hnd
    exact hnd.1 (by rw [← e, hk]; simp)
  have hbblt : bb < w.heap.size := h9 bb ((h6 bb).2 (by simp))
  have far : ∀ k, k < w.heap.size → k ≠ bb → k ∉ ov.ownBlock.toList → (w3.setCell ⟨bb, 0, none⟩ ov').heap[k]? = w.heap[k]? := fun k hk1 hk2 hk3 =>
    (Below.heap_setCell _ _ _ _ hk2).trans (hk.block k hk1 hk3)
  have hmemlt : ∀ k, (k ∈ fpOf os ∨ k ∈ x.fp) → k < w.heap.size ∧ k ≠ bb ∧ k ∉ ov.ownBlock.toList := by
    intro k hk
    rcases hk with hk | hk
    · rw [List.nodup_cons, List.nodup_append] at h7
      refine ⟨h9 k ((hmem k).2 (.inr (.inr hk))), fun e => h7.1 (by subst e; exact List.mem_append.2 (.inr hk)), fun hc => h7.2.2.2 k hc k hk rfl⟩
    · have := hxf k hk
      exact ⟨this.2, fun e => this.1 ((hmem k).2 (.inl e)), fun hc => this.1 ((hmem k).2 (.inr (.inl hc)))⟩
  have okOf : ∀ n : NodeR, OpenOk w n → (∀ k, k ∈ n.fp → k ∈ fpOf os ∨ k ∈ x.fp) → OpenOk (w3.setCell ⟨bb, 0, none⟩ ov') n := by
    intro n hn hf
    refine hn.keep (fun k hk' => ?_)
    have := hmemlt k (hf k hk')
    exact far k this.1 this.2.1 this.2.2
  have hkall : Kept F w (w3.setCell ⟨bb, 0, none⟩ ov') :=
    (hk.mono (fun i hi => (hmem i).2 (.inr (.inl hi)))).setCell (.inl ((hmem bb).2 (.inl rfl))) _
  refine ⟨bb :: (ov'.ownBlock.toList ++ fpOf (os ++ [x])), ⟨⟨t, ?_⟩, ⟨?_, ?_⟩, fun _ => Iff.rfl, by rw [hfe]; exact hnd, ?_⟩, hkall, ?_⟩
  · have e : w3.heap[bb]? = some (.cells #[ov] t (0, 0)) := (hk.block bb hbblt hbbov).trans h1
    simp [World.setCell, Array.getElem?_modify, e]
  · exact ownsRow_kept hr (S := [bb]) ((Kept.refl _ _).setCell (by simp) _) (fun k hk' => by have := hbb' k hk'; simp; exact this)
  · intro n hn
    rcases List.mem_append.1 hn with hn | hn
    · exact okOf n (h5 n hn) (fun k hk' => .inl (mem_fpOf hn hk'))
    · simp at hn
      subst hn
      exact okOf n hx (fun k hk' => .inr hk')
  · intro k hk'
    have hz := hkall.size
    simp only [List.mem_cons, List.mem_append, hfe] at hk'
    rcases hk' with rfl | hk' | hk' | hk'
    · omega
    · have hb : ov'.ownBlock = some k := by simpa using hk'
      have := (hr.lt k hb).2
      simpa [World.setCell] using this
    · have := (hmemlt k (.inl hk')).1; omega
    · have := (hmemlt k (.inr hk')).1; omega
  · intro k hk'
    simp only [List.mem_cons, List.mem_append, hfe] at hk'
    rcases hk' with rfl | hk' | hk' | hk'
    · exact .inl (by simp [(hmem k).2 (.inl rfl)])
    · have hb : ov'.ownBlock = some k := by simpa using hk'
      rcases hm with hm | ⟨k2, hm1, hm2⟩
      · exact .inl (by simp [(hmem k).2 (.inr (.inl (by rw [← hm, hb]; simp)))])
      · rw [hb] at hm1
        injection hm1 with e
        exact .inr (by omega)
    · exact .inl (by simp [(hmem k).2 (.inr (.inr hk'))])
    · exact .inl (by simp [hk'])
/-- The last that is open is taken off: what is left, and it. -/
theorem RAt.pop {w : World} {bb : Nat} {os : List NodeR} {F : List Nat} {x : NodeR} {g cap : Nat} (h : RAt w bb (.slice (some ⟨g, 0, none⟩) (os.length + 1) cap) (os ++ [x]) F) :
    (∃ F1, RAt (w.setCell ⟨bb, 0, none⟩ (.slice (some ⟨g, 0, none⟩) os.length cap)) bb (.slice (some ⟨g, 0, none⟩) os.length cap) os F1 ∧ (∀ k, k ∈ F1 → k ∈ F) ∧ (∀ k, k ∈ x.fp → k ∉ F1 ∧ k ∈ F)) ∧
    OpenOk (w.setCell ⟨bb, 0, none⟩ (.slice (some ⟨g, 0, none⟩) os.length cap)) x ∧ x.fp.Nodup ∧ Kept F w (w.setCell ⟨bb, 0, none⟩ (.slice (some ⟨g, 0, none⟩) os.length cap)) := by
  have hmem := h.mem
  obtain ⟨⟨t, h1⟩, ⟨h4, h5⟩, h6, h7, h9⟩ := h
  have hbbF : bb ∈ F := (hmem bb).2 (.inl rfl)
  have hkall : Kept F w (w.setCell ⟨bb, 0, none⟩ (.slice (some ⟨g, 0, none⟩) os.length cap)) := (Kept.refl _ _).setCell (.inl hbbF) _
  have hp : List.Perm (bb :: ((Value.slice (some ⟨g, 0, none⟩) (os.length + 1) cap).ownBlock.toList ++ fpOf (os ++ [x]))) (x.fp ++ (bb :: ((Value.slice (some ⟨g, 0, none⟩) os.length cap).ownBlock.toList ++ fpOf os))) := by
    refine List.perm_iff_count.2 (fun a => ?_)
    simp only [Value.ownBlock, fpOf_append, fpOf_one, List.count_append, List.count_cons]
    omega
  have hnd := hp.nodup_iff.1 h7
  rw [List.nodup_append] at hnd
  obtain ⟨hxd, hnd1, hdis⟩ := hnd
  have far : ∀ k, k ≠ bb → (w.setCell ⟨bb, 0, none⟩ (.slice (some ⟨g, 0, none⟩) os.length cap)).heap[k]? = w.heap[k]? := fun k hk => Below.heap_setCell _ _ _ _ hk
  have hob : (Value.slice (some ⟨g, 0, none⟩) (os.length + 1) cap).ownBlock.toList = [g] := rfl
  have hne : ∀ k, (k = g ∨ k ∈ fpOf os ∨ k ∈ x.fp) → k ≠ bb := by
    intro k hk e
    rw [List.nodup_cons] at h7
    refine h7.1 ?_
    subst e
    simp only [hob, fpOf_append, fpOf_one, List.mem_append, List.mem_singleton]
    rcases hk with hk | hk | hk
    · exact .inl hk
    · exact .inr (.inl hk)
    · exact .inr (.inr hk)
  have okOf : ∀ n : NodeR, OpenOk w n → (∀ k, k ∈ n.fp → k ∈ fpOf os ∨ k ∈ x.fp) → OpenOk (w.setCell ⟨bb, 0, none⟩ (.slice (some ⟨g, 0, none⟩) os.length cap)) n := by
    intro n hn hf
    refine hn.keep (fun k hk' => far k (hne k ?_))
    rcases hf k hk' with h | h <;> simp [h]
  refine ⟨⟨bb :: ((Value.slice (some ⟨g, 0, none⟩) os.length cap).ownBlock.toList ++ fpOf os), ⟨⟨t, ?_⟩, ⟨?_, ?_⟩, fun _ => Iff.rfl, hnd1, ?_⟩, ?_, ?_⟩, ?_, hxd, hkall⟩
  · simp [World.setCell, Array.getElem?_modify, h1]
  · have h4' : w.ownsRow 0 42 4 (.slice (some ⟨g, 0, none⟩) os.length cap) os.length (cellsOf os) := by
      obtain ⟨e1, e2⟩ := h4
      refine ⟨cellsOf_length os, ?_⟩
      rcases e2 with ⟨e2, _⟩ | ⟨g', cap', cur, hv, hb, hg, hnc, hcm, hcs, htk⟩
      · cases e2
      · injection hv with q1 q2 q3
        injection q1 with q1
        injection q1 with q1
        subst q1 q3
        refine .inr ⟨g, cap, cur, rfl, hb, hg, by simp at hnc; omega, hcm, hcs, ?_⟩
        have e3 : (cellsOf (os ++ [x])).take (os.length * 4) = cellsOf os := by
          rw [cellsOf_append, ← cellsOf_length os]
          exact List.take_left
        rw [← e3, ← htk, List.take_take]
        congr 1
        simp
    exact ownsRow_same h4' (fun k hk => far k (hne k (.inl (by simpa [Value.ownBlock] using hk.symm))))
  · intro n hn
    exact okOf n (h5 n (by simp [hn])) (fun k hk' => .inl (mem_fpOf hn hk'))
  · intro k hk'
    have := h9 k ((h6 k).2 (hp.mem_iff.2 (List.mem_append.2 (.inr hk'))))
    simpa [World.setCell] using this
  · intro k hk'
    exact (h6 k).2 (hp.mem_iff.2 (List.mem_append.2 (.inr hk')))
  · intro k hk'
    exact ⟨fun hc => hdis k hk' k hc rfl, (h6 k).2 (hp.mem_iff.2 (List.mem_append.2 (.inl hk')))⟩
  · exact okOf x (h5 x (by simp)) (fun k hk' => .inr hk')
/-- The kids of the innermost turn. -/
theorem RAt.setKids {w w3 : World} {bb : Nat} {kv' : Value} {os ns ns' : List NodeR} {F X : List Nat} {y : NodeR} {g cap : Nat}
    (h : RAt w bb (.slice (some ⟨g, 0, none⟩) (os.length + 1) cap) (os ++ [y]) F)
    (ha : AOwn w y.av y.al) (hfp : y.fp = y.av.ownBlock.toList ++ (y.kv.ownBlock.toList ++ fpOf ns)) (hyt : y.text = [])
    (hr : w3.ownsRow 0 42 4 kv' ns'.length (cellsOf ns')) (hm : Moved w y.kv kv') (hk : Kept y.kv.ownBlock.toList w w3)
    (hok : ∀ n ∈ ns', NodeOk Tree w n) (hfp' : fpOf ns' = fpOf ns ++ X) (hxf : ∀ k, k ∈ X → k ∉ F ∧ k < w.heap.size) (hxd : X.Nodup) :
    ∃ F', RAt (w3.setCell ⟨g, os.length * 4 + 2, none⟩ kv') bb (.slice (some ⟨g, 0, none⟩) (os.length + 1) cap) (os ++ [y.withKids kv' ns']) F' ∧ Kept F w (w3.setCell ⟨g, os.length * 4 + 2, none⟩ kv') ∧ Grow (F ++ X) w F' := by
  have hmem := h.mem
  obtain ⟨⟨t, h1⟩, ⟨h4, h5⟩, h6, h7, h9⟩ := h
  have hob : (Value.slice (some ⟨g, 0, none⟩) (os.length + 1) cap).ownBlock.toList = [g] := rfl
  have hml := moved_list hm
  have hp0 : List.Perm (bb :: ((Value.slice (some ⟨g, 0, none⟩) (os.length + 1) cap).ownBlock.toList ++ fpOf (os ++ [y]))) (bb :: (y.kv.ownBlock.toList ++ ([g] ++ fpOf os ++ y.av.ownBlock.toList ++ fpOf ns))) := by
    refine List.perm_iff_count.2 (fun a => ?_)
    simp only [hob, fpOf_append, fpOf_one, hfp, List.count_append, List.count_cons]
    omega
  have h70 := hp0.nodup_iff.1 h7
  have hnd : (bb :: (kv'.ownBlock.toList ++ (([g] ++ fpOf os ++ y.av.ownBlock.toList ++ fpOf ns) ++ X))).Nodup := by
    refine nodup_new (B := y.kv.ownBlock.toList) (n := w.heap.size) h70 ?_ hml hxd ?_
    · intro k hk; exact h9 k ((h6 k).2 (hp0.mem_iff.2 hk))
    · intro k hk
      exact ⟨fun hc => (hxf k hk).1 ((h6 k).2 (hp0.mem_iff.2 hc)), (hxf k hk).2⟩
  have hp : List.Perm (bb :: (kv'.ownBlock.toList ++ (([g] ++ fpOf os ++ y.av.ownBlock.toList ++ fpOf ns) ++ X))) (bb :: ((Value.slice (some ⟨g, 0, none⟩) (os.length + 1) cap).ownBlock.toList ++ fpOf (os ++ [y.withKids kv' ns']))) := by
    refine List.perm_iff_count.2 (fun a => ?_)
    simp only [hob, fpOf_append, fpOf_one, NodeR.withKids, hfp', List.count_append, List.count_cons]
    omega
  have hnd' := hp.nodup_iff.1 hnd
  have hR : ∀ k, (k = bb ∨ k = g ∨ k ∈ fpOf os ∨ k ∈ y.av.ownBlock.toList ∨ k ∈ fpOf ns) → k ∈ F ∧ k ∉ y.kv.ownBlock.toList ∧ kv'.ownBlock ≠ some k := by
    intro k hk
    have hkm : k ∈ bb :: ([g] ++ fpOf os ++ y.av.ownBlock.toList ++ fpOf ns) := by
      simp only [List.mem_cons, List.mem_append, List.not_mem_nil, or_false]
      rcases hk with hk | hk | hk | hk | hk <;> simp [hk]
    refine ⟨(h6 k).2 (hp0.mem_iff.2 ?_), ?_, ?_⟩
    · rcases List.mem_cons.1 hkm with e | e
      · simp [e]
      · exact List.mem_cons_of_mem _ (List.mem_append.2 (.inr e))
    · intro hc
      rw [List.nodup_cons, List.nodup_append] at h70
      rcases List.mem_cons.1 hkm with e | e
      · exact h70.1 (by rw [← e]; exact List.mem_append.2 (.inl hc))
      · exact h70.2.2.2 k hc k e rfl
    · intro hc
      rw [List.nodup_cons, List.nodup_append] at hnd
      have hc' : k ∈ kv'.ownBlock.toList := by rw [hc]; simp
      rcases List.mem_cons.1 hkm with e | e
      · exact hnd.1 (by rw [← e]; exact List.mem_append.2 (.inl hc'))
      · exact hnd.2.2.2 k hc' k (List.mem_append.2 (.inl e)) rfl
  have hgn : ∀ k, (k = bb ∨ k ∈ fpOf os ∨ k ∈ y.av.ownBlock.toList ∨ k ∈ fpOf ns ∨ k ∈ X) → k ≠ g := by
    intro k hk e
    have hc : List.count g (bb :: (kv'.ownBlock.toList ++ (([g] ++ fpOf os ++ y.av.ownBlock.toList ++ fpOf ns) ++ X))) ≤ 1 := List.nodup_iff_count.1 hnd g
    simp only [List.count_cons, List.count_append, List.count_nil] at hc
    subst e
    rcases hk with hk | hk | hk | hk | hk
    · subst hk
      simp at hc
    all_goals
      have := List.count_pos_iff.2 hk
      simp at hc
      omega
  have hXlt : ∀ k, k ∈ X → k < w.heap.size ∧ k ∉ y.kv.ownBlock.toList := fun k hk => ⟨(hxf k hk).2, fun hc => (hxf k hk).1 ((h6 k).2 (hp0.mem_iff.2 (by simp [hc])))⟩
  have far : ∀ k, k < w.heap.size → k ≠ g → k ∉ y.kv.ownBlock.toList → (w3.setCell ⟨g, os.length * 4 + 2, none⟩ kv').heap[k]? = w.heap[k]? := fun k hk1 hk2 hk3 =>
    (Below.heap_setCell _ _ _ _ hk2).trans (hk.block k hk1 hk3)
  have farR : ∀ k, (k = bb ∨ k ∈ fpOf os ∨ k ∈ y.av.ownBlock.toList ∨ k ∈ fpOf ns ∨ k ∈ X) → (w3.setCell ⟨g, os.length * 4 + 2, none⟩ kv').heap[k]? = w.heap[k]? := by
    intro k hk
    have hg' := hgn k hk
    rcases hk with hk | hk | hk | hk | hk
    · have := hR k (.inl hk); exact far k (h9 k this.1) hg' this.2.1
    · have := hR k (.inr (.inr (.inl hk))); exact far k (h9 k this.1) hg' this.2.1
    · have := hR k (.inr (.inr (.inr (.inl hk)))); exact far k (h9 k this.1) hg' this.2.1
    · have := hR k (.inr (.inr (.inr (.inr hk)))); exact far k (h9 k this.1) hg' this.2.1
    · have := hXlt k hk; exact far k this.1 hg' this.2
  have hgF := hR g (.inr (.inl rfl))
  have hkall : Kept F w (w3.setCell ⟨g, os.length * 4 + 2, none⟩ kv') := by
    refine (hk.mono (fun i hi => (h6 i).2 (hp0.mem_iff.2 (by simp [hi])))).setCell (.inl hgF.1) _
  have hWr : (w3.setCell ⟨g, os.length * 4 + 2, none⟩ kv').ownsRow 0 42 4 kv' ns'.length (cellsOf ns') :=
    ownsRow_kept hr (S := [g]) ((Kept.refl _ _).setCell (by simp) _) (fun k hk' => by simp; intro e; exact hgF.2.2 (by rw [← e]; exact hk'))
  have hyok : OpenOk (w3.setCell ⟨g, os.length * 4 + 2, none⟩ kv') (y.withKids kv' ns') := by
    refine ⟨kv'.ownBlock.toList ++ fpOf ns', ?_, ?_, rfl, hyt⟩
    · exact ownsRow_same ha (fun k hk' => farR k (.inr (.inr (.inl (by have e : y.av.ownBlock = some k := hk'; rw [e]; simp)))))
    · refine Tree.mk hWr (fun n hn => (hok n hn).keep (fun k hk' => farR k ?_))
      have := mem_fpOf hn hk'
      rw [hfp'] at this
      rcases List.mem_append.1 this with h | h
      · exact .inr (.inr (.inr (.inl h)))
      · exact .inr (.inr (.inr (.inr h)))
  refine ⟨bb :: ((Value.slice (some ⟨g, 0, none⟩) (os.length + 1) cap).ownBlock.toList ++ fpOf (os ++ [y.withKids kv' ns'])), ⟨⟨t, ?_⟩, ⟨?_, ?_⟩, fun _ => Iff.rfl, hnd', ?_⟩, hkall, ?_⟩
  · exact (farR bb (.inl rfl)).trans h1
  · have h4' : w3.ownsRow 0 42 4 (.slice (some ⟨g, 0, none⟩) (os.length + 1) cap) (os ++ [y]).length (cellsOf (os ++ [y])) := ownsRow_same h4 (fun k hk' => by
      have e : k = g := by simpa [Value.ownBlock] using hk'.symm
      subst e
      exact hk.block k (h9 k hgF.1) hgF.2.1)
    have e1 : (os ++ [y]).length = os.length + 1 := by simp
    have e2 : (os ++ [y.withKids kv' ns']).length = os.length + 1 := by simp
    rw [e1] at h4'
    rw [e2, ← cellsOf_setKid os y kv' ns']
    exact own_setCell h4' _ (by rw [cellsOf_length]; simp; omega) _
  · intro n hn
    rcases List.mem_append.1 hn with hn | hn
    · exact (h5 n (by simp [hn])).keep (fun k hk' => farR k (.inr (.inl (mem_fpOf hn hk'))))
    · simp at hn
      subst hn
      exact hyok
  · intro k hk'
    have hz := hkall.size
    rw [← hp.mem_iff] at hk'
    simp only [List.mem_cons, List.mem_append, List.not_mem_nil, or_false] at hk'
    rcases hk' with rfl | hk' | (((hk' | hk') | hk') | hk') | hk'
    · have := h9 k (hR k (.inl rfl)).1; omega
    · have hb : kv'.ownBlock = some k := by simpa using hk'
      have := (hWr.lt k hb).2
      exact this
    · have := h9 k (hR k (.inr (.inl hk'))).1; omega
    · have := h9 k (hR k (.inr (.inr (.inl hk')))).1; omega
    · have := h9 k (hR k (.inr (.inr (.inr (.inl hk'))))).1; omega
    · have := h9 k (hR k (.inr (.inr (.inr (.inr hk'))))).1; omega
    · have := (hXlt k hk').1; omega
  · intro k hk'
    rw [← hp.mem_iff] at hk'
    simp only [List.mem_cons, List.mem_append, List.not_mem_nil, or_false] at hk'
    have inF : k ∈ F → k ∈ F ++ X ∨ w.heap.size ≤ k := fun hf => .inl (List.mem_append.2 (.inl hf))
    rcases hk' with rfl | hk' | (((hk' | hk') | hk') | hk') | hk'
    · exact inF (hR k (.inl rfl)).1
    · have hb : kv'.ownBlock = some k := by simpa using hk'
      rcases hm with hm | ⟨k2, hm1, hm2⟩
      · exact inF ((h6 k).2 (hp0.mem_iff.2 (by rw [← hm, hb]; simp)))
      · rw [hb] at hm1
        injection hm1 with e
        exact .inr (by omega)
    · exact inF (hR k (.inr (.inl hk'))).1
    · exact inF (hR k (.inr (.inr (.inl hk')))).1
    · exact inF (hR k (.inr (.inr (.inr (.inl hk'))))).1
    · exact inF (hR k (.inr (.inr (.inr (.inr hk'))))).1
    · exact .inl (List.mem_append.2 (.inr hk'))
/-- The last kid of the innermost, a text, grows. -/
theorem RAt.kidText {w : World} {bb g cap kg kc : Nat} {os ns0 : List NodeR} {F : List Nat} {y z : NodeR} (h : RAt w bb (.slice (some ⟨g, 0, none⟩) (os.length + 1) cap) (os ++ [y]) F)
    (ha : AOwn w y.av y.al) (hkv : y.kv = .slice (some ⟨kg, 0, none⟩) (ns0.length + 1) kc) (hkr : w.ownsRow 0 42 4 (.slice (some ⟨kg, 0, none⟩) (ns0.length + 1) kc) (ns0.length + 1) (cellsOf (ns0 ++ [z])))
    (hns : ∀ n ∈ ns0 ++ [z], NodeOk Tree w n) (hfp : y.fp = y.av.ownBlock.toList ++ (y.kv.ownBlock.toList ++ fpOf (ns0 ++ [z]))) (hyt : y.text = []) (hz : z.name = []) (t : List UInt8) :
    ∃ F', RAt (w.setCell ⟨kg, ns0.length * 4 + 3, none⟩ (.string ⟨(z.text ++ t).toArray⟩)) bb (.slice (some ⟨g, 0, none⟩) (os.length + 1) cap) (os ++ [y.withKids (.slice (some ⟨kg, 0, none⟩) (ns0.length + 1) kc) (ns0 ++ [z.withText t])]) F' ∧ Kept F w (w.setCell ⟨kg, ns0.length * 4 + 3, none⟩ (.string ⟨(z.text ++ t).toArray⟩)) ∧ Grow F w F' := by
  have hown := h.2.1.1
  have hl1 : (os ++ [y]).length = os.length + 1 := by simp
  rw [hl1] at hown
  have hyg := (cellsOf_get (os ++ [y]) os.length (by simp)).2.2.1
  have hyge : (os ++ [y])[os.length]'(by simp) = y := by simp
  rw [hyge, hkv] at hyg
  have d0 := row_cell hown hyg
  have hkg : kg ≠ g := by
    intro e
    have := (h.far.2 y (by simp) kg (by rw [hfp, hkv]; simp [Value.ownBlock])).2
    exact this (by rw [e]; rfl)
  have hr3 : (w.setCell ⟨kg, ns0.length * 4 + 3, none⟩ (.string ⟨(z.text ++ t).toArray⟩)).ownsRow 0 42 4 (.slice (some ⟨kg, 0, none⟩) (ns0.length + 1) kc) (ns0 ++ [z.withText t]).length (cellsOf (ns0 ++ [z.withText t])) := by
    have e2 : (ns0 ++ [z.withText t]).length = ns0.length + 1 := by simp
    rw [e2, ← cellsOf_setText]
    exact own_setCell hkr _ (by rw [cellsOf_length]; simp; omega) _
  have hkk : Kept y.kv.ownBlock.toList w (w.setCell ⟨kg, ns0.length * 4 + 3, none⟩ (.string ⟨(z.text ++ t).toArray⟩)) := (Kept.refl _ _).setCell (.inl (by rw [hkv]; simp [Value.ownBlock])) _
  have hA := h.setKids (w3 := w.setCell ⟨kg, ns0.length * 4 + 3, none⟩ (.string ⟨(z.text ++ t).toArray⟩)) (ns := ns0 ++ [z]) (ns' := ns0 ++ [z.withText t]) (X := []) (kv' := .slice (some ⟨kg, 0, none⟩) (ns0.length + 1) kc) ha hfp hyt hr3 (.inl (by rw [hkv])) hkk (fun n hn => by
    rcases List.mem_append.1 hn with hn | hn
    · exact hns n (by simp [hn])
    · simp at hn
      subst hn
      exact withTextOk (hns z (by simp)) hz t) (by rw [fpOf_withText]; simp) (by simp) (by simp)
  have hself : ((w.setCell ⟨kg, ns0.length * 4 + 3, none⟩ (.string ⟨(z.text ++ t).toArray⟩)).setCell ⟨g, os.length * 4 + 2, none⟩ (.slice (some ⟨kg, 0, none⟩) (ns0.length + 1) kc)) = w.setCell ⟨kg, ns0.length * 4 + 3, none⟩ (.string ⟨(z.text ++ t).toArray⟩) := by
    refine setCell_self ?_
    rw [World.cell?_setCell_other _ _ _ _ (fun hc => by injection hc with h1 h2 h3; exact hkg h1)]
    exact d0
  rw [hself] at hA
  simpa using hA
/-- A node goes behind the kids of the innermost, the two writings in either order. -/
theorem rput_fin {w w1 w' : World} {bb g cap g' cap' : Nat} {a k : Value} {os ns : List NodeR} {F : List Nat} {x y : NodeR} {z0 z1 z2 z3 : Value}
    (hb : RAt w bb (.slice (some ⟨g, 0, none⟩) (os.length + 1) cap) (os ++ [y]) F) (hk1 : Kept [] w w1)
    (hown : w'.ownsRow 0 42 4 (.slice (some ⟨g', 0, none⟩) (ns.length + 1) cap') (ns.length + 1) (cellsOf ns ++ [z0, z1, z2, z3])) (hgr : w1.grownBy w' y.kv.ownBlock) (hmv : Moved w1 y.kv (.slice (some ⟨g', 0, none⟩) (ns.length + 1) cap'))
    (ha : AOwn w y.av y.al) (hfp : y.fp = y.av.ownBlock.toList ++ (y.kv.ownBlock.toList ++ fpOf ns)) (hyt : y.text = []) (hns : ∀ n ∈ ns, NodeOk Tree w n)
    (hx : NodeOk Tree w x) (hxf : ∀ k, k ∈ x.fp → k ∉ F ∧ k < w.heap.size) (hxd : x.fp.Nodup) (ea : x.av = a) (ek : x.kv = k) (n1 : ¬ g' = g) :
    (∃ F', RAt (((((w'.setCell ⟨g', ns.length * 4, none⟩ (.string ⟨x.name.toArray⟩)).setCell ⟨g', ns.length * 4 + 1, none⟩ a).setCell ⟨g', ns.length * 4 + 2, none⟩ k).setCell ⟨g', ns.length * 4 + 3, none⟩ (.string ⟨x.text.toArray⟩)).setCell ⟨g, os.length * 4 + 2, none⟩ (.slice (some ⟨g', 0, none⟩) (ns.length + 1) cap')) bb (.slice (some ⟨g, 0, none⟩) (os.length + 1) cap) (os ++ [y.withKids (.slice (some ⟨g', 0, none⟩) (ns.length + 1) cap') (ns ++ [x])]) F' ∧ Kept F w (((((w'.setCell ⟨g', ns.length * 4, none⟩ (.string ⟨x.name.toArray⟩)).setCell ⟨g', ns.length * 4 + 1, none⟩ a).setCell ⟨g', ns.length * 4 + 2, none⟩ k).setCell ⟨g', ns.length * 4 + 3, none⟩ (.string ⟨x.text.toArray⟩)).setCell ⟨g, os.length * 4 + 2, none⟩ (.slice (some ⟨g', 0, none⟩) (ns.length + 1) cap')) ∧ Grow (F ++ x.fp) w F') ∧
    (∃ F', RAt (((((w'.setCell ⟨g, os.length * 4 + 2, none⟩ (.slice (some ⟨g', 0, none⟩) (ns.length + 1) cap')).setCell ⟨g', ns.length * 4, none⟩ (.string ⟨x.name.toArray⟩)).setCell ⟨g', ns.length * 4 + 1, none⟩ a).setCell ⟨g', ns.length * 4 + 2, none⟩ k).setCell ⟨g', ns.length * 4 + 3, none⟩ (.string ⟨x.text.toArray⟩)) bb (.slice (some ⟨g, 0, none⟩) (os.length + 1) cap) (os ++ [y.withKids (.slice (some ⟨g', 0, none⟩) (ns.length + 1) cap') (ns ++ [x])]) F' ∧ Kept F w (((((w'.setCell ⟨g, os.length * 4 + 2, none⟩ (.slice (some ⟨g', 0, none⟩) (ns.length + 1) cap')).setCell ⟨g', ns.length * 4, none⟩ (.string ⟨x.name.toArray⟩)).setCell ⟨g', ns.length * 4 + 1, none⟩ a).setCell ⟨g', ns.length * 4 + 2, none⟩ k).setCell ⟨g', ns.length * 4 + 3, none⟩ (.string ⟨x.text.toArray⟩)) ∧ Grow (F ++ x.fp) w F') := by
  subst ea ek
  obtain ⟨ra, rm, rk⟩ := row_add (v := y.kv) (ns := ns) hk1 hown hgr hmv x
  have hA := hb.setKids ha hfp hyt ra rm rk (fun n hn => by
    rcases List.mem_append.1 hn with hn | hn
    · exact hns n hn
    · simp at hn; subst hn; exact hx) (by rw [fpOf_append, fpOf_one]) hxf hxd
  have hco := put4_comm w' g' (ns.length * 4) g (os.length * 4 + 2) x (.slice (some ⟨g', 0, none⟩) (ns.length + 1) cap') n1
  refine ⟨hA, ?_⟩
  rw [← hco] at hA
  exact hA
/-- What has come so far, and what is open. -/
def rOut (n0 : NodeR) (os : List NodeR) : List Ev := n0.ev ++ os.flatMap (fun n => evOpen n.name n.al :: n.ev)
def RBld (w : World) (bb : Nat) (F : List Nat) (E : List Ev) (st : List (List UInt8)) : Prop :=
  ∃ ov n0 os, RAt w bb ov (n0 :: os) F ∧ n0.name = [] ∧ (∀ n ∈ os, n.name ≠ []) ∧ E = rOut n0 os ∧ st = os.map NodeR.name
theorem RBld.kept {w w' : World} {bb : Nat} {F S : List Nat} {E : List Ev} {st : List (List UInt8)} (h : RBld w bb F E st) (hk : Kept S w w') (hn : ∀ k, k ∈ F → k ∉ S) : RBld w' bb F E st := by
  obtain ⟨ov, n0, os, h1, h2⟩ := h
  exact ⟨ov, n0, os, h1.kept hk hn, h2⟩
end Go.Proofs.YtlpmjpmefdpcmaaGreatDoor
/- The reference's builder: a node goes into the innermost. -/
namespace Go.Proofs.YtlpmjpmefdpcmaaGreatDoor
open Go.RowKit Scrub Go.Shelf
def putE (E : List Ev) (x : NodeR) : List Ev := if x.name = [] then addText E x.text else E ++ x.evs
/-- A node behind the kids of the innermost: the row is made, then its place is written. -/
theorem rput_row {w w1 w' : World} {bb g cap : Nat} {v' : Value} {os ns : List NodeR} {F : List Nat} {x y : NodeR}
    (hb : RAt w bb (.slice (some ⟨g, 0, none⟩) (os.length + 1) cap) (os ++ [y]) F) (hk1 : Kept [] w w1)
    (hown : w'.ownsRow 0 42 4 v' (ns.length + 1) (cellsOf ns ++ x.cells)) (hgr : w1.grownBy w' y.kv.ownBlock) (hmv : Moved w1 y.kv v')
    (ha : AOwn w y.av y.al) (hfp : y.fp = y.av.ownBlock.toList ++ (y.kv.ownBlock.toList ++ fpOf ns)) (hyt : y.text = []) (hns : ∀ n ∈ ns, NodeOk Tree w n)
    (hx : NodeOk Tree w x) (hxf : ∀ k, k ∈ x.fp → k ∉ F ∧ k < w.heap.size) (hxd : x.fp.Nodup) :
    ∃ F', RAt (w'.setCell ⟨g, os.length * 4 + 2, none⟩ v') bb (.slice (some ⟨g, 0, none⟩) (os.length + 1) cap) (os ++ [y.withKids v' (ns ++ [x])]) F' ∧ Kept F w (w'.setCell ⟨g, os.length * 4 + 2, none⟩ v') ∧ Grow (F ++ x.fp) w F' := by
  have e : cellsOf (ns ++ [x]) = cellsOf ns ++ x.cells := by simp [cellsOf]
  refine hb.setKids (ns := ns) (ns' := ns ++ [x]) ha hfp hyt (by rw [e, List.length_append]; exact hown) (hmv.kept hk1.size) ((hk1.mono (by simp)).trans (Kept.own hgr)) (fun n hn => ?_) (by rw [fpOf_append, fpOf_one]) hxf hxd
  rcases List.mem_append.1 hn with hn | hn
  · exact hns n hn
  · simp at hn; subst hn; exact hx
/-- The innermost: what lies there. -/
theorem RBld.inner {w : World} {bb : Nat} {F : List Nat} {E : List Ev} {st : List (List UInt8)} (h : RBld w bb F E st) : ∃ (L : List NodeR) (y : NodeR) (ns : List NodeR) (g cap : Nat) (ya : Option Addr) (yc : Nat),
    RAt w bb (.slice (some ⟨g, 0, none⟩) (L.length + 1) cap) (L ++ [y]) F ∧ L.length = st.length ∧ y.kv = .slice ya ns.length yc ∧ AOwn w y.av y.al ∧ y.text = [] ∧ w.ownsRow 0 42 4 y.kv ns.length (cellsOf ns) ∧ (∀ n ∈ ns, NodeOk Tree w n) ∧ y.fp = y.av.ownBlock.toList ++ (y.kv.ownBlock.toList ++ fpOf ns) ∧
    ns.length ≤ E.length ∧
    ∃ pre, E = pre ++ evsOf ns ∧ (pre = [] ∨ ∃ p n al, pre = p ++ [evOpen n al]) ∧ ∀ kv' ns' F' W, RAt W bb (.slice (some ⟨g, 0, none⟩) (L.length + 1) cap) (L ++ [y.withKids kv' ns']) F' → RBld W bb F' (pre ++ evsOf ns') st := by
  obtain ⟨ov, n0, os, hb, h0, hn, hE, hS⟩ := h
  rcases List.eq_nil_or_concat os with ho | ⟨os1, y, ho⟩
  · subst ho
    have hown := hb.2.1.1
    obtain ⟨g, cap, rfl⟩ := form_pos (n := 0) hown
    obtain ⟨kfp, ha, hk, hf, ht⟩ := hb.2.1.2 n0 (by simp)
    obtain ⟨ns, hr, hok, he, hfp⟩ := hk.open
    obtain ⟨ya, yc, hkv⟩ := ownsRow_form hr
    have hE' : E = evsOf ns := by rw [hE, ← he]; simp [rOut]
    refine ⟨[], n0, ns, g, cap, ya, yc, hb, (by rw [hS]; rfl), hkv, ha, ht, hr, hok, by rw [hf, hfp], by rw [hE']; exact evsOf_le ns, [], by simpa using hE', .inl rfl, fun kv' ns' F' W hW => ⟨_, n0.withKids kv' ns', [], hW, h0, by simp, ?_, hS⟩⟩
    simp [rOut, NodeR.withKids]
  · have ho' : os = os1 ++ [y] := by simpa using ho
    subst ho'
    have hown := hb.2.1.1
    have hlen : (n0 :: (os1 ++ [y])).length = (n0 :: os1).length + 1 := by simp
    rw [hlen] at hown
    obtain ⟨g, cap, rfl⟩ := form_pos hown
    obtain ⟨kfp, ha, hk, hf, ht⟩ := hb.2.1.2 y (by simp)
    obtain ⟨ns, hr, hok, he, hfp⟩ := hk.open
    obtain ⟨ya, yc, hkv⟩ := ownsRow_form hr
    have hE' : E = rOut n0 os1 ++ [evOpen y.name y.al] ++ evsOf ns := by rw [hE, ← he]; simp [rOut]
    refine ⟨n0 :: os1, y, ns, g, cap, ya, yc, hb, by rw [hS]; simp, hkv, ha, ht, hr, hok, by rw [hf, hfp], by rw [hE']; have := evsOf_le ns; simp; omega, rOut n0 os1 ++ [evOpen y.name y.al], hE', .inr ⟨_, _, _, rfl⟩, fun kv' ns' F' W hW => ⟨_, n0, os1 ++ [y.withKids kv' ns'], hW, h0, ?_, ?_, ?_⟩⟩
    · intro n hn'
      rcases List.mem_append.1 hn' with h1 | h1
      · exact hn n (by simp [h1])
      · simp at h1
        subst h1
        exact hn y (by simp)
    · simp [rOut, NodeR.withKids]
    · rw [hS]
      simp [NodeR.withKids]
theorem put_text0 (pre : List Ev) (h : pre = [] ∨ ∃ p n al, pre = p ++ [evOpen n al]) (x : NodeR) : putE (pre ++ evsOf []) x = pre ++ evsOf ([] ++ [x]) := by
  unfold putE
  have e : evsOf ([] ++ [x]) = x.evs := by simp [evsOf]
  have e0 : pre ++ evsOf [] = pre := by simp [evsOf]
  rw [e, e0]
  split
  · rename_i hx
    have hx' : x.evs = [evText x.text] := by simp [NodeR.evs, hx]
    rw [hx']
    rcases h with rfl | ⟨p, n, al, rfl⟩
    · rfl
    · rw [addText_open]
  · rfl
theorem put_app (pre : List Ev) (ns0 : List NodeR) (z x : NodeR) (h : x.name ≠ [] ∨ z.name ≠ []) : putE (pre ++ evsOf (ns0 ++ [z])) x = pre ++ evsOf ((ns0 ++ [z]) ++ [x]) := by
  unfold putE
  have e : evsOf ((ns0 ++ [z]) ++ [x]) = evsOf (ns0 ++ [z]) ++ x.evs := by simp [evsOf]
  rw [e, ← List.append_assoc]
  split
  · rename_i hx
    have hz : z.name ≠ [] := by
      rcases h with h | h
      · exact absurd hx h
      · exact h
    have hx' : x.evs = [evText x.text] := by simp [NodeR.evs, hx]
    have ez : pre ++ evsOf (ns0 ++ [z]) = (pre ++ evsOf ns0 ++ evOpen z.name z.al :: z.ev) ++ [none] := by simp [evsOf, NodeR.evs, hz]
    rw [hx', ez, addText_close]
  · rfl
theorem put_grow (pre : List Ev) (ns0 : List NodeR) (z x : NodeR) (hx : x.name = []) (hz : z.name = []) : putE (pre ++ evsOf (ns0 ++ [z])) x = pre ++ evsOf (ns0 ++ [z.withText x.text]) := by
  unfold putE
  rw [if_pos hx]
  have ez : pre ++ evsOf (ns0 ++ [z]) = (pre ++ evsOf ns0) ++ [evText z.text] := by simp [evsOf, NodeR.evs, hz]
  rw [ez, addText_text]
  simp [evsOf, NodeR.evs, NodeR.withText, hz]
end Go.Proofs.YtlpmjpmefdpcmaaGreatDoor
