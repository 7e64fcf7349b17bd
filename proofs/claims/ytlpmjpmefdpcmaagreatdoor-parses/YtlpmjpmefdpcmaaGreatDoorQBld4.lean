import Derived.Test.YtlpmjpmefdpcmaaGreatDoorQBld2
/- The builder's steps in memory: a node more at the top, one more open, one closed. No function of the program in it. -/
namespace Go.Proofs.YtlpmjpmefdpcmaaGreatDoor
open Go.RowKit Scrub Go.Shelf
theorem fpOf_one (x : NodeR) : fpOf [x] = x.fp := by simp [fpOf]
theorem BAt.mem {w : World} {bb : Nat} {tv ov : Value} {ts os : List NodeR} {F : List Nat} (h : BAt w bb tv ov ts os F) (k : Nat) : k ∈ F ↔ k = bb ∨ k ∈ tv.ownBlock.toList ∨ k ∈ ov.ownBlock.toList ∨ k ∈ fpOf ts ∨ k ∈ fpOf os := by
  rw [h.2.2.2.1 k]
  simp
/-- A node more at the top. -/
theorem BAt.addTop {w w3 : World} {bb : Nat} {tv tv' ov : Value} {ts os : List NodeR} {F : List Nat} {x : NodeR} (h : BAt w bb tv ov ts os F)
    (hr : w3.ownsRow 0 42 4 tv' (ts ++ [x]).length (cellsOf (ts ++ [x]))) (hm : Moved w tv tv') (hk : Kept tv.ownBlock.toList w w3)
    (hx : NodeOk Tree w x) (hxf : ∀ k, k ∈ x.fp → k ∉ F ∧ k < w.heap.size) (hxd : x.fp.Nodup) :
    ∃ F', BAt (w3.setCell ⟨bb, 0, none⟩ tv') bb tv' ov (ts ++ [x]) os F' ∧ Kept F w (w3.setCell ⟨bb, 0, none⟩ tv') ∧ Grow (F ++ x.fp) w F' := by
  have hmem := h.mem
  obtain ⟨⟨t, h1⟩, ⟨h2, h3⟩, ⟨h4, h5⟩, h6, h7, h8, h9⟩ := h
  have hml := moved_list hm
  have hnd : (bb :: (tv'.ownBlock.toList ++ ((ov.ownBlock.toList ++ fpOf ts ++ fpOf os) ++ x.fp))).Nodup := by
    refine nodup_new (B := tv.ownBlock.toList) (n := w.heap.size) (by simpa [List.append_assoc] using h7) ?_ hml hxd ?_
    · intro k hk; exact h9 k ((h6 k).2 (by simpa [List.append_assoc] using hk))
    · intro k hk
      refine ⟨fun hc => (hxf k hk).1 ((h6 k).2 (by simpa [List.append_assoc] using hc)), (hxf k hk).2⟩
  have hp : List.Perm (bb :: (tv'.ownBlock.toList ++ ((ov.ownBlock.toList ++ fpOf ts ++ fpOf os) ++ x.fp))) (bb :: (tv'.ownBlock.toList ++ ov.ownBlock.toList ++ fpOf (ts ++ [x]) ++ fpOf os)) := by
    refine List.perm_iff_count.2 (fun a => ?_)
    simp only [fpOf_append, fpOf_one, List.count_append, List.count_cons]
    omega
  have hnd' := hp.nodup_iff.1 hnd
  -- what is far from the top's row and from bb is as it was
  have hbbtv : bb ∉ tv.ownBlock.toList := by
    intro hc
    rw [List.nodup_cons] at h7
    exact h7.1 (by simp [hc])
  have hbb' : ∀ k, tv'.ownBlock = some k → k ≠ bb := by
    intro k hk e
    rw [List.nodup_cons] at hnd
    exact hnd.1 (by rw [← e, hk]; simp)
  have hbblt : bb < w.heap.size := h9 bb ((h6 bb).2 (by simp))
  have far : ∀ k, k < w.heap.size → k ≠ bb → k ∉ tv.ownBlock.toList → (w3.setCell ⟨bb, 0, none⟩ tv').heap[k]? = w.heap[k]? := fun k hk1 hk2 hk3 =>
    (Below.heap_setCell _ _ _ _ hk2).trans (hk.block k hk1 hk3)
  have hmemlt : ∀ k, (k ∈ ov.ownBlock.toList ∨ k ∈ fpOf ts ∨ k ∈ fpOf os ∨ k ∈ x.fp) → k < w.heap.size ∧ k ≠ bb ∧ k ∉ tv.ownBlock.toList := by
    intro k hk
    rw [List.nodup_cons, List.nodup_append] at h7
    rcases hk with hk | hk | hk | hk
    · refine ⟨h9 k ((hmem k).2 (by simp [hk])), fun e => h7.1 (by subst e; simp [hk]), fun hc => ?_⟩
      rw [List.nodup_append, List.nodup_append] at h7
      exact h7.2.1.1.2.2 k hc k hk rfl
    · refine ⟨h9 k ((hmem k).2 (by simp [hk])), fun e => h7.1 (by subst e; simp [hk]), fun hc => ?_⟩
      rw [List.nodup_append] at h7
      exact h7.2.1.2.2 k (by simp [hc]) k hk rfl
    · refine ⟨h9 k ((hmem k).2 (by simp [hk])), fun e => h7.1 (by subst e; simp [hk]), fun hc => ?_⟩
      exact h7.2.2.2 k (by simp [hc]) k hk rfl
    · have := hxf k hk
      exact ⟨this.2, fun e => this.1 ((hmem k).2 (.inl e)), fun hc => this.1 ((hmem k).2 (.inr (.inl hc)))⟩
  have okOf : ∀ n : NodeR, NodeOk Tree w n → (∀ k, k ∈ n.fp → k ∈ fpOf ts ∨ k ∈ fpOf os ∨ k ∈ x.fp) → NodeOk Tree (w3.setCell ⟨bb, 0, none⟩ tv') n := by
    intro n hn hf
    refine hn.keep (fun k hk' => ?_)
    have := hmemlt k (by rcases hf k hk' with h | h | h <;> simp [h])
    exact far k this.1 this.2.1 this.2.2
  have hkall : Kept F w (w3.setCell ⟨bb, 0, none⟩ tv') := by
    refine (hk.mono (fun i hi => (hmem i).2 (.inr (.inl hi)))).setCell (.inl ((hmem bb).2 (.inl rfl))) _
  refine ⟨bb :: (tv'.ownBlock.toList ++ ov.ownBlock.toList ++ fpOf (ts ++ [x]) ++ fpOf os), ⟨⟨t, ?_⟩, ⟨?_, ?_⟩, ⟨?_, ?_⟩, fun _ => Iff.rfl, hnd', h8, ?_⟩, hkall, ?_⟩
  · have e : w3.heap[bb]? = some (.cells #[tv, ov] t (0, 0)) := (hk.block bb hbblt hbbtv).trans h1
    simp [World.setCell, Array.getElem?_modify, e]
  · exact ownsRow_kept hr (S := [bb]) ((Kept.refl _ _).setCell (by simp) _) (fun k hk' => by have := hbb' k hk'; simp; exact this)
  · intro n hn
    rcases List.mem_append.1 hn with hn | hn
    · exact okOf n (h3 n hn) (fun k hk' => .inl (mem_fpOf hn hk'))
    · simp at hn
      subst hn
      exact okOf n hx (fun k hk' => .inr (.inr hk'))
  · refine ownsRow_same h4 (fun k hk' => ?_)
    have := hmemlt k (.inl (by rw [hk']; simp))
    exact far k this.1 this.2.1 this.2.2
  · intro n hn
    exact okOf n (h5 n hn) (fun k hk' => .inr (.inl (mem_fpOf hn hk')))
  · intro k hk'
    have hz := hkall.size
    simp only [List.mem_cons, List.mem_append, fpOf_append, fpOf_one] at hk'
    rcases hk' with rfl | ((hk' | hk') | hk' | hk') | hk'
    · omega
    · have hb : tv'.ownBlock = some k := by simpa using hk'
      have := (hr.lt k hb).2
      simpa [World.setCell] using this
    · have := (hmemlt k (.inl hk')).1; omega
    · have := (hmemlt k (.inr (.inl hk'))).1; omega
    · have := (hmemlt k (.inr (.inr (.inr hk')))).1; omega
    · have := (hmemlt k (.inr (.inr (.inl hk')))).1; omega
  · intro k hk'
    simp only [List.mem_cons, List.mem_append, fpOf_append, fpOf_one] at hk'
    rcases hk' with rfl | ((hk' | hk') | hk' | hk') | hk'
    · exact .inl (by simp [(hmem k).2 (.inl rfl)])
    · have hb : tv'.ownBlock = some k := by simpa using hk'
      rcases hm with hm | ⟨k2, hm1, hm2⟩
      · exact .inl (by simp [(hmem k).2 (.inr (.inl (by rw [← hm, hb]; simp)))])
      · rw [hb] at hm1
        injection hm1 with e
        exact .inr (by omega)
    · exact .inl (by simp [(hmem k).2 (.inr (.inr (.inl hk')))])
    · exact .inl (by simp [(hmem k).2 (.inr (.inr (.inr (.inl hk'))))])
    · exact .inl (by simp [hk'])
    · exact .inl (by simp [(hmem k).2 (.inr (.inr (.inr (.inr hk'))))])
/-- One more is open. -/
theorem BAt.addOpen {w w3 : World} {bb : Nat} {tv ov ov' : Value} {ts os : List NodeR} {F : List Nat} {x : NodeR} (h : BAt w bb tv ov ts os F)
    (hr : w3.ownsRow 0 42 4 ov' (os ++ [x]).length (cellsOf (os ++ [x]))) (hm : Moved w ov ov') (hk : Kept ov.ownBlock.toList w w3)
    (hx : NodeOk Tree w x) (hxn : x.name ≠ []) (hxf : ∀ k, k ∈ x.fp → k ∉ F ∧ k < w.heap.size) (hxd : x.fp.Nodup) :
    ∃ F', BAt (w3.setCell ⟨bb, 1, none⟩ ov') bb tv ov' ts (os ++ [x]) F' ∧ Kept F w (w3.setCell ⟨bb, 1, none⟩ ov') ∧ Grow (F ++ x.fp) w F' := by
  have hmem := h.mem
  obtain ⟨⟨t, h1⟩, ⟨h2, h3⟩, ⟨h4, h5⟩, h6, h7, h8, h9⟩ := h
  have hml := moved_list hm
  have hp0 : List.Perm (bb :: (tv.ownBlock.toList ++ ov.ownBlock.toList ++ fpOf ts ++ fpOf os)) (bb :: (ov.ownBlock.toList ++ (tv.ownBlock.toList ++ fpOf ts ++ fpOf os))) := by
    refine List.perm_iff_count.2 (fun a => ?_)
    simp only [List.count_append, List.count_cons]
    omega
  have h70 := hp0.nodup_iff.1 h7
  have hnd : (bb :: (ov'.ownBlock.toList ++ ((tv.ownBlock.toList ++ fpOf ts ++ fpOf os) ++ x.fp))).Nodup := by
    refine nodup_new (B := ov.ownBlock.toList) (n := w.heap.size) h70 ?_ hml hxd ?_
    · intro k hk; exact h9 k ((h6 k).2 (hp0.mem_iff.2 hk))
    · intro k hk
      refine ⟨fun hc => (hxf k hk).1 ((h6 k).2 (hp0.mem_iff.2 hc)), (hxf k hk).2⟩
  have hp : List.Perm (bb :: (ov'.ownBlock.toList ++ ((tv.ownBlock.toList ++ fpOf ts ++ fpOf os) ++ x.fp))) (bb :: (tv.ownBlock.toList ++ ov'.ownBlock.toList ++ fpOf ts ++ fpOf (os ++ [x]))) := by
    refine List.perm_iff_count.2 (fun a => ?_)
    simp only [fpOf_append, fpOf_one, List.count_append, List.count_cons]
    omega
  have hnd' := hp.nodup_iff.1 hnd
  have hbbov : bb ∉ ov.ownBlock.toList := by
    intro hc
    rw [List.nodup_cons] at h7
    exact h7.1 (by simp [hc])
  have hbb' : ∀ k, ov'.ownBlock = some k → k ≠ bb := by
    intro k hk e
    rw [List.nodup_cons] at hnd
    exact hnd.1 (by rw [← e, hk]; simp)
  have hbblt : bb < w.heap.size := h9 bb ((h6 bb).2 (by simp))
  have far : ∀ k, k < w.heap.size → k ≠ bb → k ∉ ov.ownBlock.toList → (w3.setCell ⟨bb, 1, none⟩ ov').heap[k]? = w.heap[k]? := fun k hk1 hk2 hk3 =>
    (Below.heap_setCell _ _ _ _ hk2).trans (hk.block k hk1 hk3)
  have hmemlt : ∀ k, (k ∈ tv.ownBlock.toList ∨ k ∈ fpOf ts ∨ k ∈ fpOf os ∨ k ∈ x.fp) → k < w.heap.size ∧ k ≠ bb ∧ k ∉ ov.ownBlock.toList := by
    intro k hk
    have key : (k ∈ tv.ownBlock.toList ∨ k ∈ fpOf ts ∨ k ∈ fpOf os) → k < w.heap.size ∧ k ≠ bb ∧ k ∉ ov.ownBlock.toList := by
      intro hk
      have hkm : k ∈ tv.ownBlock.toList ++ fpOf ts ++ fpOf os := by simpa [or_assoc] using hk
      rw [List.nodup_cons, List.nodup_append] at h70
      refine ⟨h9 k ((h6 k).2 (hp0.mem_iff.2 (by simp only [List.mem_cons, List.mem_append] at hkm ⊢; exact .inr (.inr hkm)))), fun e => h70.1 (by subst e; exact List.mem_append.2 (.inr hkm)), fun hc => h70.2.2.2 k hc k hkm rfl⟩
    rcases hk with hk | hk | hk | hk
    · exact key (.inl hk)
    · exact key (.inr (.inl hk))
    · exact key (.inr (.inr hk))
    · have := hxf k hk
      exact ⟨this.2, fun e => this.1 ((hmem k).2 (.inl e)), fun hc => this.1 ((hmem k).2 (.inr (.inr (.inl hc))))⟩
  have okOf : ∀ n : NodeR, NodeOk Tree w n → (∀ k, k ∈ n.fp → k ∈ fpOf ts ∨ k ∈ fpOf os ∨ k ∈ x.fp) → NodeOk Tree (w3.setCell ⟨bb, 1, none⟩ ov') n := by
    intro n hn hf
    refine hn.keep (fun k hk' => ?_)
    have := hmemlt k (by rcases hf k hk' with h | h | h <;> simp [h])
    exact far k this.1 this.2.1 this.2.2
  have hkall : Kept F w (w3.setCell ⟨bb, 1, none⟩ ov') := by
    refine (hk.mono (fun i hi => (hmem i).2 (.inr (.inr (.inl hi))))).setCell (.inl ((hmem bb).2 (.inl rfl))) _
  refine ⟨bb :: (tv.ownBlock.toList ++ ov'.ownBlock.toList ++ fpOf ts ++ fpOf (os ++ [x])), ⟨⟨t, ?_⟩, ⟨?_, ?_⟩, ⟨?_, ?_⟩, fun _ => Iff.rfl, hnd', ?_, ?_⟩, hkall, ?_⟩
  · have e : w3.heap[bb]? = some (.cells #[tv, ov] t (0, 0)) := (hk.block bb hbblt hbbov).trans h1
    simp [World.setCell, Array.getElem?_modify, e]
  · refine ownsRow_same h2 (fun k hk' => ?_)
    have := hmemlt k (.inl (by rw [hk']; simp))
    exact far k this.1 this.2.1 this.2.2
  · intro n hn
    exact okOf n (h3 n hn) (fun k hk' => .inl (mem_fpOf hn hk'))
  · exact ownsRow_kept hr (S := [bb]) ((Kept.refl _ _).setCell (by simp) _) (fun k hk' => by have := hbb' k hk'; simp; exact this)
  · intro n hn
    rcases List.mem_append.1 hn with hn | hn
    · exact okOf n (h5 n hn) (fun k hk' => .inr (.inl (mem_fpOf hn hk')))
    · simp at hn
      subst hn
      exact okOf n hx (fun k hk' => .inr (.inr hk'))
  · intro n hn
    rcases List.mem_append.1 hn with hn | hn
    · exact h8 n hn
    · simp at hn
      subst hn
      exact hxn
  · intro k hk'
    have hz := hkall.size
    simp only [List.mem_cons, List.mem_append, fpOf_append, fpOf_one] at hk'
    rcases hk' with rfl | ((hk' | hk') | hk') | hk' | hk'
    · omega
    · have := (hmemlt k (.inl hk')).1; omega
    · have hb : ov'.ownBlock = some k := by simpa using hk'
      have := (hr.lt k hb).2
      simpa [World.setCell] using this
    · have := (hmemlt k (.inr (.inl hk'))).1; omega
    · have := (hmemlt k (.inr (.inr (.inl hk')))).1; omega
    · have := (hmemlt k (.inr (.inr (.inr hk')))).1; omega
  · intro k hk'
    simp only [List.mem_cons, List.mem_append, fpOf_append, fpOf_one] at hk'
    rcases hk' with rfl | ((hk' | hk') | hk') | hk' | hk'
    · exact .inl (by simp [(hmem k).2 (.inl rfl)])
    · exact .inl (by simp [(hmem k).2 (.inr (.inl hk'))])
    · have hb : ov'.ownBlock = some k := by simpa using hk'
      rcases hm with hm | ⟨k2, hm1, hm2⟩
      · exact .inl (by simp [(hmem k).2 (.inr (.inr (.inl (by rw [← hm, hb]; simp))))])
      · rw [hb] at hm1
        injection hm1 with e
        exact .inr (by omega)
    · exact .inl (by simp [(hmem k).2 (.inr (.inr (.inr (.inl hk'))))])
    · exact .inl (by simp [(hmem k).2 (.inr (.inr (.inr (.inr hk'))))])
    · exact .inl (by simp [hk'])
/-- The last that is open is taken off: what is left, and it. -/
theorem BAt.pop {w : World} {bb : Nat} {tv : Value} {ts os : List NodeR} {F : List Nat} {x : NodeR} {g cap : Nat} (h : BAt w bb tv (.slice (some ⟨g, 0, none⟩) (os.length + 1) cap) ts (os ++ [x]) F) :
    (∃ F1, BAt (w.setCell ⟨bb, 1, none⟩ (.slice (some ⟨g, 0, none⟩) os.length cap)) bb tv (.slice (some ⟨g, 0, none⟩) os.length cap) ts os F1 ∧ (∀ k, k ∈ F1 → k ∈ F) ∧ (∀ k, k ∈ x.fp → k ∉ F1 ∧ k ∈ F)) ∧
    NodeOk Tree (w.setCell ⟨bb, 1, none⟩ (.slice (some ⟨g, 0, none⟩) os.length cap)) x ∧ x.fp.Nodup ∧ x.name ≠ [] ∧ Kept F w (w.setCell ⟨bb, 1, none⟩ (.slice (some ⟨g, 0, none⟩) os.length cap)) := by
  have hmem := h.mem
  obtain ⟨⟨t, h1⟩, ⟨h2, h3⟩, ⟨h4, h5⟩, h6, h7, h8, h9⟩ := h
  have hbbF : bb ∈ F := (hmem bb).2 (.inl rfl)
  have hkall : Kept F w (w.setCell ⟨bb, 1, none⟩ (.slice (some ⟨g, 0, none⟩) os.length cap)) := (Kept.refl _ _).setCell (.inl hbbF) _
  have hp : List.Perm (bb :: (tv.ownBlock.toList ++ (Value.slice (some ⟨g, 0, none⟩) (os.length + 1) cap).ownBlock.toList ++ fpOf ts ++ fpOf (os ++ [x]))) (x.fp ++ (bb :: (tv.ownBlock.toList ++ (Value.slice (some ⟨g, 0, none⟩) os.length cap).ownBlock.toList ++ fpOf ts ++ fpOf os))) := by
    refine List.perm_iff_count.2 (fun a => ?_)
    simp only [Value.ownBlock, fpOf_append, fpOf_one, List.count_append, List.count_cons]
    omega
  have hnd := hp.nodup_iff.1 h7
  rw [List.nodup_append] at hnd
  obtain ⟨hxd, hnd1, hdis⟩ := hnd
  have far : ∀ k, k ≠ bb → (w.setCell ⟨bb, 1, none⟩ (.slice (some ⟨g, 0, none⟩) os.length cap)).heap[k]? = w.heap[k]? := fun k hk => Below.heap_setCell _ _ _ _ hk
  have hne : ∀ k, (k ∈ tv.ownBlock.toList ∨ k = g ∨ k ∈ fpOf ts ∨ k ∈ fpOf os ∨ k ∈ x.fp) → k ≠ bb := by
    intro k hk e
    rw [List.nodup_cons] at h7
    refine h7.1 ?_
    subst e
    have hob : (Value.slice (some ⟨g, 0, none⟩) (os.length + 1) cap).ownBlock.toList = [g] := rfl
    simp only [hob, fpOf_append, fpOf_one, List.mem_append, List.mem_singleton]
    rcases hk with hk | hk | hk | hk | hk
    · exact .inl (.inl (.inl hk))
    · exact .inl (.inl (.inr hk))
    · exact .inl (.inr hk)
    · exact .inr (.inl hk)
    · exact .inr (.inr hk)
  have okOf : ∀ n : NodeR, NodeOk Tree w n → (∀ k, k ∈ n.fp → k ∈ fpOf ts ∨ k ∈ fpOf os ∨ k ∈ x.fp) → NodeOk Tree (w.setCell ⟨bb, 1, none⟩ (.slice (some ⟨g, 0, none⟩) os.length cap)) n := by
    intro n hn hf
    refine hn.keep (fun k hk' => far k (hne k ?_))
    rcases hf k hk' with h | h | h <;> simp [h]
  refine ⟨⟨bb :: (tv.ownBlock.toList ++ (Value.slice (some ⟨g, 0, none⟩) os.length cap).ownBlock.toList ++ fpOf ts ++ fpOf os), ⟨⟨t, ?_⟩, ⟨?_, ?_⟩, ⟨?_, ?_⟩, fun _ => Iff.rfl, hnd1, ?_, ?_⟩, ?_, ?_⟩, ?_, hxd, h8 x (by simp), hkall⟩
  · simp [World.setCell, Array.getElem?_modify, h1]
  · exact ownsRow_same h2 (fun k hk => far k (hne k (.inl (by rw [hk]; simp))))
  · intro n hn
    exact okOf n (h3 n hn) (fun k hk' => .inl (mem_fpOf hn hk'))
  · have h4' : w.ownsRow 0 42 4 (.slice (some ⟨g, 0, none⟩) os.length cap) os.length (cellsOf os) := by
      obtain ⟨e1, e2⟩ := h4
      refine ⟨cellsOf_length os, ?_⟩
      rcases e2 with ⟨e2, _⟩ | ⟨g', cap', cur, hv, hb, hg, hnc, hcm, hcs, htk⟩
      · cases e2
      · injection hv with q1 q2 q3
        injection q1 with q1
        injection q1 with q1
        subst q1 q3
        refine .inr ⟨g, cap, cur, rfl, hb, hg, by simp at hnc; omega, hcm, hcs, ?_⟩
        have e3 : (cellsOf (os ++ [x])).take (os.length * 4) = cellsOf os := by
          rw [cellsOf_append, ← cellsOf_length os]
          exact List.take_left
        rw [← e3, ← htk, List.take_take]
        congr 1
        simp
    exact ownsRow_same h4' (fun k hk => far k (hne k (.inr (.inl (by simpa [Value.ownBlock] using hk.symm)))))
  · intro n hn
    exact okOf n (h5 n (by simp [hn])) (fun k hk' => .inr (.inl (mem_fpOf hn hk')))
  · intro n hn
    exact h8 n (by simp [hn])
  · intro k hk
    have : k ∈ F := (h6 k).2 (hp.mem_iff.2 (List.mem_append.2 (.inr hk)))
    have := h9 k this
    simpa [World.setCell] using this
  · intro k hk
    exact (h6 k).2 (hp.mem_iff.2 (List.mem_append.2 (.inr hk)))
  · intro k hk
    exact ⟨fun hc => hdis k hk k hc rfl, (h6 k).2 (hp.mem_iff.2 (List.mem_append.2 (.inl hk)))⟩
  · exact okOf x (h5 x (by simp)) (fun k hk' => .inr (.inr hk'))
end Go.Proofs.YtlpmjpmefdpcmaaGreatDoor
/- The builder's steps in memory: the kids of the innermost turn. No function of the program in it. -/
namespace Go.Proofs.YtlpmjpmefdpcmaaGreatDoor
open Go.RowKit Scrub Go.Shelf
/-- The innermost with other kids. -/
def NodeR.withKids (y : NodeR) (kv' : Value) (ns' : List NodeR) : NodeR := { y with kv := kv', ev := evsOf ns', fp := y.av.ownBlock.toList ++ (kv'.ownBlock.toList ++ fpOf ns') }
theorem cellsOf_setKid (os : List NodeR) (y : NodeR) (kv' : Value) (ns' : List NodeR) : (cellsOf (os ++ [y])).set (os.length * 4 + 2) kv' = cellsOf (os ++ [y.withKids kv' ns']) := by
  rw [cellsOf_append, cellsOf_append, ← cellsOf_length os, List.set_append_right _ _ (by omega)]
  congr 1
  have : (cellsOf os).length + 2 - (cellsOf os).length = 2 := by omega
  rw [this]
  simp [cellsOf, NodeR.cells, NodeR.withKids]
theorem BAt.setKids {w w3 : World} {bb : Nat} {tv kv' : Value} {ts os ns ns' : List NodeR} {F X : List Nat} {y : NodeR} {g cap : Nat}
    (h : BAt w bb tv (.slice (some ⟨g, 0, none⟩) (os.length + 1) cap) ts (os ++ [y]) F)
    (ha : AOwn w y.av y.al) (hfp : y.fp = y.av.ownBlock.toList ++ (y.kv.ownBlock.toList ++ fpOf ns)) (hyt : y.text = [])
    (hr : w3.ownsRow 0 42 4 kv' ns'.length (cellsOf ns')) (hm : Moved w y.kv kv') (hk : Kept y.kv.ownBlock.toList w w3)
    (hok : ∀ n ∈ ns', NodeOk Tree w n) (hfp' : fpOf ns' = fpOf ns ++ X) (hxf : ∀ k, k ∈ X → k ∉ F ∧ k < w.heap.size) (hxd : X.Nodup) :
    ∃ F', BAt (w3.setCell ⟨g, os.length * 4 + 2, none⟩ kv') bb tv (.slice (some ⟨g, 0, none⟩) (os.length + 1) cap) ts (os ++ [y.withKids kv' ns']) F' ∧ Kept F w (w3.setCell ⟨g, os.length * 4 + 2, none⟩ kv') ∧ Grow (F ++ X) w F' := by
  have hmem := h.mem
  obtain ⟨⟨t, h1⟩, ⟨h2, h3⟩, ⟨h4, h5⟩, h6, h7, h8, h9⟩ := h
  have hob : (Value.slice (some ⟨g, 0, none⟩) (os.length + 1) cap).ownBlock.toList = [g] := rfl
  have hml := moved_list hm
  -- R: all blocks but bb and the kids' row
  have hp0 : List.Perm (bb :: (tv.ownBlock.toList ++ (Value.slice (some ⟨g, 0, none⟩) (os.length + 1) cap).ownBlock.toList ++ fpOf ts ++ fpOf (os ++ [y]))) (bb :: (y.kv.ownBlock.toList ++ (tv.ownBlock.toList ++ [g] ++ fpOf ts ++ fpOf os ++ y.av.ownBlock.toList ++ fpOf ns))) := by
    refine List.perm_iff_count.2 (fun a => ?_)
    simp only [hob, fpOf_append, fpOf_one, hfp, List.count_append, List.count_cons]
    omega
  have h70 := hp0.nodup_iff.1 h7
  have hnd : (bb :: (kv'.ownBlock.toList ++ ((tv.ownBlock.toList ++ [g] ++ fpOf ts ++ fpOf os ++ y.av.ownBlock.toList ++ fpOf ns) ++ X))).Nodup := by
    refine nodup_new (B := y.kv.ownBlock.toList) (n := w.heap.size) h70 ?_ hml hxd ?_
    · intro k hk; exact h9 k ((h6 k).2 (hp0.mem_iff.2 hk))
    · intro k hk
      exact ⟨fun hc => (hxf k hk).1 ((h6 k).2 (hp0.mem_iff.2 hc)), (hxf k hk).2⟩
  have hp : List.Perm (bb :: (kv'.ownBlock.toList ++ ((tv.ownBlock.toList ++ [g] ++ fpOf ts ++ fpOf os ++ y.av.ownBlock.toList ++ fpOf ns) ++ X))) (bb :: (tv.ownBlock.toList ++ (Value.slice (some ⟨g, 0, none⟩) (os.length + 1) cap).ownBlock.toList ++ fpOf ts ++ fpOf (os ++ [y.withKids kv' ns']))) := by
    refine List.perm_iff_count.2 (fun a => ?_)
    simp only [hob, fpOf_append, fpOf_one, NodeR.withKids, hfp', List.count_append, List.count_cons]
    omega
  have hnd' := hp.nodup_iff.1 hnd
  have hR : ∀ k, (k = bb ∨ k ∈ tv.ownBlock.toList ∨ k = g ∨ k ∈ fpOf ts ∨ k ∈ fpOf os ∨ k ∈ y.av.ownBlock.toList ∨ k ∈ fpOf ns) → k ∈ F ∧ k ∉ y.kv.ownBlock.toList ∧ kv'.ownBlock ≠ some k := by
    intro k hk
    have hkm : k ∈ bb :: (tv.ownBlock.toList ++ [g] ++ fpOf ts ++ fpOf os ++ y.av.ownBlock.toList ++ fpOf ns) := by
      simp only [List.mem_cons, List.mem_append, List.not_mem_nil, or_false]
      rcases hk with hk | hk | hk | hk | hk | hk | hk <;> simp [hk]
    refine ⟨(h6 k).2 (hp0.mem_iff.2 ?_), ?_, ?_⟩
    · rcases List.mem_cons.1 hkm with e | e
      · simp [e]
      · exact List.mem_cons_of_mem _ (List.mem_append.2 (.inr e))
    · intro hc
      rw [List.nodup_cons, List.nodup_append] at h70
      rcases List.mem_cons.1 hkm with e | e
      · exact h70.1 (by rw [← e]; exact List.mem_append.2 (.inl hc))
      · exact h70.2.2.2 k hc k e rfl
    · intro hc
      rw [List.nodup_cons, List.nodup_append] at hnd
      have hc' : k ∈ kv'.ownBlock.toList := by rw [hc]; simp
      rcases List.mem_cons.1 hkm with e | e
      · exact hnd.1 (by rw [← e]; exact List.mem_append.2 (.inl hc'))
      · exact hnd.2.2.2 k hc' k (List.mem_append.2 (.inl e)) rfl
  have hgn : ∀ k, (k = bb ∨ k ∈ tv.ownBlock.toList ∨ k ∈ fpOf ts ∨ k ∈ fpOf os ∨ k ∈ y.av.ownBlock.toList ∨ k ∈ fpOf ns ∨ k ∈ X) → k ≠ g := by
    intro k hk e
    have hc : List.count g (bb :: (kv'.ownBlock.toList ++ ((tv.ownBlock.toList ++ [g] ++ fpOf ts ++ fpOf os ++ y.av.ownBlock.toList ++ fpOf ns) ++ X))) ≤ 1 := List.nodup_iff_count.1 hnd g
    simp only [List.count_cons, List.count_append, List.count_nil] at hc
    subst e
    rcases hk with hk | hk | hk | hk | hk | hk | hk
    · subst hk
      simp at hc
    all_goals
      have := List.count_pos_iff.2 hk
      simp at hc
      omega
  have hXlt : ∀ k, k ∈ X → k < w.heap.size ∧ k ∉ y.kv.ownBlock.toList := fun k hk => ⟨(hxf k hk).2, fun hc => (hxf k hk).1 ((h6 k).2 (hp0.mem_iff.2 (by simp [hc])))⟩
  have far : ∀ k, k < w.heap.size → k ≠ g → k ∉ y.kv.ownBlock.toList → (w3.setCell ⟨g, os.length * 4 + 2, none⟩ kv').heap[k]? = w.heap[k]? := fun k hk1 hk2 hk3 =>
    (Below.heap_setCell _ _ _ _ hk2).trans (hk.block k hk1 hk3)
  have farR : ∀ k, (k = bb ∨ k ∈ tv.ownBlock.toList ∨ k ∈ fpOf ts ∨ k ∈ fpOf os ∨ k ∈ y.av.ownBlock.toList ∨ k ∈ fpOf ns ∨ k ∈ X) → (w3.setCell ⟨g, os.length * 4 + 2, none⟩ kv').heap[k]? = w.heap[k]? := by
    intro k hk
    have hg' := hgn k hk
    rcases hk with hk | hk | hk | hk | hk | hk | hk
    · have := hR k (.inl hk); exact far k (h9 k this.1) hg' this.2.1
    · have := hR k (.inr (.inl hk)); exact far k (h9 k this.1) hg' this.2.1
    · have := hR k (.inr (.inr (.inr (.inl hk)))); exact far k (h9 k this.1) hg' this.2.1
    · have := hR k (.inr (.inr (.inr (.inr (.inl hk))))); exact far k (h9 k this.1) hg' this.2.1
    · have := hR k (.inr (.inr (.inr (.inr (.inr (.inl hk)))))); exact far k (h9 k this.1) hg' this.2.1
    · have := hR k (.inr (.inr (.inr (.inr (.inr (.inr hk)))))); exact far k (h9 k this.1) hg' this.2.1
    · have := hXlt k hk; exact far k this.1 hg' this.2
  have hgF := hR g (.inr (.inr (.inl rfl)))
  have hkall : Kept F w (w3.setCell ⟨g, os.length * 4 + 2, none⟩ kv') := by
    refine (hk.mono (fun i hi => (h6 i).2 (hp0.mem_iff.2 (by simp [hi])))).setCell (.inl hgF.1) _
  have hWr : (w3.setCell ⟨g, os.length * 4 + 2, none⟩ kv').ownsRow 0 42 4 kv' ns'.length (cellsOf ns') :=
    ownsRow_kept hr (S := [g]) ((Kept.refl _ _).setCell (by simp) _) (fun k hk' => by simp; intro e; exact hgF.2.2 (by rw [← e]; exact hk'))
  have hyok : NodeOk Tree (w3.setCell ⟨g, os.length * 4 + 2, none⟩ kv') (y.withKids kv' ns') := by
    refine ⟨kv'.ownBlock.toList ++ fpOf ns', ?_, ?_, rfl, fun hc => absurd hc (h8 y (by simp)), fun _ => hyt⟩
    · exact ownsRow_same ha (fun k hk' => farR k (.inr (.inr (.inr (.inr (.inl (by have e : y.av.ownBlock = some k := hk'; rw [e]; simp)))))))
    · refine Tree.mk hWr (fun n hn => (hok n hn).keep (fun k hk' => farR k ?_))
      have := mem_fpOf hn hk'
      rw [hfp'] at this
      rcases List.mem_append.1 this with h | h
      · exact .inr (.inr (.inr (.inr (.inr (.inl h)))))
      · exact .inr (.inr (.inr (.inr (.inr (.inr h)))))
  refine ⟨bb :: (tv.ownBlock.toList ++ (Value.slice (some ⟨g, 0, none⟩) (os.length + 1) cap).ownBlock.toList ++ fpOf ts ++ fpOf (os ++ [y.withKids kv' ns'])), ⟨⟨t, ?_⟩, ⟨?_, ?_⟩, ⟨?_, ?_⟩, fun _ => Iff.rfl, hnd', ?_, ?_⟩, hkall, ?_⟩
  · exact (farR bb (.inl rfl)).trans h1
  · exact ownsRow_same h2 (fun k hk' => farR k (.inr (.inl (by rw [hk']; simp))))
  · intro n hn
    exact (h3 n hn).keep (fun k hk' => farR k (.inr (.inr (.inl (mem_fpOf hn hk')))))
  · have h4' : w3.ownsRow 0 42 4 (.slice (some ⟨g, 0, none⟩) (os.length + 1) cap) (os ++ [y]).length (cellsOf (os ++ [y])) := ownsRow_same h4 (fun k hk' => by
      have e : k = g := by simpa [Value.ownBlock] using hk'.symm
      subst e
      exact hk.block k (h9 k hgF.1) hgF.2.1)
    have e1 : (os ++ [y]).length = os.length + 1 := by simp
    have e2 : (os ++ [y.withKids kv' ns']).length = os.length + 1 := by simp
    rw [e1] at h4'
    rw [e2, ← cellsOf_setKid os y kv' ns']
    exact own_setCell h4' _ (by rw [cellsOf_length]; simp; omega) _
  · intro n hn
    rcases List.mem_append.1 hn with hn | hn
    · exact (h5 n (by simp [hn])).keep (fun k hk' => farR k (.inr (.inr (.inr (.inl (mem_fpOf hn hk'))))))
    · simp at hn
      subst hn
      exact hyok
  · intro n hn
    rcases List.mem_append.1 hn with hn | hn
    · exact h8 n (by simp [hn])
    · simp at hn
      subst hn
      exact h8 y (by simp)
  · intro k hk'
    have hz := hkall.size
    rw [← hp.mem_iff] at hk'
    simp only [List.mem_cons, List.mem_append, List.not_mem_nil, or_false] at hk'
    rcases hk' with rfl | hk' | (((((hk' | hk') | hk') | hk') | hk') | hk') | hk'
    · have := h9 k (hR k (.inl rfl)).1; omega
    · have hb : kv'.ownBlock = some k := by simpa using hk'
      have := (hWr.lt k hb).2
      exact this
    · have := h9 k (hR k (.inr (.inl hk'))).1; omega
    · have := h9 k (hR k (.inr (.inr (.inl hk')))).1; omega
    · have := h9 k (hR k (.inr (.inr (.inr (.inl hk'))))).1; omega
    · have := h9 k (hR k (.inr (.inr (.inr (.inr (.inl hk')))))).1; omega
    · have := h9 k (hR k (.inr (.inr (.inr (.inr (.inr (.inl hk'))))))).1; omega
    · have := h9 k (hR k (.inr (.inr (.inr (.inr (.inr (.inr hk'))))))).1; omega
    · have := (hXlt k hk').1; omega
  · intro k hk'
    rw [← hp.mem_iff] at hk'
    simp only [List.mem_cons, List.mem_append, List.not_mem_nil, or_false] at hk'
    have inF : k ∈ F → k ∈ F ++ X ∨ w.heap.size ≤ k := fun hf => .inl (List.mem_append.2 (.inl hf))
    rcases hk' with rfl | hk' | (((((hk' | hk') | hk') | hk') | hk') | hk') | hk'
    · exact inF (hR k (.inl rfl)).1
    · have hb : kv'.ownBlock = some k := by simpa using hk'
      rcases hm with hm | ⟨k2, hm1, hm2⟩
      · exact inF ((h6 k).2 (hp0.mem_iff.2 (by rw [← hm, hb]; simp)))
      · rw [hb] at hm1
        injection hm1 with e
        exact .inr (by omega)
    · exact inF (hR k (.inr (.inl hk'))).1
    · exact inF (hR k (.inr (.inr (.inl hk')))).1
    · exact inF (hR k (.inr (.inr (.inr (.inl hk'))))).1
    · exact inF (hR k (.inr (.inr (.inr (.inr (.inl hk')))))).1
    · exact inF (hR k (.inr (.inr (.inr (.inr (.inr (.inl hk'))))))).1
    · exact inF (hR k (.inr (.inr (.inr (.inr (.inr (.inr hk'))))))).1
    · exact .inl (List.mem_append.2 (.inr hk'))
theorem form_pos {w : World} {base : Nat} {e : TypeId} {size : Nat} {v : Value} {n : Nat} {xs : List Value} (h : w.ownsRow base e size v (n + 1) xs) : ∃ g cap, v = .slice (some ⟨g, 0, none⟩) (n + 1) cap := by
  rcases h.2 with ⟨_, h0⟩ | ⟨g, cap, cur, rfl, _⟩
  · omega
  · exact ⟨g, cap, rfl⟩
theorem row_free {w : World} {base : Nat} {e : TypeId} {size n cap g : Nat} {xs : List Value} (h : w.ownsRow base e size (.slice (some ⟨g, 0, none⟩) n cap) n xs) (j : Nat) : w.frozen? ⟨g, j, none⟩ = false := by
  rcases h.2 with ⟨h0, _⟩ | ⟨g', cap', cur, hv, _, hg, _⟩
  · cases h0
  · injection hv with q1 q2 q3
    injection q1 with q1
    injection q1 with q1
    subst q1
    simp [World.frozen?, hg]
theorem new_row_cells {w : World} {e : TypeId} {g cap : Nat} {os : List NodeR} {a b c d : Value} (h : w.ownsRow 0 e 4 (.slice (some ⟨g, 0, none⟩) (os.length + 1) cap) (os.length + 1) (cellsOf os ++ [a, b, c, d])) :
    (w.cell? ⟨g, os.length * 4, none⟩ = some a ∧ w.cell? ⟨g, os.length * 4 + 1, none⟩ = some b ∧ w.cell? ⟨g, os.length * 4 + 2, none⟩ = some c ∧ w.cell? ⟨g, os.length * 4 + 3, none⟩ = some d) ∧
    (w.frozen? ⟨g, os.length * 4, none⟩ = false ∧ w.frozen? ⟨g, os.length * 4 + 1, none⟩ = false ∧ w.frozen? ⟨g, os.length * 4 + 2, none⟩ = false ∧ w.frozen? ⟨g, os.length * 4 + 3, none⟩ = false) := by
  have hl := cellsOf_length os
  refine ⟨⟨row_cell h ?_, row_cell h ?_, row_cell h ?_, row_cell h ?_⟩, row_free h _, row_free h _, row_free h _, row_free h _⟩
  all_goals
    rw [List.getElem?_append_right (by omega), hl]
    simp
theorem setCell_comm (w : World) (a b : Addr) (u v : Value) (h : a.block ≠ b.block) : (w.setCell a u).setCell b v = (w.setCell b v).setCell a u := by
  unfold World.setCell
  simp only
  congr 1
  apply Array.ext_getElem?
  intro i
  simp only [Array.getElem?_modify]
  by_cases h1 : a.block = i
  · by_cases h2 : b.block = i
    · exact absurd (h1.trans h2.symm) h
    · simp [h1, h2]
  · by_cases h2 : b.block = i
    · simp [h1, h2]
    · simp [h1, h2]
theorem put4_comm (w : World) (g o b k : Nat) (x : NodeR) (v : Value) (h : g ≠ b) : put4 (w.setCell ⟨b, k, none⟩ v) g o x = (put4 w g o x).setCell ⟨b, k, none⟩ v := by
  unfold put4
  rw [setCell_comm w ⟨b, k, none⟩ ⟨g, o, none⟩ _ _ (Ne.symm h), setCell_comm _ ⟨b, k, none⟩ ⟨g, o + 1, none⟩ _ _ (Ne.symm h), setCell_comm _ ⟨b, k, none⟩ ⟨g, o + 2, none⟩ _ _ (Ne.symm h), setCell_comm _ ⟨b, k, none⟩ ⟨g, o + 3, none⟩ _ _ (Ne.symm h)]
theorem own_cap {w : World} {base : Nat} {e : TypeId} {size n cap g : Nat} {xs : List Value} (h : w.ownsRow base e size (.slice (some ⟨g, 0, none⟩) n cap) n xs) : n ≤ cap := by
  rcases h.2 with ⟨h0, _⟩ | ⟨g', cap', cur, hv, _, _, hc, _⟩
  · cases h0
  · injection hv with q1 q2 q3
    omega
theorem evsOf_le (ns : List NodeR) : ns.length ≤ (evsOf ns).length := by
  induction ns with
  | nil => simp
  | cons a t ih =>
    have e : evsOf (a :: t) = a.evs ++ evsOf t := by simp [evsOf]
    have h1 : 1 ≤ a.evs.length := by
      unfold NodeR.evs
      split <;> simp
    rw [e, List.length_append]
    simp
    omega
end Go.Proofs.YtlpmjpmefdpcmaaGreatDoor
