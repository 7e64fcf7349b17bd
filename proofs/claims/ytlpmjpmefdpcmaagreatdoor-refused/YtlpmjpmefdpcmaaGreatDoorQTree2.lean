import Derived.Test.YtlpmjpmefdpcmaaGreatDoorQTree1
namespace Go.Proofs.YtlpmjpmefdpcmaaGreatDoor
open Go.RowKit Scrub Go.Shelf
def NodeR.new (name : List UInt8) (av : Value) (al : List (List UInt8 × List UInt8)) : NodeR := { name := name, text := [], av := av, kv := .slice none 0 0, al := al, ev := [], fp := av.ownBlock.toList }
theorem newOk {w : World} {name : List UInt8} {av : Value} {al : List (List UInt8 × List UInt8)} (h : AOwn w av al) (hn : name ≠ []) : NodeOk Tree w (NodeR.new name av al) :=
  ⟨[], h, Tree.nil w, by simp [NodeR.new], fun hc => absurd hc hn, fun _ => rfl⟩
theorem push_fin {w w1 w' : World} {bb g cap' : Nat} {tv ov av : Value} {ts os : List NodeR} {F : List Nat} {E : List Ev} {st : List (List UInt8)} {name : List UInt8} {al : List (List UInt8 × List UInt8)} {z0 z1 z2 z3 : Value}
    (hb : BAt w bb tv ov ts os F) (hE : E = outOf ts os) (hS : st = os.map NodeR.name) (hk1 : Kept [] w w1)
    (hown : w'.ownsRow 0 42 4 (.slice (some ⟨g, 0, none⟩) (os.length + 1) cap') (os.length + 1) (cellsOf os ++ [z0, z1, z2, z3])) (hgr : w1.grownBy w' ov.ownBlock) (hmv : Moved w1 ov (.slice (some ⟨g, 0, none⟩) (os.length + 1) cap'))
    (ha : AOwn w av al) (hn : name ≠ []) (haf : ∀ k, av.ownBlock = some k → k ∉ F) (n1 : ¬ g = bb) :
    (∃ F', Bld (((((w'.setCell ⟨g, os.length * 4, none⟩ (.string ⟨name.toArray⟩)).setCell ⟨g, os.length * 4 + 1, none⟩ av).setCell ⟨g, os.length * 4 + 2, none⟩ (.slice none 0 0)).setCell ⟨g, os.length * 4 + 3, none⟩ (.string ⟨#[]⟩)).setCell ⟨bb, 1, none⟩ (.slice (some ⟨g, 0, none⟩) (os.length + 1) cap')) bb F' (E ++ [evOpen name al]) (st ++ [name]) ∧ Kept F w (((((w'.setCell ⟨g, os.length * 4, none⟩ (.string ⟨name.toArray⟩)).setCell ⟨g, os.length * 4 + 1, none⟩ av).setCell ⟨g, os.length * 4 + 2, none⟩ (.slice none 0 0)).setCell ⟨g, os.length * 4 + 3, none⟩ (.string ⟨#[]⟩)).setCell ⟨bb, 1, none⟩ (.slice (some ⟨g, 0, none⟩) (os.length + 1) cap')) ∧ Grow (F ++ av.ownBlock.toList) w F') ∧
    (∃ F', Bld (((((w'.setCell ⟨bb, 1, none⟩ (.slice (some ⟨g, 0, none⟩) (os.length + 1) cap')).setCell ⟨g, os.length * 4, none⟩ (.string ⟨name.toArray⟩)).setCell ⟨g, os.length * 4 + 1, none⟩ av).setCell ⟨g, os.length * 4 + 2, none⟩ (.slice none 0 0)).setCell ⟨g, os.length * 4 + 3, none⟩ (.string ⟨#[]⟩)) bb F' (E ++ [evOpen name al]) (st ++ [name]) ∧ Kept F w (((((w'.setCell ⟨bb, 1, none⟩ (.slice (some ⟨g, 0, none⟩) (os.length + 1) cap')).setCell ⟨g, os.length * 4, none⟩ (.string ⟨name.toArray⟩)).setCell ⟨g, os.length * 4 + 1, none⟩ av).setCell ⟨g, os.length * 4 + 2, none⟩ (.slice none 0 0)).setCell ⟨g, os.length * 4 + 3, none⟩ (.string ⟨#[]⟩)) ∧ Grow (F ++ av.ownBlock.toList) w F') := by
  have hfpx : ∀ k, k ∈ (NodeR.new name av al).fp → k ∉ F ∧ k < w.heap.size := by
    intro k hk
    have hk' : av.ownBlock = some k := by simpa [NodeR.new] using hk
    exact ⟨haf k hk', (ha.lt k hk').2⟩
  have hndx : (NodeR.new name av al).fp.Nodup := by
    simp only [NodeR.new]
    cases av.ownBlock <;> simp
  obtain ⟨ra, rm, rk⟩ := row_add (v := ov) (ns := os) hk1 hown hgr hmv (NodeR.new name av al)
  obtain ⟨F', hB', hK', hG'⟩ := hb.addOpen ra rm rk (newOk ha hn) hn hfpx hndx
  have hco := put4_comm w' g (os.length * 4) bb 1 (NodeR.new name av al) (.slice (some ⟨g, 0, none⟩) (os.length + 1) cap') n1
  have hA : (∃ F', Bld ((put4 w' g (os.length * 4) (NodeR.new name av al)).setCell ⟨bb, 1, none⟩ (.slice (some ⟨g, 0, none⟩) (os.length + 1) cap')) bb F' (E ++ [evOpen name al]) (st ++ [name]) ∧ Kept F w ((put4 w' g (os.length * 4) (NodeR.new name av al)).setCell ⟨bb, 1, none⟩ (.slice (some ⟨g, 0, none⟩) (os.length + 1) cap')) ∧ Grow (F ++ av.ownBlock.toList) w F') := by
    refine ⟨F', ⟨tv, _, ts, _, hB', ?_, ?_⟩, hK', hG'⟩
    · rw [hE]; simp [outOf, NodeR.new]
    · rw [hS]; simp [NodeR.new]
  refine ⟨hA, ?_⟩
  rw [← hco] at hA
  exact hA
set_option maxHeartbeats 2000000 in
theorem push_any (bb : Nat) (F : List Nat) (E : List Ev) (st : List (List UInt8)) (name : List UInt8) (av : Value) (al : List (List UInt8 × List UInt8)) (w : World) (h : Bld w bb F E st) (ha : AOwn w av al) (hn : name ≠ []) (haf : ∀ k, av.ownBlock = some k → k ∉ F) (hst : st.length < 12) :
    Calls Tryz.prog 188 #[.pointer (some ⟨bb, 0, none⟩), .agg #[.string ⟨name.toArray⟩, av, .slice none 0 0, .string ⟨#[]⟩]] w
      fun e w' => e = .returned (.bool true) ∧ ∃ F', Bld w' bb F' (E ++ [evOpen name al]) (st ++ [name]) ∧ Kept F w w' ∧ Grow (F ++ av.ownBlock.toList) w F' := by
  obtain ⟨tv, ov, ts, os, hb, hE, hS⟩ := h
  have HE : Hid (E = outOf ts os) := hE
  have HS : Hid (st = os.map NodeR.name) := hS
  have hol : os.length < 12 := by rw [hS] at hst; simpa using hst
  clear hE hS hst
  obtain ⟨i0, hi, hz0, hz1, hz2⟩ := info_parts infoNode
  obtain ⟨c0, c1, c2, c3⟩ := hb.cells
  obtain ⟨oa, oc, rfl⟩ := ownsRow_form hb.2.2.1.1
  obtain ⟨va, vc, rfl⟩ := ownsRow_form ha
  have hbbl : bb < w.heap.size := hb.2.2.2.2.2.2 bb ((hb.mem bb).2 (.inl rfl))
  have hge : ((12 : Int) ≤ (os.length : Int)) = False := by simp; omega
  have hown0 := hb.2.2.1.1
  have hidx : (os.length : Int) < (os.length : Int) + 1 := by omega
  go_enter Tryz.func188, Tryz.ntmps188
  go_wp2_with fail
  have hk2 : Kept [] w ((w.alloc (.cells #[.string ⟨name.toArray⟩, .slice va al.length vc, .slice none 0 0, .string ⟨#[]⟩] 42)).alloc (.cells #[.string ⟨#[]⟩, .slice none 0 0, .slice none 0 0, .string ⟨#[]⟩] 42)) := ((Kept.refl [] w).alloc _).alloc _
  have hown2 := ownsRow_kept hown0 hk2 (by simp)
  have hnews := new_cells (w.alloc (.cells #[.string ⟨name.toArray⟩, .slice va al.length vc, .slice none 0 0, .string ⟨#[]⟩] 42)) [.string ⟨#[]⟩, .slice none 0 0, .slice none 0 0, .string ⟨#[]⟩] 42
  have hsz : (w.alloc (.cells #[.string ⟨name.toArray⟩, .slice va al.length vc, .slice none 0 0, .string ⟨#[]⟩] 42)).heap.size = w.heap.size + 1 := by simp
  rw [hsz] at hnews
  have hfar' : ∀ w' : World, ((w.alloc (.cells #[.string ⟨name.toArray⟩, .slice va al.length vc, .slice none 0 0, .string ⟨#[]⟩] 42)).alloc (.cells #[.string ⟨#[]⟩, .slice none 0 0, .slice none 0 0, .string ⟨#[]⟩] 42)).drew.grownBy w' (Value.slice oa os.length oc).ownBlock → w'.cell? ⟨bb, 1, none⟩ = some (.slice oa os.length oc) ∧ w'.frozen? ⟨bb, 1, none⟩ = false := by
    intro w' hgr
    have hk3 := hk2.drew.mono (S' := (Value.slice oa os.length oc).ownBlock.toList) (by simp) |>.trans (Kept.own hgr)
    have hbov : bb ∉ (Value.slice oa os.length oc).ownBlock.toList := by
      intro hc
      have := hb.2.2.2.2.1
      rw [List.nodup_cons] at this
      exact this.1 (by simp [hc])
    exact ⟨(hk3.cell (p := ⟨bb, 1, none⟩) hbbl hbov).trans c1, (hk3.frozen (p := ⟨bb, 1, none⟩) hbbl hbov).trans c3⟩
  have hgb' : ∀ g cap' : Nat, Moved ((w.alloc (.cells #[.string ⟨name.toArray⟩, .slice va al.length vc, .slice none 0 0, .string ⟨#[]⟩] 42)).alloc (.cells #[.string ⟨#[]⟩, .slice none 0 0, .slice none 0 0, .string ⟨#[]⟩] 42)).drew (Value.slice oa os.length oc) (.slice (some ⟨g, 0, none⟩) (os.length + 1) cap') → ¬ g = bb := by
    intro g cap' hmv e
    rcases hmv with h1 | ⟨k, h1, h2⟩
    · have := hb.2.2.2.2.1
      rw [List.nodup_cons] at this
      exact this.1 (by rw [← h1, ← e]; simp [Value.ownBlock])
    · have h3 := hk2.drew.size
      simp [Value.ownBlock] at h1
      omega
  go_region_law (refine step_append_fp rfl (.tmp 14) (.tmp 17) 31 rfl 0 42 i0 _ 4 80 Tryz.underlying31 hi hz0 hz1 hz2 rfl (by decide) (.slice oa os.length oc) os.length (cellsOf os) (by simp [Act.eval, Act.put]) (by exact hown2) _ 1 1 [.string ⟨#[]⟩, .slice none 0 0, .slice none 0 0, .string ⟨#[]⟩] (by simp [Act.eval, Act.put]; rfl) rfl (by exact hnews) (by simp [Value.oneCell']) (by unfold maxLen; omega) (by omega) (Nat.zero_le _) ?_; intro v' w' hown' hgr' hmv'; obtain ⟨g, cap', rfl⟩ := form_pos hown'; obtain ⟨⟨r0, r1, r2, r3⟩, ⟨s0, s1, s2, s3⟩⟩ := new_row_cells hown'; have b0 := (hfar' w' hgr').1; have b1 := (hfar' w' hgr').2; have n1 := hgb' _ _ hmv'; have n2 : ¬ bb = g := fun e => n1 e.symm)
  all_goals
    go_wp2_with fail
    go_ret
    refine ⟨rfl, ?_⟩
    have hfin := push_fin hb HE.out HS.out hk2.drew hown' hgr' hmv' ha hn haf n1
    first
      | with_reducible exact hfin.1
      | with_reducible exact hfin.2
end Go.Proofs.YtlpmjpmefdpcmaaGreatDoor
