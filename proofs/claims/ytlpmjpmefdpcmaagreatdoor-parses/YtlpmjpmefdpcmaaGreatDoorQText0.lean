import Derived.Test.YtlpmjpmefdpcmaaGreatDoorQTree1
import Derived.Test.YtlpmjpmefdpcmaaGreatDoorQBld4
namespace Go.Proofs.YtlpmjpmefdpcmaaGreatDoor
open Go.RowKit Scrub Go.Shelf
def NodeR.new (name : List UInt8) (av : Value) (al : List (List UInt8 × List UInt8)) : NodeR := { name := name, text := [], av := av, kv := .slice none 0 0, al := al, ev := [], fp := av.ownBlock.toList }
theorem newOk {w : World} {name : List UInt8} {av : Value} {al : List (List UInt8 × List UInt8)} (h : AOwn w av al) (hn : name ≠ []) : NodeOk Tree w (NodeR.new name av al) :=
  ⟨[], h, Tree.nil w, by simp [NodeR.new], fun hc => absurd hc hn, fun _ => rfl⟩
theorem push_fin {w w1 w' : World} {bb g cap' : Nat} {tv ov av : Value} {ts os : List NodeR} {F : List Nat} {E : List Ev} {st : List (List UInt8)} {name : List UInt8} {al : List (List UInt8 × List UInt8)} {z0 z1 z2 z3 : Value}
    (hb : BAt w bb tv ov ts os F) (hE : E = outOf ts os) (hS : st = os.map NodeR.name) (hk1 : Kept [] w w1)
    (hown : w'.ownsRow 0 42 4 (.slice (some ⟨g, 0, none⟩) (os.length + 1) cap') (os.length + 1) (cellsOf os ++ [z0, z1, z2, z3])) (hgr : w1.grownBy w' ov.ownBlock) (hmv : Moved w1 ov (.slice (some ⟨g, 0, none⟩) (os.length + 1) cap'))
    (ha : AOwn w av al) (hn : name ≠ []) (haf : ∀ k, av.ownBlock = some k → k ∉ F) (n1 : ¬ g = bb) :
    (∃ F', Bld (((((w'.setCell ⟨g, os.length * 4, none⟩ (.string ⟨name.toArray⟩)).setCell ⟨g, os.length * 4 + 1, none⟩ av).setCell ⟨g, os.length * 4 + 2, none⟩ (.slice none 0 0)).setCell ⟨g, os.length * 4 + 3, none⟩ (.string ⟨#[]⟩)).setCell ⟨bb, 1, none⟩ (.slice (some ⟨g, 0, none⟩) (os.length + 1) cap')) bb F' (E ++ [evOpen name al]) (st ++ [name]) ∧ Kept F w (((((w'.setCell ⟨g, os.length * 4, none⟩ (.string ⟨name.toArray⟩)).setCell ⟨g, os.length * 4 + 1, none⟩ av).setCell ⟨g, os.length * 4 + 2, none⟩ (.slice none 0 0)).setCell ⟨g, os.length * 4 + 3, none⟩ (.string ⟨#[]⟩)).setCell ⟨bb, 1, none⟩ (.slice (some ⟨g, 0, none⟩) (os.length + 1) cap')) ∧ Grow (F ++ av.ownBlock.toList) w F') ∧
    (∃ F', Bld (((((w'.setCell ⟨bb, 1, none⟩ (.slice (some ⟨g, 0, none⟩) (os.length + 1) cap')).setCell ⟨g, os.length * 4, none⟩ (.string ⟨name.toArray⟩)).setCell ⟨g, os.length * 4 + 1, none⟩ av).setCell ⟨g, os.length * 4 + 2, none⟩ (.slice none 0 0)).setCell ⟨g, os.length * 4 + 3, none⟩ (.string ⟨#[]⟩)) bb F' (E ++ [evOpen name al]) (st ++ [name]) ∧ Kept F w (((((w'.setCell ⟨bb, 1, none⟩ (.slice (some ⟨g, 0, none⟩) (os.length + 1) cap')).setCell ⟨g, os.length * 4, none⟩ (.string ⟨name.toArray⟩)).setCell ⟨g, os.length * 4 + 1, none⟩ av).setCell ⟨g, os.length * 4 + 2, none⟩ (.slice none 0 0)).setCell ⟨g, os.length * 4 + 3, none⟩ (.string ⟨#[]⟩)) ∧ Grow (F ++ av.ownBlock.toList) w F') := by
  have hfpx : ∀ k, k ∈ (NodeR.new name av al).fp → k ∉ F ∧ k < w.heap.size := by
    intro k hk
    have hk' : av.ownBlock = some k := by simpa [NodeR.new] using hk
    exact ⟨haf k hk', (ha.lt k hk').2⟩
  have hndx : (NodeR.new name av al).fp.Nodup := by
    simp only [NodeR.new]
    cases av.ownBlock <;> simp
  obtain ⟨ra, rm, rk⟩ := row_add (v := ov) (ns := os) hk1 hown hgr hmv (NodeR.new name av al)
  obtain ⟨F', hB', hK', hG'⟩ := hb.addOpen ra rm rk (newOk ha hn) hn hfpx hndx
  have hco := put4_comm w' g (os.length * 4) bb 1 (NodeR.new name av al) (.slice (some ⟨g, 0, none⟩) (os.length + 1) cap') n1
  have hA : (∃ F', Bld ((put4 w' g (os.length * 4) (NodeR.new name av al)).setCell ⟨bb, 1, none⟩ (.slice (some ⟨g, 0, none⟩) (os.length + 1) cap')) bb F' (E ++ [evOpen name al]) (st ++ [name]) ∧ Kept F w ((put4 w' g (os.length * 4) (NodeR.new name av al)).setCell ⟨bb, 1, none⟩ (.slice (some ⟨g, 0, none⟩) (os.length + 1) cap')) ∧ Grow (F ++ av.ownBlock.toList) w F') := by
    refine ⟨F', ⟨tv, _, ts, _, hB', ?_, ?_⟩, hK', hG'⟩
    · rw [hE]; simp [outOf, NodeR.new]
    · rw [hS]; simp [NodeR.new]
  refine ⟨hA, ?_⟩
  rw [← hco] at hA
  exact hA
set_option maxHeartbeats 2000000 in
theorem push_any (bb : Nat) (F : List Nat) (E : List Ev) (st : List (List UInt8)) (name : List UInt8) (av : Value) (al : List (List UInt8 × List UInt8)) (w : World) (h : Bld w bb F E st) (ha : AOwn w av al) (hn : name ≠ []) (haf : ∀ k, av.ownBlock = some k → k ∉ F) (hst : st.length < 12) :
    Calls Tryz.prog 188 #[.pointer (some ⟨bb, 0, none⟩), .agg #[.string ⟨name.toArray⟩, av, .slice none 0 0, .string ⟨#[]⟩]] w
      fun e w' => e = .returned (.bool true) ∧ ∃ F', Bld w' bb F' (E ++ [evOpen name al]) (st ++ [name]) ∧ Kept F w w' ∧ Grow (F ++ av.ownBlock.toList) w F' := by
  obtain ⟨tv, ov, ts, os, hb, hE, hS⟩ := h
  have HE : Hid (E = outOf ts os) := hE
  have HS : Hid (st = os.map NodeR.name) := hS
  have hol : os.length < 12 := by rw [hS] at hst; simpa using hst
  clear hE hS hst
  obtain ⟨i0, hi, hz0, hz1, hz2⟩ := info_parts infoNode
  obtain ⟨c0, c1, c2, c3⟩ := hb.cells
  obtain ⟨oa, oc, rfl⟩ := ownsRow_form hb.2.2.1.1
  obtain ⟨va, vc, rfl⟩ := ownsRow_form ha
  have hbbl : bb < w.heap.size := hb.2.2.2.2.2.2 bb ((hb.mem bb).2 (.inl rfl))
  have hge : ((12 : Int) ≤ (os.length : Int)) = False := by simp; omega
  have hown0 := hb.2.2.1.1
  have hidx : (os.length : Int) < (os.length : Int) + 1 := by omega
  go_enter Tryz.func188, Tryz.ntmps188
  go_wp2_with fail
  have hk2 : Kept [] w ((w.alloc (.cells #[.string ⟨name.toArray⟩, .slice va al.length vc, .slice none 0 0, .string ⟨#[]⟩] 42)).alloc (.cells #[.string ⟨#[]⟩, .slice none 0 0, .slice none 0 0, .string ⟨#[]⟩] 42)) := ((Kept.refl [] w).alloc _).alloc _
  have hown2 := ownsRow_kept hown0 hk2 (by simp)
  have hnews := new_cells (w.alloc (.cells #[.string ⟨name.toArray⟩, .slice va al.length vc, .slice none 0 0, .string ⟨#[]⟩] 42)) [.string ⟨#[]⟩, .slice none 0 0, .slice none 0 0, .string ⟨#[]⟩] 42
  have hsz : (w.alloc (.cells #[.string ⟨name.toArray⟩, .slice va al.length vc, .slice none 0 0, .string ⟨#[]⟩] 42)).heap.size = w.heap.size + 1 := by simp
  rw [hsz] at hnews
  have hfar' : ∀ w' : World, ((w.alloc (.cells #[.string ⟨name.toArray⟩, .slice va al.length vc, .slice none 0 0, .string ⟨#[]⟩] 42)).alloc (.cells #[.string ⟨#[]⟩, .slice none 0 0, .slice none 0 0, .string ⟨#[]⟩] 42)).drew.grownBy w' (Value.slice oa os.length oc).ownBlock → w'.cell? ⟨bb, 1, none⟩ = some (.slice oa os.length oc) ∧ w'.frozen? ⟨bb, 1, none⟩ = false := by
    intro w' hgr
    have hk3 := hk2.drew.mono (S' := (Value.slice oa os.length oc).ownBlock.toList) (by simp) |>.trans (Kept.own hgr)
    have hbov : bb ∉ (Value.slice oa os.length oc).ownBlock.toList := by
      intro hc
      have := hb.2.2.2.2.1
      rw [List.nodup_cons] at this
      exact this.1 (by simp [hc])
    exact ⟨(hk3.cell (p := ⟨bb, 1, none⟩) hbbl hbov).trans c1, (hk3.frozen (p := ⟨bb, 1, none⟩) hbbl hbov).trans c3⟩
  have hgb' : ∀ g cap' : Nat, Moved ((w.alloc (.cells #[.string ⟨name.toArray⟩, .slice va al.length vc, .slice none 0 0, .string ⟨#[]⟩] 42)).alloc (.cells #[.string ⟨#[]⟩, .slice none 0 0, .slice none 0 0, .string ⟨#[]⟩] 42)).drew (Value.slice oa os.length oc) (.slice (some ⟨g, 0, none⟩) (os.length + 1) cap') → ¬ g = bb := by
    intro g cap' hmv e
    rcases hmv with h1 | ⟨k, h1, h2⟩
    · have := hb.2.2.2.2.1
      rw [List.nodup_cons] at this
      exact this.1 (by rw [← h1, ← e]; simp [Value.ownBlock])
    · have h3 := hk2.drew.size
      simp [Value.ownBlock] at h1
      omega
  go_region_law (refine step_append_fp rfl (.tmp 14) (.tmp 17) 31 rfl 0 42 i0 _ 4 80 Tryz.underlying31 hi hz0 hz1 hz2 rfl (by decide) (.slice oa os.length oc) os.length (cellsOf os) (by simp [Act.eval, Act.put]) (by exact hown2) _ 1 1 [.string ⟨#[]⟩, .slice none 0 0, .slice none 0 0, .string ⟨#[]⟩] (by simp [Act.eval, Act.put]; rfl) rfl (by exact hnews) (by simp [Value.oneCell']) (by unfold maxLen; omega) (by omega) (Nat.zero_le _) ?_; intro v' w' hown' hgr' hmv'; obtain ⟨g, cap', rfl⟩ := form_pos hown'; obtain ⟨⟨r0, r1, r2, r3⟩, ⟨s0, s1, s2, s3⟩⟩ := new_row_cells hown'; have b0 := (hfar' w' hgr').1; have b1 := (hfar' w' hgr').2; have n1 := hgb' _ _ hmv'; have n2 : ¬ bb = g := fun e => n1 e.symm)
  all_goals
    go_wp2_with fail
    go_ret
    refine ⟨rfl, ?_⟩
    have hfin := push_fin hb HE.out HS.out hk2.drew hown' hgr' hmv' ha hn haf n1
    first
      | with_reducible exact hfin.1
      | with_reducible exact hfin.2
end Go.Proofs.YtlpmjpmefdpcmaaGreatDoor
/- What closing one does to the builder in memory. No function of the program in it. -/
namespace Go.Proofs.YtlpmjpmefdpcmaaGreatDoor
open Go.RowKit Scrub Go.Shelf
theorem close_top_fin {w w1 w' : World} {bb g' cap' : Nat} {tv ov a k : Value} {ts : List NodeR} {F : List Nat} {x : NodeR} {z0 z1 z2 z3 : Value}
    (hb : BAt w bb tv ov ts [] F) (hk1 : Kept [] w w1)
    (hown : w'.ownsRow 0 42 4 (.slice (some ⟨g', 0, none⟩) (ts.length + 1) cap') (ts.length + 1) (cellsOf ts ++ [z0, z1, z2, z3])) (hgr : w1.grownBy w' tv.ownBlock) (hmv : Moved w1 tv (.slice (some ⟨g', 0, none⟩) (ts.length + 1) cap'))
    (hx : NodeOk Tree w x) (hxf : ∀ k, k ∈ x.fp → k ∉ F ∧ k < w.heap.size) (hxd : x.fp.Nodup) (ea : x.av = a) (ek : x.kv = k) (n1 : ¬ g' = bb) :
    (∃ F', BAt (((((w'.setCell ⟨g', ts.length * 4, none⟩ (.string ⟨x.name.toArray⟩)).setCell ⟨g', ts.length * 4 + 1, none⟩ a).setCell ⟨g', ts.length * 4 + 2, none⟩ k).setCell ⟨g', ts.length * 4 + 3, none⟩ (.string ⟨x.text.toArray⟩)).setCell ⟨bb, 0, none⟩ (.slice (some ⟨g', 0, none⟩) (ts.length + 1) cap')) bb (.slice (some ⟨g', 0, none⟩) (ts.length + 1) cap') ov (ts ++ [x]) [] F' ∧ Kept F w (((((w'.setCell ⟨g', ts.length * 4, none⟩ (.string ⟨x.name.toArray⟩)).setCell ⟨g', ts.length * 4 + 1, none⟩ a).setCell ⟨g', ts.length * 4 + 2, none⟩ k).setCell ⟨g', ts.length * 4 + 3, none⟩ (.string ⟨x.text.toArray⟩)).setCell ⟨bb, 0, none⟩ (.slice (some ⟨g', 0, none⟩) (ts.length + 1) cap')) ∧ Grow (F ++ x.fp) w F') ∧
    (∃ F', BAt (((((w'.setCell ⟨bb, 0, none⟩ (.slice (some ⟨g', 0, none⟩) (ts.length + 1) cap')).setCell ⟨g', ts.length * 4, none⟩ (.string ⟨x.name.toArray⟩)).setCell ⟨g', ts.length * 4 + 1, none⟩ a).setCell ⟨g', ts.length * 4 + 2, none⟩ k).setCell ⟨g', ts.length * 4 + 3, none⟩ (.string ⟨x.text.toArray⟩)) bb (.slice (some ⟨g', 0, none⟩) (ts.length + 1) cap') ov (ts ++ [x]) [] F' ∧ Kept F w (((((w'.setCell ⟨bb, 0, none⟩ (.slice (some ⟨g', 0, none⟩) (ts.length + 1) cap')).setCell ⟨g', ts.length * 4, none⟩ (.string ⟨x.name.toArray⟩)).setCell ⟨g', ts.length * 4 + 1, none⟩ a).setCell ⟨g', ts.length * 4 + 2, none⟩ k).setCell ⟨g', ts.length * 4 + 3, none⟩ (.string ⟨x.text.toArray⟩)) ∧ Grow (F ++ x.fp) w F') := by
  subst ea ek
  obtain ⟨ra, rm, rk⟩ := row_add (v := tv) (ns := ts) hk1 hown hgr hmv x
  have hA := hb.addTop ra rm rk hx hxf hxd
  have hco := put4_comm w' g' (ts.length * 4) bb 0 x (.slice (some ⟨g', 0, none⟩) (ts.length + 1) cap') n1
  refine ⟨hA, ?_⟩
  rw [← hco] at hA
  exact hA
theorem close_kid_fin {w w1 w' : World} {bb g cap g' cap' : Nat} {tv a k : Value} {ts os ns : List NodeR} {F : List Nat} {x y : NodeR} {z0 z1 z2 z3 : Value}
    (hb : BAt w bb tv (.slice (some ⟨g, 0, none⟩) (os.length + 1) cap) ts (os ++ [y]) F) (hk1 : Kept [] w w1)
    (hown : w'.ownsRow 0 42 4 (.slice (some ⟨g', 0, none⟩) (ns.length + 1) cap') (ns.length + 1) (cellsOf ns ++ [z0, z1, z2, z3])) (hgr : w1.grownBy w' y.kv.ownBlock) (hmv : Moved w1 y.kv (.slice (some ⟨g', 0, none⟩) (ns.length + 1) cap'))
    (ha : AOwn w y.av y.al) (hfp : y.fp = y.av.ownBlock.toList ++ (y.kv.ownBlock.toList ++ fpOf ns)) (hyt : y.text = []) (hns : ∀ n ∈ ns, NodeOk Tree w n)
    (hx : NodeOk Tree w x) (hxf : ∀ k, k ∈ x.fp → k ∉ F ∧ k < w.heap.size) (hxd : x.fp.Nodup) (ea : x.av = a) (ek : x.kv = k) (n1 : ¬ g' = g) :
    (∃ F', BAt (((((w'.setCell ⟨g', ns.length * 4, none⟩ (.string ⟨x.name.toArray⟩)).setCell ⟨g', ns.length * 4 + 1, none⟩ a).setCell ⟨g', ns.length * 4 + 2, none⟩ k).setCell ⟨g', ns.length * 4 + 3, none⟩ (.string ⟨x.text.toArray⟩)).setCell ⟨g, os.length * 4 + 2, none⟩ (.slice (some ⟨g', 0, none⟩) (ns.length + 1) cap')) bb tv (.slice (some ⟨g, 0, none⟩) (os.length + 1) cap) ts (os ++ [y.withKids (.slice (some ⟨g', 0, none⟩) (ns.length + 1) cap') (ns ++ [x])]) F' ∧ Kept F w (((((w'.setCell ⟨g', ns.length * 4, none⟩ (.string ⟨x.name.toArray⟩)).setCell ⟨g', ns.length * 4 + 1, none⟩ a).setCell ⟨g', ns.length * 4 + 2, none⟩ k).setCell ⟨g', ns.length * 4 + 3, none⟩ (.string ⟨x.text.toArray⟩)).setCell ⟨g, os.length * 4 + 2, none⟩ (.slice (some ⟨g', 0, none⟩) (ns.length + 1) cap')) ∧ Grow (F ++ x.fp) w F') ∧
    (∃ F', BAt (((((w'.setCell ⟨g, os.length * 4 + 2, none⟩ (.slice (some ⟨g', 0, none⟩) (ns.length + 1) cap')).setCell ⟨g', ns.length * 4, none⟩ (.string ⟨x.name.toArray⟩)).setCell ⟨g', ns.length * 4 + 1, none⟩ a).setCell ⟨g', ns.length * 4 + 2, none⟩ k).setCell ⟨g', ns.length * 4 + 3, none⟩ (.string ⟨x.text.toArray⟩)) bb tv (.slice (some ⟨g, 0, none⟩) (os.length + 1) cap) ts (os ++ [y.withKids (.slice (some ⟨g', 0, none⟩) (ns.length + 1) cap') (ns ++ [x])]) F' ∧ Kept F w (((((w'.setCell ⟨g, os.length * 4 + 2, none⟩ (.slice (some ⟨g', 0, none⟩) (ns.length + 1) cap')).setCell ⟨g', ns.length * 4, none⟩ (.string ⟨x.name.toArray⟩)).setCell ⟨g', ns.length * 4 + 1, none⟩ a).setCell ⟨g', ns.length * 4 + 2, none⟩ k).setCell ⟨g', ns.length * 4 + 3, none⟩ (.string ⟨x.text.toArray⟩)) ∧ Grow (F ++ x.fp) w F') := by
  subst ea ek
  obtain ⟨ra, rm, rk⟩ := row_add (v := y.kv) (ns := ns) hk1 hown hgr hmv x
  have hA := hb.setKids ha hfp hyt ra rm rk (fun n hn => by
    rcases List.mem_append.1 hn with hn | hn
    · exact hns n hn
    · simp at hn; subst hn; exact hx) (by rw [fpOf_append, fpOf_one]) hxf hxd
  have hco := put4_comm w' g' (ns.length * 4) g (os.length * 4 + 2) x (.slice (some ⟨g', 0, none⟩) (ns.length + 1) cap') n1
  refine ⟨hA, ?_⟩
  rw [← hco] at hA
  exact hA
/-- The blocks of the lists are far from one another. -/
theorem BAt.far {w : World} {bb : Nat} {tv ov : Value} {ts os : List NodeR} {F : List Nat} (h : BAt w bb tv ov ts os F) :
    (∀ k, tv.ownBlock = some k → k ≠ bb) ∧ (∀ k, ov.ownBlock = some k → k ≠ bb) ∧ (∀ y, y ∈ os → ∀ k, k ∈ y.fp → k ≠ bb ∧ ov.ownBlock ≠ some k) := by
  have h7 := h.2.2.2.2.1
  rw [List.nodup_cons] at h7
  refine ⟨fun k hk e => h7.1 (by rw [← e, hk]; simp), fun k hk e => h7.1 (by rw [← e, hk]; simp), fun y hy k hk => ⟨fun e => h7.1 ?_, fun hc => ?_⟩⟩
  · rw [← e]
    exact List.mem_append.2 (.inr (mem_fpOf hy hk))
  · rw [List.nodup_append] at h7
    exact h7.2.2.2 k (by rw [hc]; simp) k (mem_fpOf hy hk) rfl
def CloseAt (bb : Nat) (F : List Nat) (E : List Ev) (st : List (List UInt8)) (w : World) (g : Nat) (wr : World) : Prop :=
  ∃ F1, g ≤ st.length ∧ Bld wr bb F1 (E ++ List.replicate (st.length - g) none) (st.take g) ∧ Kept F w wr ∧ Grow F w F1
theorem closeAt_step {bb n : Nat} {F F' : List Nat} {E out : List Ev} {st : List (List UInt8)} {w W : World} {tv ov : Value} {ts os : List NodeR} (hg : n + 1 ≤ st.length) (hE : E ++ List.replicate (st.length - (n + 1)) none = out)
    (hB : BAt W bb tv ov ts os F') (hout : outOf ts os = out ++ [none]) (hS : st.take n = os.map NodeR.name) (hK : Kept F w W) (hG : Grow F w F') : CloseAt bb F E st w n W := by
  refine ⟨F', by omega, ⟨tv, ov, ts, os, hB, ?_, hS⟩, hK, hG⟩
  have e : st.length - n = (st.length - (n + 1)) + 1 := by omega
  rw [e, List.replicate_succ', ← List.append_assoc, hE, hout]
theorem out_top (ts : List NodeR) (x : NodeR) (hx : x.name ≠ []) : outOf (ts ++ [x]) [] = outOf ts [x] ++ [none] := by
  simp [outOf, evsOf, NodeR.evs, hx]
theorem out_kid (ts os ns : List NodeR) (y x : NodeR) (kv : Value) (hx : x.name ≠ []) (hy : y.ev = evsOf ns) : outOf ts (os ++ [y.withKids kv (ns ++ [x])]) = outOf ts (os ++ [y] ++ [x]) ++ [none] := by
  simp [outOf, evsOf, NodeR.withKids, hy, NodeR.evs, hx]
theorem steps_kept {F F1 F2 : List Nat} {w wr w3 W : World} (h1 : Kept F w wr) (h2 : Kept F1 wr w3) (h3 : Kept F2 w3 W) (hF : ∀ k, k ∈ F2 → k ∈ F1) (hG : Grow F w F1) : Kept F w W :=
  h1.trans_new (h2.trans (h3.mono hF)) (fun i hi => hG i hi)
theorem steps_grow {F F1 F2 X F' : List Nat} {w wr w3 : World} (hz1 : w.heap.size ≤ wr.heap.size) (hz2 : wr.heap.size ≤ w3.heap.size) (h3 : Grow (F2 ++ X) w3 F') (hF : ∀ k, k ∈ F2 → k ∈ F1) (hX : ∀ k, k ∈ X → k ∈ F1) (hG : Grow F w F1) : Grow F w F' := by
  intro k hk
  rcases h3 k hk with h | h
  · rcases List.mem_append.1 h with h | h
    · exact hG k (hF k h)
    · exact hG k (hX k h)
  · exact .inr (by omega)
end Go.Proofs.YtlpmjpmefdpcmaaGreatDoor
/- What a text does to the builder in memory. No function of the program in it. -/
namespace Go.Proofs.YtlpmjpmefdpcmaaGreatDoor
open Go.RowKit Scrub Go.Shelf
/-- A text more: onto the text just ahead of it, or by itself. -/
def addText (E : List Ev) (t : List UInt8) : List Ev :=
  match E.getLast? with
  | some (some (.inl t0)) => E.dropLast ++ [evText (t0 ++ t)]
  | _ => E ++ [evText t]
theorem addText_text (E : List Ev) (t0 t : List UInt8) : addText (E ++ [evText t0]) t = E ++ [evText (t0 ++ t)] := by simp [addText]
theorem addText_nil (t : List UInt8) : addText [] t = [evText t] := rfl
theorem addText_close (E : List Ev) (t : List UInt8) : addText (E ++ [none]) t = E ++ [none] ++ [evText t] := by simp [addText]
theorem addText_open (E : List Ev) (n : List UInt8) (al : List (List UInt8 × List UInt8)) (t : List UInt8) : addText (E ++ [evOpen n al]) t = E ++ [evOpen n al] ++ [evText t] := by simp [addText]
def NodeR.withText (z : NodeR) (t : List UInt8) : NodeR := { z with text := z.text ++ t }
def NodeR.ofText (t : List UInt8) : NodeR := { name := [], text := t, av := .slice none 0 0, kv := .slice none 0 0, al := [], ev := [], fp := [] }
theorem ofTextOk (w : World) (t : List UInt8) (h : t ≠ []) : NodeOk Tree w (NodeR.ofText t) := ⟨[], World.ownsRow_nil _ _ _ _, Tree.nil w, rfl, fun _ => ⟨h, rfl, rfl⟩, fun hc => absurd rfl hc⟩
theorem withTextOk {w : World} {z : NodeR} (h : NodeOk Tree w z) (hz : z.name = []) (t : List UInt8) : NodeOk Tree w (z.withText t) := by
  obtain ⟨kfp, h1, h2, h3, h4, h5⟩ := h
  refine ⟨kfp, h1, h2, h3, fun hn => ⟨?_, (h4 hn).2⟩, fun hc => absurd hz hc⟩
  intro hc
  have := (h4 hz).1
  simp [NodeR.withText] at hc
  exact this hc.1
theorem cellsOf_setText (ts : List NodeR) (z : NodeR) (t : List UInt8) : (cellsOf (ts ++ [z])).set (ts.length * 4 + 3) (.string ⟨(z.text ++ t).toArray⟩) = cellsOf (ts ++ [z.withText t]) := by
  rw [cellsOf_append, cellsOf_append, ← cellsOf_length ts, List.set_append_right _ _ (by omega)]
  congr 1
  have : (cellsOf ts).length + 3 - (cellsOf ts).length = 3 := by omega
  rw [this]
  simp [cellsOf, NodeR.cells, NodeR.withText]
theorem fpOf_withText (ts : List NodeR) (z : NodeR) (t : List UInt8) : fpOf (ts ++ [z.withText t]) = fpOf (ts ++ [z]) := by simp [fpOf, NodeR.withText]
theorem setCell_self {w : World} {b o : Nat} {v : Value} (h : w.cell? ⟨b, o, none⟩ = some v) : w.setCell ⟨b, o, none⟩ v = w := by
  have hh : (w.setCell ⟨b, o, none⟩ v).heap = w.heap := by
    apply Array.ext_getElem?
    intro i
    simp only [World.setCell, Array.getElem?_modify]
    by_cases hi : b = i
    · subst hi
      simp only [World.cell?] at h
      cases hb : w.heap[b]? with
      | none => simp
      | some x =>
        rw [hb] at h
        cases x with
        | cells c e f =>
          simp at h
          obtain ⟨h1, h2⟩ := Array.getElem?_eq_some_iff.1 h
          simp
          apply Array.ext_getElem?
          intro j
          rw [Array.getElem?_setIfInBounds]
          by_cases hj : o = j
          · subst hj
            simp [h1, h2]
          · simp [hj]
        | _ => simp_all
    · simp [hi]
  show ({ w with heap := (w.setCell ⟨b, o, none⟩ v).heap } : World) = w
  rw [hh]
/-- The last at the top, a text, grows. -/
theorem BAt.topText {w : World} {bb g cap : Nat} {ov : Value} {ts os : List NodeR} {F : List Nat} {z : NodeR} (h : BAt w bb (.slice (some ⟨g, 0, none⟩) (ts.length + 1) cap) ov (ts ++ [z]) os F) (hz : z.name = []) (t : List UInt8) :
    BAt (w.setCell ⟨g, ts.length * 4 + 3, none⟩ (.string ⟨(z.text ++ t).toArray⟩)) bb (.slice (some ⟨g, 0, none⟩) (ts.length + 1) cap) ov (ts ++ [z.withText t]) os F ∧ Kept F w (w.setCell ⟨g, ts.length * 4 + 3, none⟩ (.string ⟨(z.text ++ t).toArray⟩)) := by
  have hmem := h.mem
  obtain ⟨⟨t0, h1⟩, ⟨h2, h3⟩, ⟨h4, h5⟩, h6, h7, h8, h9⟩ := h
  have hob : (Value.slice (some ⟨g, 0, none⟩) (ts.length + 1) cap).ownBlock.toList = [g] := rfl
  have hgF : g ∈ F := (hmem g).2 (.inr (.inl (by rw [hob]; simp)))
  have hne : ∀ k, (k = bb ∨ k ∈ ov.ownBlock.toList ∨ k ∈ fpOf (ts ++ [z]) ∨ k ∈ fpOf os) → k ≠ g := by
    intro k hk e
    subst e
    have hc := List.nodup_iff_count.1 h7 k
    simp only [hob, List.count_cons, List.count_append, List.count_nil] at hc
    rcases hk with hk | hk | hk | hk
    · subst hk
      simp at hc
    all_goals
      have := List.count_pos_iff.2 hk
      simp at hc
      omega
  have far : ∀ k, k ≠ g → (w.setCell ⟨g, ts.length * 4 + 3, none⟩ (.string ⟨(z.text ++ t).toArray⟩)).heap[k]? = w.heap[k]? := fun k hk => Below.heap_setCell _ _ _ _ hk
  have okOf : ∀ n : NodeR, NodeOk Tree w n → (∀ k, k ∈ n.fp → k ∈ fpOf (ts ++ [z]) ∨ k ∈ fpOf os) → NodeOk Tree (w.setCell ⟨g, ts.length * 4 + 3, none⟩ (.string ⟨(z.text ++ t).toArray⟩)) n := by
    intro n hn hf
    refine hn.keep (fun k hk' => far k (hne k ?_))
    rcases hf k hk' with h | h
    · exact .inr (.inr (.inl h))
    · exact .inr (.inr (.inr h))
  have e1 : (ts ++ [z]).length = ts.length + 1 := by simp
  have e2 : (ts ++ [z.withText t]).length = ts.length + 1 := by simp
  rw [e1] at h2
  refine ⟨⟨⟨t0, (far bb (hne bb (.inl rfl))).trans h1⟩, ⟨?_, ?_⟩, ⟨?_, ?_⟩, ?_, ?_, h8, ?_⟩, (Kept.refl _ _).setCell (.inl hgF) _⟩
  · rw [e2, ← cellsOf_setText]
    exact own_setCell h2 _ (by rw [cellsOf_length]; simp; omega) _
  · intro n hn
    rcases List.mem_append.1 hn with hn | hn
    · exact okOf n (h3 n (by simp [hn])) (fun k hk' => .inl (mem_fpOf (n := n) (by simp [hn]) hk'))
    · simp at hn
      subst hn
      exact okOf _ (withTextOk (h3 z (by simp)) hz t) (fun k hk' => .inl (mem_fpOf (n := z) (by simp) hk'))
  · exact ownsRow_same h4 (fun k hk' => far k (hne k (.inr (.inl (by rw [hk']; simp)))))
  · intro n hn
    exact okOf n (h5 n hn) (fun k hk' => .inr (mem_fpOf hn hk'))
  · intro k
    rw [fpOf_withText]
    exact h6 k
  · rw [fpOf_withText]
    exact h7
  · intro k hk'
    have := h9 k hk'
    simpa [World.setCell] using this
/-- The last kid of the innermost, a text, grows. -/
theorem BAt.kidText {w : World} {bb g cap kg kc : Nat} {tv : Value} {ts os ns0 : List NodeR} {F : List Nat} {y z : NodeR} (h : BAt w bb tv (.slice (some ⟨g, 0, none⟩) (os.length + 1) cap) ts (os ++ [y]) F)
    (ha : AOwn w y.av y.al) (hkv : y.kv = .slice (some ⟨kg, 0, none⟩) (ns0.length + 1) kc) (hkr : w.ownsRow 0 42 4 (.slice (some ⟨kg, 0, none⟩) (ns0.length + 1) kc) (ns0.length + 1) (cellsOf (ns0 ++ [z])))
    (hns : ∀ n ∈ ns0 ++ [z], NodeOk Tree w n) (hfp : y.fp = y.av.ownBlock.toList ++ (y.kv.ownBlock.toList ++ fpOf (ns0 ++ [z]))) (hyt : y.text = []) (hz : z.name = []) (t : List UInt8) :
    ∃ F', BAt (w.setCell ⟨kg, ns0.length * 4 + 3, none⟩ (.string ⟨(z.text ++ t).toArray⟩)) bb tv (.slice (some ⟨g, 0, none⟩) (os.length + 1) cap) ts (os ++ [y.withKids (.slice (some ⟨kg, 0, none⟩) (ns0.length + 1) kc) (ns0 ++ [z.withText t])]) F' ∧ Kept F w (w.setCell ⟨kg, ns0.length * 4 + 3, none⟩ (.string ⟨(z.text ++ t).toArray⟩)) ∧ Grow F w F' := by
  have hown := h.2.2.1.1
  have hl1 : (os ++ [y]).length = os.length + 1 := by simp
  rw [hl1] at hown
  have hyg := (cellsOf_get (os ++ [y]) os.length (by simp)).2.2.1
  have hyge : (os ++ [y])[os.length]'(by simp) = y := by simp
  rw [hyge, hkv] at hyg
  have d0 := row_cell hown hyg
  have hkg : kg ≠ g := by
    intro e
    have := (h.far.2.2 y (by simp) kg (by rw [hfp, hkv]; simp [Value.ownBlock])).2
    exact this (by rw [e]; rfl)
  have hr3 : (w.setCell ⟨kg, ns0.length * 4 + 3, none⟩ (.string ⟨(z.text ++ t).toArray⟩)).ownsRow 0 42 4 (.slice (some ⟨kg, 0, none⟩) (ns0.length + 1) kc) (ns0 ++ [z.withText t]).length (cellsOf (ns0 ++ [z.withText t])) := by
    have e2 : (ns0 ++ [z.withText t]).length = ns0.length + 1 := by simp
    rw [e2, ← cellsOf_setText]
    exact own_setCell hkr _ (by rw [cellsOf_length]; simp; omega) _
  have hkk : Kept y.kv.ownBlock.toList w (w.setCell ⟨kg, ns0.length * 4 + 3, none⟩ (.string ⟨(z.text ++ t).toArray⟩)) := (Kept.refl _ _).setCell (.inl (by rw [hkv]; simp [Value.ownBlock])) _
  have hA := h.setKids (w3 := w.setCell ⟨kg, ns0.length * 4 + 3, none⟩ (.string ⟨(z.text ++ t).toArray⟩)) (ns := ns0 ++ [z]) (ns' := ns0 ++ [z.withText t]) (X := []) (kv' := .slice (some ⟨kg, 0, none⟩) (ns0.length + 1) kc) ha hfp hyt hr3 (.inl (by rw [hkv])) hkk (fun n hn => by
    rcases List.mem_append.1 hn with hn | hn
    · exact hns n (by simp [hn])
    · simp at hn
      subst hn
      exact withTextOk (hns z (by simp)) hz t) (by rw [fpOf_withText]; simp) (by simp) (by simp)
  have hself : ((w.setCell ⟨kg, ns0.length * 4 + 3, none⟩ (.string ⟨(z.text ++ t).toArray⟩)).setCell ⟨g, os.length * 4 + 2, none⟩ (.slice (some ⟨kg, 0, none⟩) (ns0.length + 1) kc)) = w.setCell ⟨kg, ns0.length * 4 + 3, none⟩ (.string ⟨(z.text ++ t).toArray⟩) := by
    refine setCell_self ?_
    rw [World.cell?_setCell_other _ _ _ _ (fun hc => by injection hc with h1 h2 h3; exact hkg h1)]
    exact d0
  rw [hself] at hA
  simpa using hA
/-- How many bytes of text there are. -/
def evSize : List Ev → Nat
  | [] => 0
  | some (.inl t) :: r => t.length + evSize r
  | _ :: r => evSize r
theorem evSize_append : ∀ a b : List Ev, evSize (a ++ b) = evSize a + evSize b
  | [], b => by simp [evSize]
  | some (.inl t) :: r, b => by
    have := evSize_append r b
    simp [evSize, this]
    omega
  | none :: r, b => by
    have := evSize_append r b
    simp [evSize, this]
  | some (.inr x) :: r, b => by
    have := evSize_append r b
    simp [evSize, this]
theorem text_top_fin {w w1 w' : World} {bb g' cap' : Nat} {tv ov : Value} {ts : List NodeR} {F : List Nat} {t : ByteArray} {z0 z1 z2 z3 : Value}
    (hb : BAt w bb tv ov ts [] F) (hk1 : Kept [] w w1)
    (hown : w'.ownsRow 0 42 4 (.slice (some ⟨g', 0, none⟩) (ts.length + 1) cap') (ts.length + 1) (cellsOf ts ++ [z0, z1, z2, z3])) (hgr : w1.grownBy w' tv.ownBlock) (hmv : Moved w1 tv (.slice (some ⟨g', 0, none⟩) (ts.length + 1) cap')) (ht : t.data.toList ≠ []) (n1 : ¬ g' = bb) :
    (∃ F', BAt (((((w'.setCell ⟨g', ts.length * 4, none⟩ (.string ⟨#[]⟩)).setCell ⟨g', ts.length * 4 + 1, none⟩ (.slice none 0 0)).setCell ⟨g', ts.length * 4 + 2, none⟩ (.slice none 0 0)).setCell ⟨g', ts.length * 4 + 3, none⟩ (.string t)).setCell ⟨bb, 0, none⟩ (.slice (some ⟨g', 0, none⟩) (ts.length + 1) cap')) bb (.slice (some ⟨g', 0, none⟩) (ts.length + 1) cap') ov (ts ++ [NodeR.ofText t.data.toList]) [] F' ∧ Kept F w (((((w'.setCell ⟨g', ts.length * 4, none⟩ (.string ⟨#[]⟩)).setCell ⟨g', ts.length * 4 + 1, none⟩ (.slice none 0 0)).setCell ⟨g', ts.length * 4 + 2, none⟩ (.slice none 0 0)).setCell ⟨g', ts.length * 4 + 3, none⟩ (.string t)).setCell ⟨bb, 0, none⟩ (.slice (some ⟨g', 0, none⟩) (ts.length + 1) cap')) ∧ Grow F w F') ∧
    (∃ F', BAt (((((w'.setCell ⟨bb, 0, none⟩ (.slice (some ⟨g', 0, none⟩) (ts.length + 1) cap')).setCell ⟨g', ts.length * 4, none⟩ (.string ⟨#[]⟩)).setCell ⟨g', ts.length * 4 + 1, none⟩ (.slice none 0 0)).setCell ⟨g', ts.length * 4 + 2, none⟩ (.slice none 0 0)).setCell ⟨g', ts.length * 4 + 3, none⟩ (.string t)) bb (.slice (some ⟨g', 0, none⟩) (ts.length + 1) cap') ov (ts ++ [NodeR.ofText t.data.toList]) [] F' ∧ Kept F w (((((w'.setCell ⟨bb, 0, none⟩ (.slice (some ⟨g', 0, none⟩) (ts.length + 1) cap')).setCell ⟨g', ts.length * 4, none⟩ (.string ⟨#[]⟩)).setCell ⟨g', ts.length * 4 + 1, none⟩ (.slice none 0 0)).setCell ⟨g', ts.length * 4 + 2, none⟩ (.slice none 0 0)).setCell ⟨g', ts.length * 4 + 3, none⟩ (.string t)) ∧ Grow F w F') := by
  have h := close_top_fin (x := NodeR.ofText t.data.toList) hb hk1 hown hgr hmv (ofTextOk w _ ht) (fun k hk => by simp [NodeR.ofText] at hk) (by simp [NodeR.ofText]) rfl rfl n1
  have e : (⟨t.data.toList.toArray⟩ : ByteArray) = t := by cases t; simp
  simp only [NodeR.ofText, e, List.append_nil] at h
  exact h
theorem text_kid_fin {w w1 w' : World} {bb g cap g' cap' : Nat} {tv : Value} {ts os ns : List NodeR} {F : List Nat} {y : NodeR} {t : ByteArray} {z0 z1 z2 z3 : Value}
    (hb : BAt w bb tv (.slice (some ⟨g, 0, none⟩) (os.length + 1) cap) ts (os ++ [y]) F) (hk1 : Kept [] w w1)
    (hown : w'.ownsRow 0 42 4 (.slice (some ⟨g', 0, none⟩) (ns.length + 1) cap') (ns.length + 1) (cellsOf ns ++ [z0, z1, z2, z3])) (hgr : w1.grownBy w' y.kv.ownBlock) (hmv : Moved w1 y.kv (.slice (some ⟨g', 0, none⟩) (ns.length + 1) cap'))
    (ha : AOwn w y.av y.al) (hfp : y.fp = y.av.ownBlock.toList ++ (y.kv.ownBlock.toList ++ fpOf ns)) (hyt : y.text = []) (hns : ∀ n ∈ ns, NodeOk Tree w n) (ht : t.data.toList ≠ []) (n1 : ¬ g' = g) :
    (∃ F', BAt (((((w'.setCell ⟨g', ns.length * 4, none⟩ (.string ⟨#[]⟩)).setCell ⟨g', ns.length * 4 + 1, none⟩ (.slice none 0 0)).setCell ⟨g', ns.length * 4 + 2, none⟩ (.slice none 0 0)).setCell ⟨g', ns.length * 4 + 3, none⟩ (.string t)).setCell ⟨g, os.length * 4 + 2, none⟩ (.slice (some ⟨g', 0, none⟩) (ns.length + 1) cap')) bb tv (.slice (some ⟨g, 0, none⟩) (os.length + 1) cap) ts (os ++ [y.withKids (.slice (some ⟨g', 0, none⟩) (ns.length + 1) cap') (ns ++ [NodeR.ofText t.data.toList])]) F' ∧ Kept F w (((((w'.setCell ⟨g', ns.length * 4, none⟩ (.string ⟨#[]⟩)).setCell ⟨g', ns.length * 4 + 1, none⟩ (.slice none 0 0)).setCell ⟨g', ns.length * 4 + 2, none⟩ (.slice none 0 0)).setCell ⟨g', ns.length * 4 + 3, none⟩ (.string t)).setCell ⟨g, os.length * 4 + 2, none⟩ (.slice (some ⟨g', 0, none⟩) (ns.length + 1) cap')) ∧ Grow F w F') ∧
    (∃ F', BAt (((((w'.setCell ⟨g, os.length * 4 + 2, none⟩ (.slice (some ⟨g', 0, none⟩) (ns.length + 1) cap')).setCell ⟨g', ns.length * 4, none⟩ (.string ⟨#[]⟩)).setCell ⟨g', ns.length * 4 + 1, none⟩ (.slice none 0 0)).setCell ⟨g', ns.length * 4 + 2, none⟩ (.slice none 0 0)).setCell ⟨g', ns.length * 4 + 3, none⟩ (.string t)) bb tv (.slice (some ⟨g, 0, none⟩) (os.length + 1) cap) ts (os ++ [y.withKids (.slice (some ⟨g', 0, none⟩) (ns.length + 1) cap') (ns ++ [NodeR.ofText t.data.toList])]) F' ∧ Kept F w (((((w'.setCell ⟨g, os.length * 4 + 2, none⟩ (.slice (some ⟨g', 0, none⟩) (ns.length + 1) cap')).setCell ⟨g', ns.length * 4, none⟩ (.string ⟨#[]⟩)).setCell ⟨g', ns.length * 4 + 1, none⟩ (.slice none 0 0)).setCell ⟨g', ns.length * 4 + 2, none⟩ (.slice none 0 0)).setCell ⟨g', ns.length * 4 + 3, none⟩ (.string t)) ∧ Grow F w F') := by
  have h := close_kid_fin (x := NodeR.ofText t.data.toList) hb hk1 hown hgr hmv ha hfp hyt hns (ofTextOk w _ ht) (fun k hk => by simp [NodeR.ofText] at hk) (by simp [NodeR.ofText]) rfl rfl n1
  have e : (⟨t.data.toList.toArray⟩ : ByteArray) = t := by cases t; simp
  simp only [NodeR.ofText, e, List.append_nil] at h
  exact h
end Go.Proofs.YtlpmjpmefdpcmaaGreatDoor
