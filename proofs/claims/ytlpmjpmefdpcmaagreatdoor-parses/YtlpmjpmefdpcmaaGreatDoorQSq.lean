import Derived.Test.YtlpmjpmefdpcmaaGreatDoorQSk
import Derived.Test.YtlpmjpmefdpcmaaGreatDoorQText0
import Derived.Test.YtlpmjpmefdpcmaaGreatDoorQSn
import Derived.Test.YtlpmjpmefdpcmaaGreatDoorQBegin
/- The reference's builder: one more is opened. -/
namespace Go.Proofs.YtlpmjpmefdpcmaaGreatDoor
open Go.RowKit Scrub Go.Shelf
theorem newOpenOk {w : World} {name : List UInt8} {av : Value} {al : List (List UInt8 × List UInt8)} (h : AOwn w av al) : OpenOk w (NodeR.new name av al) := ⟨[], h, Tree.nil w, by simp [NodeR.new], rfl⟩
theorem rpush_fin {w w1 w' : World} {bb g cap' : Nat} {ov av : Value} {os : List NodeR} {F : List Nat} {name : List UInt8} {al : List (List UInt8 × List UInt8)} {z0 z1 z2 z3 : Value}
    (hb : RAt w bb ov os F) (hk1 : Kept [] w w1)
    (hown : w'.ownsRow 0 42 4 (.slice (some ⟨g, 0, none⟩) (os.length + 1) cap') (os.length + 1) (cellsOf os ++ [z0, z1, z2, z3])) (hgr : w1.grownBy w' ov.ownBlock) (hmv : Moved w1 ov (.slice (some ⟨g, 0, none⟩) (os.length + 1) cap'))
    (ha : AOwn w av al) (haf : ∀ k, av.ownBlock = some k → k ∉ F) (n1 : ¬ g = bb) :
    (∃ F', RAt (((((w'.setCell ⟨g, os.length * 4, none⟩ (.string ⟨name.toArray⟩)).setCell ⟨g, os.length * 4 + 1, none⟩ av).setCell ⟨g, os.length * 4 + 2, none⟩ (.slice none 0 0)).setCell ⟨g, os.length * 4 + 3, none⟩ (.string ⟨#[]⟩)).setCell ⟨bb, 0, none⟩ (.slice (some ⟨g, 0, none⟩) (os.length + 1) cap')) bb (.slice (some ⟨g, 0, none⟩) (os.length + 1) cap') (os ++ [NodeR.new name av al]) F' ∧ Kept F w (((((w'.setCell ⟨g, os.length * 4, none⟩ (.string ⟨name.toArray⟩)).setCell ⟨g, os.length * 4 + 1, none⟩ av).setCell ⟨g, os.length * 4 + 2, none⟩ (.slice none 0 0)).setCell ⟨g, os.length * 4 + 3, none⟩ (.string ⟨#[]⟩)).setCell ⟨bb, 0, none⟩ (.slice (some ⟨g, 0, none⟩) (os.length + 1) cap')) ∧ Grow (F ++ av.ownBlock.toList) w F') ∧
    (∃ F', RAt (((((w'.setCell ⟨bb, 0, none⟩ (.slice (some ⟨g, 0, none⟩) (os.length + 1) cap')).setCell ⟨g, os.length * 4, none⟩ (.string ⟨name.toArray⟩)).setCell ⟨g, os.length * 4 + 1, none⟩ av).setCell ⟨g, os.length * 4 + 2, none⟩ (.slice none 0 0)).setCell ⟨g, os.length * 4 + 3, none⟩ (.string ⟨#[]⟩)) bb (.slice (some ⟨g, 0, none⟩) (os.length + 1) cap') (os ++ [NodeR.new name av al]) F' ∧ Kept F w (((((w'.setCell ⟨bb, 0, none⟩ (.slice (some ⟨g, 0, none⟩) (os.length + 1) cap')).setCell ⟨g, os.length * 4, none⟩ (.string ⟨name.toArray⟩)).setCell ⟨g, os.length * 4 + 1, none⟩ av).setCell ⟨g, os.length * 4 + 2, none⟩ (.slice none 0 0)).setCell ⟨g, os.length * 4 + 3, none⟩ (.string ⟨#[]⟩)) ∧ Grow (F ++ av.ownBlock.toList) w F') := by
  have hfpx : ∀ k, k ∈ (NodeR.new name av al).fp → k ∉ F ∧ k < w.heap.size := by
    intro k hk
    have hk' : av.ownBlock = some k := by simpa [NodeR.new] using hk
    exact ⟨haf k hk', (ha.lt k hk').2⟩
  have hndx : (NodeR.new name av al).fp.Nodup := by
    simp only [NodeR.new]
    cases av.ownBlock <;> simp
  obtain ⟨ra, rm, rk⟩ := row_add (v := ov) (ns := os) hk1 hown hgr hmv (NodeR.new name av al)
  have hA := hb.addOpen ra rm rk (newOpenOk ha) hfpx hndx
  have hco := put4_comm w' g (os.length * 4) bb 0 (NodeR.new name av al) (.slice (some ⟨g, 0, none⟩) (os.length + 1) cap') n1
  refine ⟨hA, ?_⟩
  rw [← hco] at hA
  exact hA
theorem RBld.push {bb : Nat} {F' : List Nat} {E : List Ev} {st : List (List UInt8)} {n0 : NodeR} {os : List NodeR} {ov av : Value} {name : List UInt8} {al : List (List UInt8 × List UInt8)} {W : World} {L : List NodeR} (h : RAt W bb ov (L ++ [NodeR.new name av al]) F') (hL : L = n0 :: os) (h0 : n0.name = []) (hn : ∀ n ∈ os, n.name ≠ []) (hnm : name ≠ []) (hE : E = rOut n0 os) (hS : st = os.map NodeR.name) : RBld W bb F' (E ++ [evOpen name al]) (st ++ [name]) := by
  subst hL
  refine ⟨ov, n0, os ++ [NodeR.new name av al], h, h0, ?_, ?_, ?_⟩
  · intro n hn'
    rcases List.mem_append.1 hn' with h1 | h1
    · exact hn n h1
    · simp at h1
      subst h1
      exact hnm
  · rw [hE]
    simp [rOut, NodeR.new]
  · rw [hS]
    simp [NodeR.new]
set_option maxHeartbeats 2000000 in
theorem rPush (bb : Nat) (F : List Nat) (E : List Ev) (st : List (List UInt8)) (name : List UInt8) (av : Value) (al : List (List UInt8 × List UInt8)) (w : World) (h : RBld w bb F E st) (ha : AOwn w av al) (hn : name ≠ []) (haf : ∀ k, av.ownBlock = some k → k ∉ F) (hst : st.length < 12) :
    Calls Tryz.prog 153 #[.pointer (some ⟨bb, 0, none⟩), .agg #[.string ⟨name.toArray⟩, av, .slice none 0 0, .string ⟨#[]⟩]] w
      fun e w' => e = .returned (.bool true) ∧ ∃ F', RBld w' bb F' (E ++ [evOpen name al]) (st ++ [name]) ∧ Kept F w w' ∧ Grow (F ++ av.ownBlock.toList) w F' := by
  obtain ⟨ov, n0, os0, hb, h0, hnn, hE, hS⟩ := h
  have HE : Hid _ := hE
  have HS : Hid _ := hS
  have HNN : Hid _ := hnn
  have hol0 : os0.length < 12 := by rw [hS] at hst; simpa using hst
  obtain ⟨os, hos⟩ : ∃ os, os = n0 :: os0 := ⟨_, rfl⟩
  have hol : os.length < 13 := by rw [hos]; simp; omega
  rw [← hos] at hb
  have HOS : Hid _ := hos
  clear hE hS hst hos hnn hol0
  obtain ⟨i0, hi, hz0, hz1, hz2⟩ := info_parts infoNode
  obtain ⟨c0, c2⟩ := hb.cells
  obtain ⟨oa, oc, rfl⟩ := ownsRow_form hb.2.1.1
  obtain ⟨va, vc, rfl⟩ := ownsRow_form ha
  have hbbl : bb < w.heap.size := hb.2.2.2.2 bb ((hb.mem bb).2 (.inl rfl))
  have hge : ((12 : Int) < (os.length : Int)) = False := eq_false (by omega)
  have hown0 := hb.2.1.1
  have hidx : (os.length : Int) < (os.length : Int) + 1 := by omega
  go_enter Tryz.func153, Tryz.ntmps153
  go_wp2_with fail
  have hk2 : Kept [] w ((w.alloc (.cells #[.string ⟨name.toArray⟩, .slice va al.length vc, .slice none 0 0, .string ⟨#[]⟩] 42)).alloc (.cells #[.string ⟨#[]⟩, .slice none 0 0, .slice none 0 0, .string ⟨#[]⟩] 42)) := ((Kept.refl [] w).alloc _).alloc _
  have hown2 := ownsRow_kept hown0 hk2 (by simp)
  have hnews := new_cells (w.alloc (.cells #[.string ⟨name.toArray⟩, .slice va al.length vc, .slice none 0 0, .string ⟨#[]⟩] 42)) [.string ⟨#[]⟩, .slice none 0 0, .slice none 0 0, .string ⟨#[]⟩] 42
  have hsz : (w.alloc (.cells #[.string ⟨name.toArray⟩, .slice va al.length vc, .slice none 0 0, .string ⟨#[]⟩] 42)).heap.size = w.heap.size + 1 := by simp
  rw [hsz] at hnews
  have hfar' : ∀ w' : World, ((w.alloc (.cells #[.string ⟨name.toArray⟩, .slice va al.length vc, .slice none 0 0, .string ⟨#[]⟩] 42)).alloc (.cells #[.string ⟨#[]⟩, .slice none 0 0, .slice none 0 0, .string ⟨#[]⟩] 42)).drew.grownBy w' (Value.slice oa os.length oc).ownBlock → w'.cell? ⟨bb, 0, none⟩ = some (.slice oa os.length oc) ∧ w'.frozen? ⟨bb, 0, none⟩ = false := by
    intro w' hgr
    have hk3 := hk2.drew.mono (S' := (Value.slice oa os.length oc).ownBlock.toList) (by simp) |>.trans (Kept.own hgr)
    have hbov : bb ∉ (Value.slice oa os.length oc).ownBlock.toList := by
      intro hc
      exact hb.far.1 bb (by simpa using hc) rfl
    exact ⟨(hk3.cell (p := ⟨bb, 0, none⟩) hbbl hbov).trans c0, (hk3.frozen (p := ⟨bb, 0, none⟩) hbbl hbov).trans c2⟩
  have hgb' : ∀ g cap' : Nat, Moved ((w.alloc (.cells #[.string ⟨name.toArray⟩, .slice va al.length vc, .slice none 0 0, .string ⟨#[]⟩] 42)).alloc (.cells #[.string ⟨#[]⟩, .slice none 0 0, .slice none 0 0, .string ⟨#[]⟩] 42)).drew (Value.slice oa os.length oc) (.slice (some ⟨g, 0, none⟩) (os.length + 1) cap') → ¬ g = bb := by
    intro g cap' hmv e
    rcases hmv with h1 | ⟨k, h1, h2⟩
    · exact hb.far.1 bb (by rw [← h1, ← e]; rfl) rfl
    · have h3 := hk2.drew.size
      simp [Value.ownBlock] at h1
      omega
  go_region_law (refine step_append_fp rfl (.tmp 14) (.tmp 17) 31 rfl 0 42 i0 _ 4 80 Tryz.underlying31 hi hz0 hz1 hz2 rfl (by decide) (.slice oa os.length oc) os.length (cellsOf os) (by simp [Act.eval, Act.put]) (by exact hown2) _ 1 1 [.string ⟨#[]⟩, .slice none 0 0, .slice none 0 0, .string ⟨#[]⟩] (by simp [Act.eval, Act.put]; rfl) rfl (by exact hnews) (by simp [Value.oneCell']) (by unfold maxLen; omega) (by omega) (Nat.zero_le _) ?_; intro v' w' hown' hgr' hmv'; obtain ⟨g, cap', rfl⟩ := form_pos hown'; obtain ⟨⟨r0, r1, r2, r3⟩, ⟨s0, s1, s2, s3⟩⟩ := new_row_cells hown'; have b0 := (hfar' w' hgr').1; have b1 := (hfar' w' hgr').2; have n1 := hgb' _ _ hmv'; have n2 : ¬ bb = g := fun e => n1 e.symm)
  all_goals
    go_wp2_with fail
    go_ret
    refine ⟨rfl, ?_⟩
    have hfin := rpush_fin (name := name) hb hk2.drew hown' hgr' hmv' ha haf n1
    first
      | (obtain ⟨F', hB', hK', hG'⟩ := hfin.1
         have hR' := RBld.push hB' HOS.out h0 HNN.out hn HE.out HS.out
         with_reducible exact ⟨F', hR', hK', hG'⟩)
      | (obtain ⟨F', hB', hK', hG'⟩ := hfin.2
         have hR' := RBld.push hB' HOS.out h0 HNN.out hn HE.out HS.out
         with_reducible exact ⟨F', hR', hK', hG'⟩)
end Go.Proofs.YtlpmjpmefdpcmaaGreatDoor
/- The reference's builder: rows and cells of tables, ends. -/
namespace Go.Proofs.YtlpmjpmefdpcmaaGreatDoor
open Go.RowKit Scrub Go.Shelf
theorem grow_nil {F F' : List Nat} {w : World} (h : Grow (F ++ []) w F') : Grow F w F' := by simpa using h
theorem keep4 {F F1 : List Nat} {w w1 : World} {b : Nat} {t : TypeId} {x0 x1 x2 x3 : Value} (h : Four w b t x0 x1 x2 x3) (hb : b ∉ F) (hk : Kept F w w1) (hg : Grow F w F1) : Four w1 b t x0 x1 x2 x3 ∧ b ∉ F1 :=
  ⟨h.kept hk hb, fun hc => by
    rcases hg b hc with h1 | h1
    · exact hb h1
    · have := h.lt
      omega⟩
theorem RPost.before {bb : Nat} {F X : List Nat} {E : List Ev} {st : List (List UInt8)} {w w1 w' : World} (hk : Kept [] w w1) (h : RPost bb F X E st w1 w') : RPost bb F X E st w w' := by
  obtain ⟨F', a, b, c⟩ := h
  refine ⟨F', a, (hk.mono (by simp)).trans b, fun k hk' => ?_⟩
  rcases c k hk' with h1 | h1
  · exact .inl h1
  · exact .inr (by have := hk.size; omega)
theorem RPost.then {bb : Nat} {F F1 X : List Nat} {E : List Ev} {st : List (List UInt8)} {w w1 w' : World} (hk : Kept F w w1) (hg : Grow F w F1) (h : RPost bb F1 X E st w1 w') : RPost bb F X E st w w' := by
  obtain ⟨F', a, b, c⟩ := h
  refine ⟨F', a, hk.trans_new b (fun i hi => hg i hi), fun k hk' => ?_⟩
  rcases c k hk' with h1 | h1
  · rcases List.mem_append.1 h1 with h1 | h1
    · rcases hg k h1 with h2 | h2
      · exact .inl (by simp [h2])
      · exact .inr h2
    · exact .inl (by simp [h1])
  · exact .inr (by have := hk.size; omega)
theorem RPost.here {bb : Nat} {F X : List Nat} {E : List Ev} {st : List (List UInt8)} {w w' : World} (h : RBld w bb F E st) (hk : Kept [] w w') : RPost bb F X E st w w' := ⟨F, h.kept hk (by simp), hk.mono (by simp), fun k hk' => .inl (by simp [hk'])⟩
set_option maxHeartbeats 1000000 in
theorem rPushFull (bb : Nat) (F : List Nat) (E : List Ev) (st : List (List UInt8)) (x0 x1 : ByteArray) (va ka : Option Addr) (vn vc kn kc : Nat) (w : World) (h : RBld w bb F E st) (hst : 12 ≤ st.length) (hst2 : st.length ≤ 12) :
    Calls Tryz.prog 153 #[.pointer (some ⟨bb, 0, none⟩), .agg #[.string x0, .slice va vn vc, .slice ka kn kc, .string x1]] w
      fun e w' => e = .returned (.bool false) ∧ Kept [] w w' := by
  obtain ⟨g, cap, c0, _, _⟩ := h.names
  have hbb : bb < w.heap.size := by
    obtain ⟨ov, n0, os, hb, _⟩ := h
    exact hb.2.2.2.2 bb ((hb.mem bb).2 (.inl rfl))
  obtain ⟨N, hN⟩ : ∃ N, N = st.length := ⟨_, rfl⟩
  rw [← hN] at c0 hst hst2
  clear hN h
  have hge : (12 : Int) < (N : Int) + 1 := by omega
  go_enter Tryz.func153, Tryz.ntmps153
  go_wp2_with fail
  go_ret
  exact ⟨rfl, (Kept.refl _ _).alloc _⟩
theorem rPushAny (bb : Nat) (F : List Nat) (E : List Ev) (st : List (List UInt8)) (name : List UInt8) (va : Option Addr) (vc : Nat) (al : List (List UInt8 × List UInt8)) (w : World) (h : RBld w bb F E st) (ha : AOwn w (.slice va al.length vc) al) (hn : name ≠ []) (haf : ∀ k, (Value.slice va al.length vc).ownBlock = some k → k ∉ F) (hst : st.length ≤ 12) :
    Calls Tryz.prog 153 #[.pointer (some ⟨bb, 0, none⟩), .agg #[.string ⟨name.toArray⟩, .slice va al.length vc, .slice none 0 0, .string ⟨#[]⟩]] w
      fun e w' => e = .returned (.bool (decide (st.length < 12))) ∧ RPost bb F (Value.slice va al.length vc).ownBlock.toList (pushP E st name al).1 (pushP E st name al).2 w w' := by
  by_cases hl : st.length < 12
  · refine (rPush bb F E st name _ al w h ha hn haf hl).mono ?_
    rintro e w' ⟨rfl, hp⟩
    have e1 : decide (st.length < 12) = true := by simpa using hl
    rw [e1]
    unfold pushP
    rw [if_pos hl]
    exact ⟨rfl, hp⟩
  · refine (rPushFull bb F E st ⟨name.toArray⟩ ⟨#[]⟩ va none al.length vc 0 0 w h (by omega) hst).mono ?_
    rintro e w' ⟨rfl, hk⟩
    have e1 : decide (st.length < 12) = false := by simpa using hl
    rw [e1]
    unfold pushP
    rw [if_neg hl]
    exact ⟨rfl, RPost.here h hk⟩
/-- What row makes of it. -/
def rowR (E : List Ev) (st : List (List UInt8)) (nm : List UInt8) (al : List (List UInt8 × List UInt8)) : List Ev × List (List UInt8) := if nm = [116, 114] then rowP E st al else cellP E st al
set_option maxRecDepth 100000 in
set_option maxHeartbeats 4000000 in
theorem rRow (bb : Nat) (F : List Nat) (E : List Ev) (st : List (List UInt8)) (nm : List UInt8) (va : Option Addr) (vc : Nat) (al : List (List UInt8 × List UInt8)) (w : World) (h : RBld w bb F E st) (ha : AOwn w (.slice va al.length vc) al) (hn : nm = [116, 114] ∨ nm = [116, 100]) (haf : ∀ k, (Value.slice va al.length vc).ownBlock = some k → k ∉ F) (hst : st.length ≤ 12) (hEl : E.length ≤ 1099511625000) (hsz : evSize E ≤ 1099511625000) :
    Calls Tryz.prog 149 #[.pointer (some ⟨bb, 0, none⟩), .agg #[.string ⟨nm.toArray⟩, .slice va al.length vc, .slice none 0 0, .string ⟨#[]⟩]] w
      fun e w' => e = .returned (.tuple #[]) ∧ RPost bb F (Value.slice va al.length vc).ownBlock.toList (rowR E st nm al).1 (rowR E st nm al).2 w w' := by
  have hkx := (Kept.refl [] w).alloc (.cells #[.string ⟨nm.toArray⟩, .slice va al.length vc, .slice none 0 0, .string ⟨#[]⟩] 42)
  have hnx : Four (w.alloc (.cells #[.string ⟨nm.toArray⟩, .slice va al.length vc, .slice none 0 0, .string ⟨#[]⟩] 42)) w.heap.size 42 (.string ⟨nm.toArray⟩) (.slice va al.length vc) (.slice none 0 0) (.string ⟨#[]⟩) := heap_alloc_new w _
  have h1 := h.kept hkx (by simp)
  have ha1 := ownsRow_kept ha hkx (by simp)
  have hxF : w.heap.size ∉ F := fun hc => by
    obtain ⟨ov, n0, os, hb, _⟩ := h
    have := hb.2.2.2.2 _ hc
    omega
  have HGOAL : Hid (∀ w', RPost bb F (Value.slice va al.length vc).ownBlock.toList (rowR E st nm al).1 (rowR E st nm al).2 (w.alloc (.cells #[.string ⟨nm.toArray⟩, .slice va al.length vc, .slice none 0 0, .string ⟨#[]⟩] 42)) w' → RPost bb F (Value.slice va al.length vc).ownBlock.toList (rowR E st nm al).1 (rowR E st nm al).2 w w') := fun w' hp => hp.before hkx
  have hnn : nm ≠ [] := by rcases hn with rfl | rfl <;> decide
  have hmem : ∀ p : List UInt8 → Bool, (lastIdx p st + 1).toNat ≤ st.length := fun p => by have := lastIdx_lt p st; omega
  have hcl : ∀ p, Fits E (closeE E st p, st.take p) 12 := fun p => fits_close hst p
  go_enter Tryz.func149, Tryz.ntmps149
  go_upto_region 1 with fail
  generalize w.alloc (.cells #[.string ⟨nm.toArray⟩, .slice va al.length vc, .slice none 0 0, .string ⟨#[]⟩] 42) = w1 at *
  generalize w.heap.size = xb at *
  clear h ha hkx
  obtain ⟨⟨q0, q1, q2, q3⟩, _⟩ := cells4 hnx
  go_wp2_with fail
  refine (rLast bb F E st ⟨#[116, 97, 98, 108, 101]⟩ 0 _ h1 hst).mono ?_
  rintro e w2 ⟨rfl, rfl⟩
  have hT : lastR st (⟨#[116, 97, 98, 108, 101]⟩ : ByteArray).data.toList ((0 : Nat) : Int) = if 0 < tableI st + 1 then tableI st + 1 else -1 := rfl
  rw [hT]
  clear hT
  have htg := lastIdx_ge (fun m => m == [116, 97, 98, 108, 101]) st
  have htg' : -1 ≤ tableI st := htg
  clear htg
  by_cases ht0 : 0 < tableI st + 1
  · rw [if_pos ht0]
    obtain ⟨T, hT⟩ : ∃ T : Nat, tableI st + 1 = (T : Int) := ⟨(tableI st + 1).toNat, by omega⟩
    have hTl : T ≤ st.length := by have := hmem (fun m => m == [116, 97, 98, 108, 101]); have e : (lastIdx (fun m => m == [116, 97, 98, 108, 101]) st) = tableI st := rfl; omega
    rw [hT]
    have hT0 : ((T : Int) < 0) = False := eq_false (by omega)
    have HT : Hid _ := hT
    have HROW : Hid (∀ al', rowP E st al' = pushP (closeE E st T) (st.take T) [116, 114] al') := fun al' => by
      unfold rowP
      have e : lastIdx (fun m => m == [116, 97, 98, 108, 101]) st = tableI st := rfl
      rw [e, if_neg (by omega), hT]
      rfl
    have HCELL : Hid (cellP E st al = pushP (cellAhead E st).1 (cellAhead E st).2 [116, 100] al) := by
      show _ = _
      unfold cellP
      rw [if_neg (by omega)]
    go_wp2_with fail
    refine (rLast bb F E st ⟨#[116, 114]⟩ T _ h1 hst).mono ?_
    rintro e w3 ⟨rfl, rfl⟩
    have hR : lastR st (⟨#[116, 114]⟩ : ByteArray).data.toList (T : Int) = if (T : Int) < trI st + 1 then trI st + 1 else -1 := rfl
    rw [hR]
    clear hR
    obtain ⟨f1, f2, f3⟩ := hcl T
    have hclose := rCloseTo bb T F E st w3 h1 hTl hst (by omega) (by omega)
    rcases hn with rfl | rfl
    · have HE : Hid (rowR E st [116, 114] al = pushP (closeE E st T) (st.take T) [116, 114] al) := by
        show _ = _
        unfold rowR
        rw [if_pos rfl, HROW.out]
      generalize (if (T : Int) < trI st + 1 then trI st + 1 else -1) = tr at *
      go_wp2_with fail
      refine hclose.mono ?_
      rintro e w4 ⟨rfl, F4, hb4, hk4, hg4⟩
      obtain ⟨hx4, hxF4⟩ := keep4 hnx hxF hk4 (grow_nil hg4)
      obtain ⟨ha4, haf4⟩ := keepA ha1 haf hk4 (grow_nil hg4)
      clear q0 q1 q2 q3
      obtain ⟨⟨q0, q1, q2, q3⟩, _⟩ := cells4 hx4
      go_wp2_with fail
      refine (rPushAny bb F4 _ _ [116, 114] va vc al _ hb4 ha4 (by decide) haf4 f1).mono ?_
      rintro e w5 ⟨rfl, hp5⟩
      go_wp2_with fail
      go_end0
      refine ⟨rfl, HGOAL.out _ ?_⟩
      rw [HE.out]
      exact RPost.then hk4 (grow_nil hg4) hp5
    · have HE : Hid (rowR E st [116, 100] al = cellP E st al) := by
        show _ = _
        unfold rowR
        rw [if_neg (by decide)]
      by_cases htr : (T : Int) < trI st + 1
      · rw [if_pos htr]
        obtain ⟨R, hR⟩ : ∃ R : Nat, trI st + 1 = (R : Int) := ⟨(trI st + 1).toNat, by omega⟩
        have hRl : R ≤ st.length := by have := hmem (fun m => m == [116, 114]); have e : (lastIdx (fun m => m == [116, 114]) st) = trI st := rfl; omega
        rw [hR]
        obtain ⟨r1, r2, r3⟩ := hcl R
        have HA : Hid (cellAhead E st = (closeE E st R, st.take R)) := by
          show _ = _
          unfold cellAhead
          rw [if_pos (by omega), hR]
          rfl
        have hcl2 := rCloseTo bb R F E st w3 h1 hRl hst (by omega) (by omega)
        have hR0 : (0 : Int) ≤ (R : Int) := by omega
        have hR1 : ((R : Int) < 0) = False := eq_false (by omega)
        clear hclose hR
        go_wp2_with fail
        refine hcl2.mono ?_
        rintro e w4 ⟨rfl, F4, hb4, hk4, hg4⟩
        obtain ⟨hx4, hxF4⟩ := keep4 hnx hxF hk4 (grow_nil hg4)
        obtain ⟨ha4, haf4⟩ := keepA ha1 haf hk4 (grow_nil hg4)
        clear q0 q1 q2 q3
        obtain ⟨⟨q0, q1, q2, q3⟩, _⟩ := cells4 hx4
        go_wp2_with fail
        refine (rPushAny bb F4 _ _ [116, 100] va vc al _ hb4 ha4 (by decide) haf4 r1).mono ?_
        rintro e w5 ⟨rfl, hp5⟩
        go_wp2_with fail
        go_end0
        refine ⟨rfl, HGOAL.out _ ?_⟩
        rw [HE.out, HCELL.out, HA.out]
        exact RPost.then hk4 (grow_nil hg4) hp5
      · rw [if_neg htr]
        have HA : Hid (cellAhead E st = pushP (closeE E st T) (st.take T) [116, 114] []) := by
          show _ = _
          unfold cellAhead
          rw [if_neg (by omega), HROW.out]
        go_wp2_with fail
        refine hclose.mono ?_
        rintro e w4 ⟨rfl, F4, hb4, hk4, hg4⟩
        obtain ⟨hx4, hxF4⟩ := keep4 hnx hxF hk4 (grow_nil hg4)
        obtain ⟨ha4, haf4⟩ := keepA ha1 haf hk4 (grow_nil hg4)
        clear q0 q1 q2 q3
        obtain ⟨⟨q0, q1, q2, q3⟩, _⟩ := cells4 hx4
        go_wp2_with fail
        refine (rPushAny bb F4 _ _ [116, 114] none 0 [] _ hb4 (nilA _) (by decide) (nilAf _) f1).mono ?_
        rintro e w5 ⟨rfl, F5, hb5, hk5, hg5⟩
        have hg5' : Grow F4 w4 F5 := grow_nil hg5
        obtain ⟨hx5, hxF5⟩ := keep4 hx4 hxF4 hk5 hg5'
        obtain ⟨ha5, haf5⟩ := keepA ha4 haf4 hk5 hg5'
        clear q0 q1 q2 q3
        obtain ⟨⟨q0, q1, q2, q3⟩, _⟩ := cells4 hx5
        have hf5 := fits_push (E := closeE E st T) (st := st.take T) f1 [116, 114] []
        go_wp2_with fail
        refine (rPushAny bb F5 _ _ [116, 100] va vc al _ hb5 ha5 (by decide) haf5 hf5.1).mono ?_
        rintro e w6 ⟨rfl, hp6⟩
        go_wp2_with fail
        go_end0
        refine ⟨rfl, HGOAL.out _ ?_⟩
        rw [HE.out, HCELL.out, HA.out]
        exact RPost.then hk4 (grow_nil hg4) (RPost.then hk5 hg5' hp6)
  · rw [if_neg ht0]
    have HE : Hid (rowR E st nm al = (E, st)) := by
      show _ = _
      have e : lastIdx (fun m => m == [116, 97, 98, 108, 101]) st = tableI st := rfl
      have ht : tableI st = -1 := by omega
      unfold rowR rowP cellP
      rw [e, ht]
      simp
    go_wp2_with fail
    refine bodyPost_ret (v := .tuple #[]) (by simp [results, Tryz.results149, go_sem]) rfl ?_
    refine ⟨rfl, HGOAL.out _ ?_⟩
    rw [HE.out]
    exact RPost.here h1 (Kept.refl _ _)
end Go.Proofs.YtlpmjpmefdpcmaaGreatDoor
/- The reference's builder: a cell that opens by itself; ends. -/
namespace Go.Proofs.YtlpmjpmefdpcmaaGreatDoor
open Go.RowKit Scrub Go.Shelf
theorem openP_top (E : List Ev) (st : List (List UInt8)) : openP E st = if (topP st == [116, 97, 98, 108, 101] || topP st == [116, 114]) = true then rowR E st [116, 100] [] else (E, st) := by
  have e : rowR E st [116, 100] [] = cellP E st [] := by unfold rowR; rw [if_neg (by decide)]
  rw [e]
  unfold openP topP
  by_cases hs : st = []
  · subst hs
    simp
  · have hh : holdsP (st.getD (st.length - 1) []) = (st.getD (st.length - 1) [] == [116, 97, 98, 108, 101] || st.getD (st.length - 1) [] == [116, 114]) := by
      unfold holdsP
      rw [Bool.eq_iff_iff]
      simp
    rw [if_neg hs, hh]
    simp [hs]
set_option maxRecDepth 100000 in
set_option maxHeartbeats 2000000 in
theorem rCell (bb : Nat) (F : List Nat) (E : List Ev) (st : List (List UInt8)) (w : World) (h : RBld w bb F E st) (hst : st.length ≤ 12) (hEl : E.length ≤ 1099511625000) (hsz : evSize E ≤ 1099511625000) :
    Calls Tryz.prog 88 #[.pointer (some ⟨bb, 0, none⟩)] w
      fun e w' => e = .returned (.tuple #[]) ∧ RPost bb F [] (openP E st).1 (openP E st).2 w w' := by
  obtain ⟨O, hO⟩ : ∃ O, openP E st = O := ⟨_, rfl⟩
  rw [hO]
  rw [openP_top] at hO
  have HP : Hid (∀ w', Kept [] w w' → Calls Tryz.prog 149 #[.pointer (some ⟨bb, 0, none⟩), .agg #[.string ⟨#[116, 100]⟩, .slice none 0 0, .slice none 0 0, .string ⟨#[]⟩]] w' fun e w2 => e = .returned (.tuple #[]) ∧ RPost bb F [] (rowR E st [116, 100] []).1 (rowR E st [116, 100] []).2 w' w2) := fun w' hk => rRow bb F E st [116, 100] none 0 [] w' (h.kept hk (by simp)) (nilA _) (.inr rfl) (nilAf _) hst hEl hsz
  have HT := rTop bb F E st w h hst
  generalize topP st = tp at *
  go_enter Tryz.func88, Tryz.ntmps88
  go_wp2_with fail
  refine HT.mono ?_
  rintro e w1 ⟨rfl, hk1⟩
  generalize hb1 : (tp == [116, 97, 98, 108, 101]) = b1
  generalize hb2 : (tp == [116, 114]) = b2
  rw [hb1, hb2] at hO
  have HO : Hid _ := hO
  clear hO
  cases b1 <;> cases b2
  · go_wp2_with fail
    go_end0
    have hO : (E, st) = O := HO.out
    rw [← hO]
    exact ⟨rfl, RPost.here h hk1⟩
  all_goals
    have hO : rowR E st [116, 100] [] = O := HO.out
    rw [hO] at HP
    clear hO
    go_wp2_with fail
    refine (HP.out _ hk1).mono ?_
    rintro e w2 ⟨rfl, hp2⟩
    go_wp2_with fail
    go_end0
    exact ⟨rfl, RPost.before hk1 hp2⟩
/-- The last place of a name, none: -1. -/
theorem lastR_zero (st : List (List UInt8)) (nm : List UInt8) : lastR st nm 0 = if lastIdx (fun m => m == nm) st = -1 then -1 else lastIdx (fun m => m == nm) st + 1 := by
  have := lastIdx_ge (fun m => m == nm) st
  unfold lastR
  by_cases h : lastIdx (fun m => m == nm) st = -1
  · rw [if_pos h, if_neg (by omega)]
  · rw [if_neg h, if_pos (by omega)]
theorem lastIdx_at (p : List UInt8 → Bool) : ∀ (l : List (List UInt8)) (j : Nat), lastIdx p l = (j : Int) → ∃ h : j < l.length, p l[j] = true
  | [], j, h => by simp [lastIdx] at h
  | a :: t, j, h => by
    unfold lastIdx at h
    split at h
    · split at h
      · rename_i hp
        have : j = 0 := by omega
        subst this
        exact ⟨by simp, hp⟩
      · omega
    · obtain ⟨j', rfl⟩ : ∃ j', j = j' + 1 := by
        have h1 := lastIdx_ge p t
        exact ⟨j - 1, by omega⟩
      have hj : lastIdx p t = (j' : Int) := by push_cast at h; omega
      obtain ⟨h1, h2⟩ := lastIdx_at p t j' hj
      exact ⟨by simp; omega, by simpa using h2⟩
set_option maxRecDepth 100000 in
set_option maxHeartbeats 4000000 in
theorem rEnd (bb : Nat) (F : List Nat) (E : List Ev) (st : List (List UInt8)) (nm : ByteArray) (w : World) (h : RBld w bb F E st) (hst : st.length ≤ 12) (hEl : E.length ≤ 1099511625000) (hsz : evSize E ≤ 1099511625000) :
    Calls Tryz.prog 91 #[.pointer (some ⟨bb, 0, none⟩), .string nm] w
      fun e w' => e = .returned (.tuple #[]) ∧ RPost bb F [] (endE E st nm.data.toList).1 (endE E st nm.data.toList).2 w w' := by
  have HL1 : Hid (Calls Tryz.prog 151 #[.pointer (some ⟨bb, 0, none⟩), .string nm, .int .i64 0] w fun e w' => e = .returned (.int .i64 (lastR st nm.data.toList 0)) ∧ w' = w) := rLast bb F E st nm 0 w h hst
  have HL2 : Hid (Calls Tryz.prog 151 #[.pointer (some ⟨bb, 0, none⟩), .string ⟨#[116, 100]⟩, .int .i64 0] w fun e w' => e = .returned (.int .i64 (lastR st [116, 100] 0)) ∧ w' = w) := rLast bb F E st ⟨#[116, 100]⟩ 0 w h hst
  have e1 := lastR_zero st nm.data.toList
  have e2 := lastR_zero st [116, 100]
  rw [← limit_td] at e2
  have hlt := lastIdx_lt (fun m => m == nm.data.toList) st
  have hge := lastIdx_ge (fun m => m == nm.data.toList) st
  have hge2 : -1 ≤ limitP st := by rw [limit_td]; exact lastIdx_ge _ st
  generalize hb1 : (nm.data.toList == [116, 114]) = b1
  generalize hb2 : (nm.data.toList == [116, 97, 98, 108, 101]) = b2
  generalize hb3 : (nm.data.toList == [116, 100]) = b3
  have htd : b3 = true → lastIdx (fun m => m == nm.data.toList) st = limitP st := fun hb => by
    rw [hb, beq_iff_eq] at hb3
    rw [hb3, limit_td]
  have hdif : b3 = false → lastIdx (fun m => m == nm.data.toList) st ≠ -1 → lastIdx (fun m => m == nm.data.toList) st ≠ limitP st := fun hb h1 h2 => by
    obtain ⟨j, hj⟩ : ∃ j : Nat, lastIdx (fun m => m == nm.data.toList) st = j := ⟨(lastIdx (fun m => m == nm.data.toList) st).toNat, by omega⟩
    obtain ⟨_, a2⟩ := lastIdx_at _ st j hj
    obtain ⟨_, c2⟩ := lastIdx_at _ st j (by rw [← limit_td, ← h2, hj])
    simp only [beq_iff_eq] at a2 c2
    rw [← a2, c2, hb] at hb3
    simp at hb3
  have HDIF : Hid _ := hdif
  clear hdif
  have hol : holdsP nm.data.toList = (b1 || b2) := by
    unfold holdsP
    rw [← hb1, ← hb2, Bool.eq_iff_iff]
    simp
    exact or_comm
  have HEE : Hid (endE E st nm.data.toList = if lastIdx (fun m => m == nm.data.toList) st = -1 ∨ (lastIdx (fun m => m == nm.data.toList) st < limitP st ∧ (b1 || b2) = false) then (E, st) else (closeE E st (lastIdx (fun m => m == nm.data.toList) st).toNat, st.take (lastIdx (fun m => m == nm.data.toList) st).toNat)) := by
    show _ = _
    unfold endE
    rw [hol]
  rw [e1] at HL1
  rw [e2] at HL2
  have hc1 : (nm.toList == [116, 114]) = b1 := by rw [Go.ByteArray.toList_eq]; exact hb1
  have hc2 : (nm.toList == [116, 97, 98, 108, 101]) = b2 := by rw [Go.ByteArray.toList_eq]; exact hb2
  have hc3 : (nm.toList == [116, 100]) = b3 := by rw [Go.ByteArray.toList_eq]; exact hb3
  have hcl : ∀ p : Nat, p ≤ st.length → Calls Tryz.prog 92 #[.pointer (some ⟨bb, 0, none⟩), .int .i64 ((p : Int) + 1)] w fun e w' => e = .returned (.tuple #[]) ∧ RPost bb F [] (closeE E st p) (st.take p) w w' := fun p hp => rCloseTo bb p F E st w h hp hst (by omega) (by omega)
  have HCL : Hid _ := hcl
  clear hcl e1 e2
  generalize lastIdx (fun m => m == nm.data.toList) st = x at *
  generalize limitP st = l at *
  clear hol hb1 hb2 hb3
  obtain ⟨X, hX⟩ : ∃ X, (if x = -1 then -1 else x + 1) = X := ⟨_, rfl⟩
  obtain ⟨tl, htl⟩ : ∃ tl, (if l = -1 then -1 else l + 1) = tl := ⟨_, rfl⟩
  rw [hX] at HL1
  rw [htl] at HL2
  have HX : Hid _ := hX
  have HTL : Hid _ := htl
  clear hX htl
  go_enter Tryz.func91, Tryz.ntmps91
  go_wp2_with fail
  refine HL1.out.mono ?_
  rintro e w1 ⟨rfl, rfl⟩
  go_wp2_with fail
  refine HL2.out.mono ?_
  rintro e w2 ⟨rfl, rfl⟩
  by_cases hx : x = -1
  · have hX1 := HX.out
    rw [if_pos hx] at hX1
    subst hX1
    have HE : Hid (endE E st nm.data.toList = (E, st)) := by show _ = _; rw [HEE.out, if_pos (.inl hx)]
    clear HEE
    clear HX hx htd hlt hge
    cases b1 <;> cases b2 <;> cases b3
    all_goals
      go_wp2_with fail
      go_end0
      rw [HE.out]
      exact ⟨rfl, RPost.here h (Kept.refl _ _)⟩
  · have hX1 := HX.out
    rw [if_neg hx] at hX1
    subst hX1
    obtain ⟨p, rfl⟩ : ∃ p : Nat, x = (p : Int) := ⟨x.toNat, by omega⟩
    have hcl := HCL.out p (by omega)
    have hp0 : (0 : Int) < (p : Int) + 1 := by omega
    have HT : Hid ((p : Int).toNat = p) := by show _ = _; omega
    have htl := HTL.out
    by_cases hc : (b1 || b2 || b3) = true ∨ tl < (p : Int) + 1
    · have HE : Hid (endE E st nm.data.toList = (closeE E st p, st.take p)) := by
        show _ = _
        rw [HEE.out, if_neg, HT.out]
        rintro (hh | ⟨hh, hh2⟩)
        · exact hx hh
        · rcases hc with hc | hc
          · have : b3 = true := by revert hh2 hc; cases b1 <;> cases b2 <;> cases b3 <;> decide
            have := htd this
            omega
          · rw [← htl] at hc
            split at hc <;> omega
      clear HEE htd htl
      by_cases htp : tl < (p : Int) + 1
      · cases b1 <;> cases b2 <;> cases b3
        all_goals
          go_wp2_with fail
          refine hcl.mono ?_
          rintro e w3 ⟨rfl, hp3⟩
          go_wp2_with fail
          go_end0
          rw [HE.out]
          exact ⟨rfl, hp3⟩
      · have htp' : (tl < (p : Int) + 1) = False := eq_false htp
        have hbb : (b1 || b2 || b3) = true := by
          rcases hc with hc | hc
          · exact hc
          · exact absurd hc htp
        clear hc htp
        cases b1 <;> cases b2 <;> cases b3
        · cases hbb
        all_goals
          go_wp2_with fail
          refine hcl.mono ?_
          rintro e w3 ⟨rfl, hp3⟩
          go_wp2_with fail
          go_end0
          rw [HE.out]
          exact ⟨rfl, hp3⟩
    · have hb0 : b1 = false ∧ b2 = false ∧ b3 = false := by
        have : ¬ (b1 || b2 || b3) = true := fun hh => hc (.inl hh)
        revert this
        cases b1 <;> cases b2 <;> cases b3 <;> decide
      obtain ⟨rfl, rfl, rfl⟩ := hb0
      have htp' : (tl < (p : Int) + 1) = False := eq_false (fun hh => hc (.inr hh))
      have htp2 : ¬ tl < (p : Int) + 1 := fun hh => hc (.inr hh)
      have HE : Hid (endE E st nm.data.toList = (E, st)) := by
        show _ = _
        have hpl : (p : Int) < l := by
          have hd := HDIF.out rfl hx
          rw [← htl] at htp2
          split at htp2 <;> omega
        rw [HEE.out, if_pos (.inr ⟨hpl, rfl⟩)]
      clear HEE htd htl hc htp2
      go_wp2_with fail
      go_end0
      rw [HE.out]
      exact ⟨rfl, RPost.here h (Kept.refl _ _)⟩
end Go.Proofs.YtlpmjpmefdpcmaaGreatDoor
