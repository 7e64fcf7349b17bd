import Derived.Test.YtlpmjpmefdpcmaaGreatDoorQTree1
import Derived.Test.YtlpmjpmefdpcmaaGreatDoorQTree3
namespace Go.Proofs.YtlpmjpmefdpcmaaGreatDoor
open Go.RowKit Scrub Go.Shelf
def holdsP (n : List UInt8) : Bool := decide (n = [116, 97, 98, 108, 101]) || decide (n = [116, 114])
set_option maxHeartbeats 400000 in
theorem holdsCells_any (s : ByteArray) (w : World) :
    Calls Tryz.prog 123 #[.string s] w fun e w' => e = .returned (.bool (holdsP s.data.toList)) ∧ w' = w := by
  go_enter Tryz.func123, Tryz.ntmps123
  go_wp2
  all_goals
    go_ret
    refine ⟨ret_bool ?_, rfl⟩
    simp only [Go.ByteArray.toList_eq] at *
    rw [Bool.eq_iff_iff]
    simp [holdsP, *]
set_option maxHeartbeats 400000 in
theorem named1_any (s nm : ByteArray) (cb : Nat) (w : World) (hc : w.cell? ⟨cb, 0, none⟩ = some (.string nm)) :
    Calls Tryz.prog 192 #[.string s, .pointer (some ⟨cb, 0, none⟩)] w fun e w' => e = .returned (.bool (s.data.toList == nm.data.toList)) ∧ w' = w := by
  go_enter Tryz.func192, Tryz.ntmps192
  go_wp2
  all_goals
    go_ret
    refine ⟨ret_bool ?_, rfl⟩
    simp [Go.ByteArray.toList_eq]
theorem enters_named1 (args : Array Value) (w : World) : (callFunc 192 args).run Tryz.prog w = .ok (.enter 192 args) w := enters_of Tryz.func192 (by kernel_rfl) rfl args w
set_option maxHeartbeats 1000000 in
theorem innermostNamed_any (bb : Nat) (F : List Nat) (E : List Ev) (st : List (List UInt8)) (nm : ByteArray) (w : World) (h : Bld w bb F E st) (hst : st.length ≤ 12) :
    Calls Tryz.prog 121 #[.pointer (some ⟨bb, 0, none⟩), .string nm] w
      fun e w' => e = .returned (.int .i64 (lastIdx (fun n => n == nm.data.toList) st)) ∧ Kept [] w w' := by
  go_enter Tryz.func121, Tryz.ntmps121
  go_wp2_with fail
  have hk : Kept [] w (w.alloc (.cells #[.string nm] 9)) := (Kept.refl _ _).alloc _
  have hcell : (w.alloc (.cells #[.string nm] 9)).cell? ⟨w.heap.size, 0, none⟩ = some (.string nm) := by
    have := World.cell?_alloc_mark w #[.string nm] 9 (0, 0) 0
    exact this.trans rfl
  refine (innermost_any bb F E st _ (h.kept hk (by simp)) hst _ #[.pointer (some ⟨w.heap.size, 0, none⟩)] (fun n => n == nm.data.toList) enters_named1 (fun s => named1_any s nm w.heap.size _ hcell)).mono ?_
  rintro e w1 ⟨rfl, rfl⟩
  go_wp2_with fail
  go_ret
  exact ⟨rfl, hk⟩
/-- The place of the innermost td; -1: none. -/
def limitP (st : List (List UInt8)) : Int := lastIdx (fun n => kindP n == 4) st
set_option maxHeartbeats 400000 in
theorem limit1_any (s : ByteArray) (w : World) :
    Calls Tryz.prog 193 #[.string s] w fun e w' => e = .returned (.bool (kindP s.data.toList == 4)) ∧ w' = w := by
  go_enter Tryz.func193, Tryz.ntmps193
  go_wp2_with (go_at_call 169; refine (kindOf_any _ _).mono ?_; rintro e w' ⟨rfl, rfl⟩)
  go_ret
  exact ⟨rfl, rfl⟩
theorem enters_limit1 (args : Array Value) (w : World) : (callFunc 193 args).run Tryz.prog w = .ok (.enter 193 args) w := enters_of Tryz.func193 (by kernel_rfl) rfl args w
set_option maxHeartbeats 1000000 in
theorem limit_any (bb : Nat) (F : List Nat) (E : List Ev) (st : List (List UInt8)) (w : World) (h : Bld w bb F E st) (hst : st.length ≤ 12) :
    Calls Tryz.prog 122 #[.pointer (some ⟨bb, 0, none⟩)] w
      fun e w' => e = .returned (.int .i64 (limitP st)) ∧ w' = w := by
  go_enter Tryz.func122, Tryz.ntmps122
  go_wp2_with fail
  refine (innermost_any bb F E st _ h hst _ #[] (fun n => kindP n == 4) enters_limit1 (fun s => limit1_any s _)).mono ?_
  rintro e w1 ⟨rfl, rfl⟩
  go_wp2_with fail
  go_ret
  exact ⟨rfl, rfl⟩
/-- All is closed from a place on. -/
def closeE (E : List Ev) (st : List (List UInt8)) (p : Nat) : List Ev := E ++ List.replicate (st.length - p) none
/-- What a method of the builder leaves. -/
def BPost (bb : Nat) (F : List Nat) (w : World) (E' : List Ev) (st' : List (List UInt8)) (w' : World) : Prop := ∃ F', Bld w' bb F' E' st' ∧ Kept F w w' ∧ Grow F w F'
theorem BPost.here {bb : Nat} {F : List Nat} {w w' : World} {E : List Ev} {st : List (List UInt8)} (h : Bld w bb F E st) (hk : Kept [] w w') : BPost bb F w E st w' := ⟨F, h.kept hk (by simp), hk.mono (by simp), Grow.refl _ _⟩
theorem BPost.after {bb : Nat} {F : List Nat} {w w1 w' : World} {E' : List Ev} {st' : List (List UInt8)} (hk : Kept [] w w1) (h : BPost bb F w1 E' st' w') : BPost bb F w E' st' w' := by
  obtain ⟨F', h1, h2, h3⟩ := h
  refine ⟨F', h1, (hk.mono (by simp)).trans h2, fun k hk' => ?_⟩
  rcases h3 k hk' with h | h
  · exact .inl h
  · exact .inr (Nat.le_trans hk.size h)
/-- A p that is open, within the innermost td, is closed. -/
def paraP (E : List Ev) (st : List (List UInt8)) : List Ev × List (List UInt8) :=
  if limitP st < lastIdx (fun n => n == [112]) st then (closeE E st (lastIdx (fun n => n == [112]) st).toNat, st.take (lastIdx (fun n => n == [112]) st).toNat) else (E, st)
set_option maxHeartbeats 1000000 in
theorem closeParagraph_any (bb : Nat) (F : List Nat) (E : List Ev) (st : List (List UInt8)) (w : World) (h : Bld w bb F E st) (hst : st.length ≤ 12) (hEl : E.length ≤ 1099511627776) :
    Calls Tryz.prog 189 #[.pointer (some ⟨bb, 0, none⟩)] w
      fun e w' => e = .returned (.tuple #[]) ∧ BPost bb F w (paraP E st).1 (paraP E st).2 w' := by
  go_enter Tryz.func189, Tryz.ntmps189
  go_wp2_with fail
  refine (innermostNamed_any bb F E st ⟨#[112]⟩ _ h hst).mono ?_
  rintro e w1 ⟨rfl, hk1⟩
  have h1 := h.kept hk1 (by simp)
  have hp1 := lastIdx_ge (fun n => n == [112]) st
  have hp2 := lastIdx_lt (fun n => n == [112]) st
  have hl1 := lastIdx_ge (fun n => kindP n == 4) st
  have HPP : Hid (paraP E st = if limitP st < lastIdx (fun n => n == [112]) st then (closeE E st (lastIdx (fun n => n == [112]) st).toNat, st.take (lastIdx (fun n => n == [112]) st).toNat) else (E, st)) := rfl
  have e0 : lastIdx (fun n => n == (({ data := #[112] } : ByteArray).data.toList)) st = lastIdx (fun n => n == [112]) st := rfl
  rw [e0]
  clear e0
  have hlg : -1 ≤ limitP st := hl1
  generalize lastIdx (fun n => n == [112]) st = pl at *
  clear hl1
  by_cases hlt : limitP st < pl
  · obtain ⟨k, rfl⟩ : ∃ k : Nat, pl = (k : Int) := ⟨pl.toNat, by omega⟩
    have HP2 : Hid (paraP E st = (closeE E st k, st.take k)) := by show _ = _; rw [HPP.out, if_pos hlt]; rfl
    clear HPP
    go_wp2_with fail
    refine (limit_any bb F E st _ h1 hst).mono ?_
    rintro e w2 ⟨rfl, rfl⟩
    go_wp2_with fail
    refine (closeFrom_any bb k F E st _ h1 (by omega) hst hEl).mono ?_
    rintro e w3 ⟨rfl, hpost⟩
    go_wp2_with fail
    go_end0
    rw [HP2.out]
    exact ⟨rfl, BPost.after hk1 hpost⟩
  · have HP2 : Hid (paraP E st = (E, st)) := by show _ = _; rw [HPP.out, if_neg hlt]
    clear HPP
    go_wp2_with fail
    refine (limit_any bb F E st _ h1 hst).mono ?_
    rintro e w2 ⟨rfl, rfl⟩
    go_wp2_with fail
    go_end0
    rw [HP2.out]
    exact ⟨rfl, BPost.here h hk1⟩
/-- An end of a name. -/
def endE (E : List Ev) (st : List (List UInt8)) (n : List UInt8) : List Ev × List (List UInt8) :=
  if lastIdx (fun m => m == n) st = -1 ∨ (lastIdx (fun m => m == n) st < limitP st ∧ holdsP n = false) then (E, st)
  else (closeE E st (lastIdx (fun m => m == n) st).toNat, st.take (lastIdx (fun m => m == n) st).toNat)
set_option maxHeartbeats 1000000 in
theorem endB_any (bb : Nat) (F : List Nat) (E : List Ev) (st : List (List UInt8)) (nm : ByteArray) (w : World) (h : Bld w bb F E st) (hst : st.length ≤ 12) (hEl : E.length ≤ 1099511627776) :
    Calls Tryz.prog 80 #[.pointer (some ⟨bb, 0, none⟩), .string nm] w
      fun e w' => e = .returned (.tuple #[]) ∧ BPost bb F w (endE E st nm.data.toList).1 (endE E st nm.data.toList).2 w' := by
  go_enter Tryz.func80, Tryz.ntmps80
  go_wp2_with fail
  refine (innermostNamed_any bb F E st nm _ h hst).mono ?_
  rintro e w1 ⟨rfl, hk1⟩
  have h1 := h.kept hk1 (by simp)
  have hp1 := lastIdx_ge (fun m => m == nm.data.toList) st
  have hp2 := lastIdx_lt (fun m => m == nm.data.toList) st
  have HPP : Hid (endE E st nm.data.toList = if lastIdx (fun m => m == nm.data.toList) st = -1 ∨ (lastIdx (fun m => m == nm.data.toList) st < limitP st ∧ holdsP nm.data.toList = false) then (E, st)
    else (closeE E st (lastIdx (fun m => m == nm.data.toList) st).toNat, st.take (lastIdx (fun m => m == nm.data.toList) st).toNat)) := rfl
  generalize lastIdx (fun m => m == nm.data.toList) st = pl at *
  by_cases hm1 : pl = -1
  · subst hm1
    have HP2 : Hid (endE E st nm.data.toList = (E, st)) := by show _ = _; rw [HPP.out, if_pos (.inl rfl)]
    clear HPP
    go_wp2_with fail
    refine bodyPost_ret (v := .tuple #[]) (by simp [results, Tryz.results80, go_sem]) rfl ?_
    rw [HP2.out]
    exact ⟨rfl, BPost.here h hk1⟩
  · have hne : (pl == -1) = false := by rw [beq_eq_false_iff_ne]; exact hm1
    obtain ⟨k, rfl⟩ : ∃ k : Nat, pl = (k : Int) := ⟨pl.toNat, by omega⟩
    by_cases hlt : (k : Int) < limitP st
    · cases hh : holdsP nm.data.toList with
      | false =>
        have HP2 : Hid (endE E st nm.data.toList = (E, st)) := by show _ = _; rw [HPP.out, if_pos (.inr ⟨hlt, hh⟩)]
        clear HPP
        go_wp2_with fail
        refine (limit_any bb F E st _ h1 hst).mono ?_
        rintro e w2 ⟨rfl, rfl⟩
        go_wp2_with fail
        refine (holdsCells_any nm _).mono ?_
        rintro e w2 ⟨rfl, rfl⟩
        rw [hh]
        go_wp2_with fail
        refine bodyPost_ret (v := .tuple #[]) (by simp [results, Tryz.results80, go_sem]) rfl ?_
        rw [HP2.out]
        exact ⟨rfl, BPost.here h hk1⟩
      | true =>
        have HP2 : Hid (endE E st nm.data.toList = (closeE E st k, st.take k)) := by show _ = _; rw [HPP.out, if_neg (by simp [hh])]; rfl
        clear HPP
        go_wp2_with fail
        refine (limit_any bb F E st _ h1 hst).mono ?_
        rintro e w2 ⟨rfl, rfl⟩
        go_wp2_with fail
        refine (holdsCells_any nm _).mono ?_
        rintro e w2 ⟨rfl, rfl⟩
        rw [hh]
        go_wp2_with fail
        refine (closeFrom_any bb k F E st _ h1 (by omega) hst hEl).mono ?_
        rintro e w3 ⟨rfl, hpost⟩
        go_wp2_with fail
        go_end0
        rw [HP2.out]
        exact ⟨rfl, BPost.after hk1 hpost⟩
    · have HP2 : Hid (endE E st nm.data.toList = (closeE E st k, st.take k)) := by show _ = _; rw [HPP.out, if_neg (by omega)]; rfl
      clear HPP
      go_wp2_with fail
      refine (limit_any bb F E st _ h1 hst).mono ?_
      rintro e w2 ⟨rfl, rfl⟩
      go_wp2_with fail
      refine (closeFrom_any bb k F E st _ h1 (by omega) hst hEl).mono ?_
      rintro e w3 ⟨rfl, hpost⟩
      go_wp2_with fail
      go_end0
      rw [HP2.out]
      exact ⟨rfl, BPost.after hk1 hpost⟩
end Go.Proofs.YtlpmjpmefdpcmaaGreatDoor
namespace Go.Proofs.YtlpmjpmefdpcmaaGreatDoor
open Go.RowKit Scrub Go.Shelf
def itemB (n : List UInt8) : Bool := decide (n = [108, 105]) || decide (n = [117, 108])
set_option maxHeartbeats 400000 in
theorem item1_any (s : ByteArray) (w : World) :
    Calls Tryz.prog 221 #[.string s] w fun e w' => e = .returned (.bool (itemB s.data.toList)) ∧ w' = w := by
  go_enter Tryz.func221, Tryz.ntmps221
  go_wp2
  all_goals
    go_ret
    refine ⟨ret_bool ?_, rfl⟩
    simp only [Go.ByteArray.toList_eq] at *
    rw [Bool.eq_iff_iff]
    simp [itemB, *]
theorem enters_item1 (args : Array Value) (w : World) : (callFunc 221 args).run Tryz.prog w = .ok (.enter 221 args) w := enters_of Tryz.func221 (by kernel_rfl) rfl args w
/-- An li that is open, within the innermost td and ul, is closed. -/
def itemP (E : List Ev) (st : List (List UInt8)) : List Ev × List (List UInt8) :=
  if limitP st < lastIdx itemB st ∧ st.getD (lastIdx itemB st).toNat [] = [108, 105] then (closeE E st (lastIdx itemB st).toNat, st.take (lastIdx itemB st).toNat) else (E, st)
set_option maxHeartbeats 1000000 in
theorem closeItem_any (bb : Nat) (F : List Nat) (E : List Ev) (st : List (List UInt8)) (w : World) (h : Bld w bb F E st) (hst : st.length ≤ 12) (hEl : E.length ≤ 1099511627776) :
    Calls Tryz.prog 190 #[.pointer (some ⟨bb, 0, none⟩)] w
      fun e w' => e = .returned (.tuple #[]) ∧ BPost bb F w (itemP E st).1 (itemP E st).2 w' := by
  go_enter Tryz.func190, Tryz.ntmps190
  go_wp2_with fail
  refine (innermost_any bb F E st _ h hst _ #[] itemB enters_item1 (fun s => item1_any s _)).mono ?_
  rintro e w1 ⟨rfl, rfl⟩
  have hp1 := lastIdx_ge itemB st
  have hp2 := lastIdx_lt itemB st
  have hlg : -1 ≤ limitP st := lastIdx_ge (fun n => kindP n == 4) st
  have HPP : Hid (itemP E st = if limitP st < lastIdx itemB st ∧ st.getD (lastIdx itemB st).toNat [] = [108, 105] then (closeE E st (lastIdx itemB st).toNat, st.take (lastIdx itemB st).toNat) else (E, st)) := rfl
  generalize lastIdx itemB st = pl at *
  by_cases hlt : limitP st < pl
  · obtain ⟨k, rfl⟩ : ∃ k : Nat, pl = (k : Int) := ⟨pl.toNat, by omega⟩
    have hks : k < st.length := by omega
    have hb := h
    obtain ⟨tv, ov, ts, os, hb, hE, hS⟩ := hb
    have hko : k < os.length := by rw [hS] at hks; simpa using hks
    have hown := hb.2.2.1.1
    obtain ⟨c0, c1, c2, c3⟩ := hb.cells
    rcases hown.2 with ⟨_, h0⟩ | ⟨g, cap, cur, hv, _⟩
    · omega
    subst hv
    have r0 := row_cell hown (cellsOf_get os k hko).1
    have hnm : st.getD k [] = os[k].name := by
      rw [hS]
      simp [List.getD, hko]
    have HNM : Hid (st.getD k [] = os[k].name) := hnm
    have hb1 : (0 : Int) ≤ (k : Int) := by omega
    have hb2 : (k : Int) < (os.length : Int) := by omega
    clear hE hS hnm hown
    by_cases hli : os[k].name = [108, 105]
    · have HP2 : Hid (itemP E st = (closeE E st k, st.take k)) := by show _ = _; rw [HPP.out, if_pos ⟨hlt, by show st.getD k [] = _; rw [HNM.out]; exact hli⟩]; rfl
      clear HPP
      have hlb : (os[k].name == [108, 105]) = true := by simpa using hli
      go_wp2_with fail
      refine (limit_any bb F E st _ h hst).mono ?_
      rintro e w2 ⟨rfl, rfl⟩
      go_wp2_with fail
      refine (closeFrom_any bb k F E st _ h (by omega) hst hEl).mono ?_
      rintro e w3 ⟨rfl, hpost⟩
      go_wp2_with fail
      go_end0
      rw [HP2.out]
      exact ⟨rfl, hpost⟩
    · have HP2 : Hid (itemP E st = (E, st)) := by show _ = _; rw [HPP.out, if_neg (fun hc => hli (by rw [← HNM.out]; exact hc.2))]
      clear HPP
      have hlb : (os[k].name == [108, 105]) = false := by simpa using hli
      go_wp2_with fail
      refine (limit_any bb F E st _ h hst).mono ?_
      rintro e w2 ⟨rfl, rfl⟩
      go_wp2_with fail
      go_end0
      rw [HP2.out]
      exact ⟨rfl, BPost.here h (Kept.refl _ _)⟩
  · have HP2 : Hid (itemP E st = (E, st)) := by show _ = _; rw [HPP.out, if_neg (fun hc => hlt hc.1)]
    clear HPP
    go_wp2_with fail
    refine (limit_any bb F E st _ h hst).mono ?_
    rintro e w2 ⟨rfl, rfl⟩
    go_wp2_with fail
    go_end0
    rw [HP2.out]
    exact ⟨rfl, BPost.here h (Kept.refl _ _)⟩
end Go.Proofs.YtlpmjpmefdpcmaaGreatDoor
namespace Go.Proofs.YtlpmjpmefdpcmaaGreatDoor
open Go.RowKit Scrub Go.Shelf
/-- An element is opened, if it may be. -/
def pushP (E : List Ev) (st : List (List UInt8)) (n : List UInt8) (al : List (List UInt8 × List UInt8)) : List Ev × List (List UInt8) :=
  if st.length < 12 then (E ++ [evOpen n al], st ++ [n]) else (E, st)
/-- What a method leaves that is handed a row of attributes. -/
def APost (bb : Nat) (F : List Nat) (av : Value) (w : World) (o : List Ev × List (List UInt8)) (w' : World) : Prop := ∃ F', Bld w' bb F' o.1 o.2 ∧ Kept F w w' ∧ Grow (F ++ av.ownBlock.toList) w F'
theorem APost.of {bb : Nat} {F : List Nat} {av : Value} {w w' : World} {o : List Ev × List (List UInt8)} (h : BPost bb F w o.1 o.2 w') : APost bb F av w o w' := by
  obtain ⟨F', h1, h2, h3⟩ := h
  refine ⟨F', h1, h2, fun k hk => ?_⟩
  rcases h3 k hk with h | h
  · exact .inl (List.mem_append.2 (.inl h))
  · exact .inr h
/-- Behind what leaves the builder and the attributes' row. -/
theorem APost.after {bb : Nat} {F F1 : List Nat} {av : Value} {w w1 w' : World} {o : List Ev × List (List UInt8)} (hk : Kept F w w1) (hg : Grow F w F1) (h : APost bb F1 av w1 o w') : APost bb F av w o w' := by
  obtain ⟨F', h1, h2, h3⟩ := h
  refine ⟨F', h1, hk.trans_new h2 (fun i hi => hg i hi), fun k hk' => ?_⟩
  rcases h3 k hk' with h | h
  · rcases List.mem_append.1 h with h | h
    · rcases hg k h with h | h
      · exact .inl (List.mem_append.2 (.inl h))
      · exact .inr h
    · exact .inl (List.mem_append.2 (.inr h))
  · exact .inr (Nat.le_trans hk.size h)
theorem ba_eta (nm : ByteArray) : (⟨nm.data.toList.toArray⟩ : ByteArray) = nm := by cases nm; simp
theorem pushB_any (bb : Nat) (F : List Nat) (E : List Ev) (st : List (List UInt8)) (nm : ByteArray) (av : Value) (al : List (List UInt8 × List UInt8)) (w : World) (h : Bld w bb F E st) (ha : AOwn w av al) (hn : nm.data.toList ≠ []) (haf : ∀ k, av.ownBlock = some k → k ∉ F) :
    Calls Tryz.prog 188 #[.pointer (some ⟨bb, 0, none⟩), .agg #[.string nm, av, .slice none 0 0, .string ⟨#[]⟩]] w
      fun e w' => e = .returned (.bool (decide (st.length < 12))) ∧ APost bb F av w (pushP E st nm.data.toList al) w' := by
  by_cases hl : st.length < 12
  · have h1 := push_any bb F E st nm.data.toList av al w h ha hn haf hl
    rw [ba_eta] at h1
    refine h1.mono ?_
    rintro e w' ⟨rfl, hp⟩
    refine ⟨ret_bool (by simp [hl]), ?_⟩
    rw [pushP, if_pos hl]
    exact hp
  · refine (push_full bb F E st _ _ _ _ w h (by omega)).mono ?_
    rintro e w' ⟨rfl, hk⟩
    refine ⟨ret_bool (by simp [hl]), ?_⟩
    rw [pushP, if_neg hl]
    exact APost.of (BPost.here h hk)
/-- A start of a tr. -/
def rowP (E : List Ev) (st : List (List UInt8)) (al : List (List UInt8 × List UInt8)) : List Ev × List (List UInt8) :=
  if lastIdx (fun m => m == [116, 97, 98, 108, 101]) st = -1 then (E, st)
  else pushP (closeE E st (lastIdx (fun m => m == [116, 97, 98, 108, 101]) st + 1).toNat) (st.take (lastIdx (fun m => m == [116, 97, 98, 108, 101]) st + 1).toNat) [116, 114] al
theorem keepA {F F1 : List Nat} {av : Value} {al : List (List UInt8 × List UInt8)} {w w1 : World} (ha : AOwn w av al) (haf : ∀ k, av.ownBlock = some k → k ∉ F) (hk : Kept F w w1) (hg : Grow F w F1) : AOwn w1 av al ∧ ∀ k, av.ownBlock = some k → k ∉ F1 := by
  refine ⟨ownsRow_kept ha hk haf, fun k hk' hc => ?_⟩
  rcases hg k hc with h | h
  · exact haf k hk' h
  · have := (ha.lt k hk').2
    omega
set_option maxHeartbeats 1000000 in
theorem startRow_any (bb : Nat) (F : List Nat) (E : List Ev) (st : List (List UInt8)) (av : Value) (al : List (List UInt8 × List UInt8)) (w : World) (h : Bld w bb F E st) (ha : AOwn w av al) (haf : ∀ k, av.ownBlock = some k → k ∉ F) (hst : st.length ≤ 12) (hEl : E.length ≤ 1099511627776) :
    Calls Tryz.prog 118 #[.pointer (some ⟨bb, 0, none⟩), av] w
      fun e w' => e = .returned (.tuple #[]) ∧ APost bb F av w (rowP E st al) w' := by
  obtain ⟨va, vc, rfl⟩ := ownsRow_form ha
  go_enter Tryz.func118, Tryz.ntmps118
  go_wp2_with fail
  refine (innermostNamed_any bb F E st ⟨#[116, 97, 98, 108, 101]⟩ _ h hst).mono ?_
  rintro e w1 ⟨rfl, hk1⟩
  have h1 := h.kept hk1 (by simp)
  have hp1 := lastIdx_ge (fun m => m == [116, 97, 98, 108, 101]) st
  have hp2 := lastIdx_lt (fun m => m == [116, 97, 98, 108, 101]) st
  have HPP : Hid (rowP E st al = if lastIdx (fun m => m == [116, 97, 98, 108, 101]) st = -1 then (E, st)
    else pushP (closeE E st (lastIdx (fun m => m == [116, 97, 98, 108, 101]) st + 1).toNat) (st.take (lastIdx (fun m => m == [116, 97, 98, 108, 101]) st + 1).toNat) [116, 114] al) := rfl
  have e0 : lastIdx (fun m => m == (({ data := #[116, 97, 98, 108, 101] } : ByteArray).data.toList)) st = lastIdx (fun m => m == [116, 97, 98, 108, 101]) st := rfl
  rw [e0]
  clear e0
  generalize lastIdx (fun m => m == [116, 97, 98, 108, 101]) st = pl at *
  by_cases hm1 : pl = -1
  · subst hm1
    have HP2 : Hid (rowP E st al = (E, st)) := by show _ = _; rw [HPP.out, if_pos rfl]
    clear HPP
    go_wp2_with fail
    refine bodyPost_ret (v := .tuple #[]) (by simp [results, Tryz.results118, go_sem]) rfl ?_
    rw [HP2.out]
    exact ⟨rfl, APost.of (BPost.here h hk1)⟩
  · have hne : (pl == -1) = false := by rw [beq_eq_false_iff_ne]; exact hm1
    obtain ⟨k, rfl⟩ : ∃ k : Nat, pl = (k : Int) := ⟨pl.toNat, by omega⟩
    have HP2 : Hid (rowP E st al = pushP (closeE E st (k + 1)) (st.take (k + 1)) [116, 114] al) := by
      show _ = _
      rw [HPP.out, if_neg hm1]
      have : ((k : Int) + 1).toNat = k + 1 := by omega
      rw [this]
    clear HPP
    go_wp2_with fail
    refine (closeFrom_any bb (k + 1) F E st _ h1 (by omega) hst hEl).mono ?_
    rintro e w3 ⟨rfl, F3, hb3, hk3, hg3⟩
    obtain ⟨ha3, haf3⟩ := keepA (ownsRow_kept ha hk1 (by simp)) haf hk3 hg3
    go_wp2_with fail
    refine (pushB_any bb F3 _ _ ⟨#[116, 114]⟩ _ al _ hb3 ha3 (by simp) haf3).mono ?_
    rintro e w4 ⟨rfl, hp4⟩
    go_wp2_with fail
    go_end0
    rw [HP2.out]
    refine ⟨rfl, APost.after (hk1.mono (by simp)) (Grow.refl _ _) (APost.after hk3 hg3 hp4)⟩
end Go.Proofs.YtlpmjpmefdpcmaaGreatDoor
namespace Go.Proofs.YtlpmjpmefdpcmaaGreatDoor
open Go.RowKit Scrub Go.Shelf
def tableI (st : List (List UInt8)) : Int := lastIdx (fun m => m == [116, 97, 98, 108, 101]) st
def trI (st : List (List UInt8)) : Int := lastIdx (fun m => m == [116, 114]) st
/-- What is closed, and opened, ahead of a td. -/
def cellAhead (E : List Ev) (st : List (List UInt8)) : List Ev × List (List UInt8) :=
  if tableI st < trI st then (closeE E st (trI st + 1).toNat, st.take (trI st + 1).toNat) else rowP E st []
/-- A start of a td. -/
def cellP (E : List Ev) (st : List (List UInt8)) (al : List (List UInt8 × List UInt8)) : List Ev × List (List UInt8) :=
  if tableI st = -1 then (E, st) else pushP (cellAhead E st).1 (cellAhead E st).2 [116, 100] al
theorem nilA (w : World) : AOwn w (.slice none 0 0) [] := World.ownsRow_nil _ _ _ _
theorem nilAf (F : List Nat) : ∀ k, (Value.slice none 0 0).ownBlock = some k → k ∉ F := fun k hk => by simp [Value.ownBlock] at hk
theorem APost.nil {bb : Nat} {F : List Nat} {w w' : World} {o : List Ev × List (List UInt8)} (h : APost bb F (.slice none 0 0) w o w') : BPost bb F w o.1 o.2 w' := by
  obtain ⟨F', h1, h2, h3⟩ := h
  exact ⟨F', h1, h2, fun k hk => by simpa [Value.ownBlock] using h3 k hk⟩
set_option maxHeartbeats 1000000 in
theorem startCell_any (bb : Nat) (F : List Nat) (E : List Ev) (st : List (List UInt8)) (av : Value) (al : List (List UInt8 × List UInt8)) (w : World) (h : Bld w bb F E st) (ha : AOwn w av al) (haf : ∀ k, av.ownBlock = some k → k ∉ F) (hst : st.length ≤ 12) (hEl : E.length ≤ 1099511627776) :
    Calls Tryz.prog 119 #[.pointer (some ⟨bb, 0, none⟩), av] w
      fun e w' => e = .returned (.tuple #[]) ∧ APost bb F av w (cellP E st al) w' := by
  obtain ⟨va, vc, rfl⟩ := ownsRow_form ha
  go_enter Tryz.func119, Tryz.ntmps119
  go_wp2_with fail
  refine (innermostNamed_any bb F E st ⟨#[116, 97, 98, 108, 101]⟩ _ h hst).mono ?_
  rintro e w1 ⟨rfl, hk1⟩
  have h1 := h.kept hk1 (by simp)
  have ha1 : AOwn w1 (.slice va al.length vc) al := ownsRow_kept ha hk1 (by simp)
  have hp1 : -1 ≤ tableI st := lastIdx_ge (fun m => m == [116, 97, 98, 108, 101]) st
  have hp2 : tableI st < st.length := lastIdx_lt (fun m => m == [116, 97, 98, 108, 101]) st
  have hr1 : -1 ≤ trI st := lastIdx_ge (fun m => m == [116, 114]) st
  have hr2 : trI st < st.length := lastIdx_lt (fun m => m == [116, 114]) st
  have HPP : Hid (cellP E st al = if tableI st = -1 then (E, st) else pushP (cellAhead E st).1 (cellAhead E st).2 [116, 100] al) := rfl
  have HCA : Hid (cellAhead E st = if tableI st < trI st then (closeE E st (trI st + 1).toNat, st.take (trI st + 1).toNat) else rowP E st []) := rfl
  have e0 : lastIdx (fun m => m == (({ data := #[116, 97, 98, 108, 101] } : ByteArray).data.toList)) st = tableI st := rfl
  rw [e0]
  clear e0
  generalize tableI st = pl at *
  by_cases hm1 : pl = -1
  · subst hm1
    have HP2 : Hid (cellP E st al = (E, st)) := by show _ = _; rw [HPP.out, if_pos rfl]
    clear HPP HCA
    go_wp2_with fail
    refine bodyPost_ret (v := .tuple #[]) (by simp [results, Tryz.results119, go_sem]) rfl ?_
    rw [HP2.out]
    exact ⟨rfl, APost.of (BPost.here h hk1)⟩
  · have hne : (pl == -1) = false := by rw [beq_eq_false_iff_ne]; exact hm1
    have HP2 : Hid (cellP E st al = pushP (cellAhead E st).1 (cellAhead E st).2 [116, 100] al) := by show _ = _; rw [HPP.out, if_neg hm1]
    clear HPP
    go_wp2_with fail
    refine (innermostNamed_any bb F E st ⟨#[116, 114]⟩ _ h1 hst).mono ?_
    rintro e w2 ⟨rfl, hk2⟩
    have h2 := h1.kept hk2 (by simp)
    have ha2 : AOwn w2 (.slice va al.length vc) al := ownsRow_kept ha1 hk2 (by simp)
    have hk12 : Kept F w w2 := (hk1.trans hk2).mono (by simp)
    have e0 : lastIdx (fun m => m == (({ data := #[116, 114] } : ByteArray).data.toList)) st = trI st := rfl
    rw [e0]
    clear e0
    generalize trI st = tr at *
    by_cases hlt : pl < tr
    · obtain ⟨k, rfl⟩ : ∃ k : Nat, tr = (k : Int) := ⟨tr.toNat, by omega⟩
      have HC2 : Hid (cellAhead E st = (closeE E st (k + 1), st.take (k + 1))) := by
        show _ = _
        rw [HCA.out, if_pos hlt]
        have : ((k : Int) + 1).toNat = k + 1 := by omega
        rw [this]
      clear HCA
      go_wp2_with fail
      refine (closeFrom_any bb (k + 1) F E st _ h2 (by omega) hst hEl).mono ?_
      rintro e w3 ⟨rfl, F3, hb3, hk3, hg3⟩
      obtain ⟨ha3, haf3⟩ := keepA ha2 haf hk3 hg3
      go_wp2_with fail
      refine (pushB_any bb F3 _ _ ⟨#[116, 100]⟩ _ al _ hb3 ha3 (by simp) haf3).mono ?_
      rintro e w4 ⟨rfl, hp4⟩
      go_wp2_with fail
      go_end0
      rw [HP2.out, HC2.out]
      exact ⟨rfl, APost.after hk12 (Grow.refl _ _) (APost.after hk3 hg3 hp4)⟩
    · have HC2 : Hid (cellAhead E st = rowP E st []) := by show _ = _; rw [HCA.out, if_neg hlt]
      clear HCA
      go_wp2_with fail
      refine (startRow_any bb F E st (.slice none 0 0) [] _ h2 (nilA _) (nilAf _) hst hEl).mono ?_
      rintro e w3 ⟨rfl, hp3⟩
      obtain ⟨F3, hb3, hk3, hg3⟩ := hp3.nil
      obtain ⟨ha3, haf3⟩ := keepA ha2 haf hk3 hg3
      go_wp2_with fail
      refine (pushB_any bb F3 _ _ ⟨#[116, 100]⟩ _ al _ hb3 ha3 (by simp) haf3).mono ?_
      rintro e w4 ⟨rfl, hp4⟩
      go_wp2_with fail
      go_end0
      rw [HP2.out, HC2.out]
      exact ⟨rfl, APost.after hk12 (Grow.refl _ _) (APost.after hk3 hg3 hp4)⟩
/-- If a table or a tr is innermost, a td is opened first. -/
def openP (E : List Ev) (st : List (List UInt8)) : List Ev × List (List UInt8) :=
  if st ≠ [] ∧ holdsP (st.getD (st.length - 1) []) = true then cellP E st [] else (E, st)
set_option maxHeartbeats 1000000 in
theorem openCellFirst_any (bb : Nat) (F : List Nat) (E : List Ev) (st : List (List UInt8)) (w : World) (h : Bld w bb F E st) (hst : st.length ≤ 12) (hEl : E.length ≤ 1099511627776) :
    Calls Tryz.prog 116 #[.pointer (some ⟨bb, 0, none⟩)] w
      fun e w' => e = .returned (.tuple #[]) ∧ BPost bb F w (openP E st).1 (openP E st).2 w' := by
  have hb := h
  obtain ⟨tv, ov, ts, os, hb, hE, hS⟩ := hb
  have HS : Hid (st = os.map NodeR.name) := hS
  clear hE hS
  obtain ⟨c0, c1, c2, c3⟩ := hb.cells
  have hown := hb.2.2.1.1
  rcases List.eq_nil_or_concat os with h0 | ⟨os0, y, h0⟩
  · subst h0
    obtain ⟨oa, oc, rfl⟩ := ownsRow_form hown
    have hst0 : st = [] := HS.out
    have HP : Hid (openP E st = (E, st)) := by show _ = _; rw [openP, if_neg (by simp [hst0])]
    have hgt : decide ((0 : Int) < 0) = false := by simp
    clear hst0
    go_enter Tryz.func116, Tryz.ntmps116
    go_wp2_with fail
    go_quiet (fail)
    go_wp2_with fail
    go_end0
    rw [HP.out]
    exact ⟨rfl, BPost.here h ((Kept.refl _ _).drewN _)⟩
  · have h0' : os = os0 ++ [y] := by simpa using h0
    subst h0'
    have hl1 : (os0 ++ [y]).length = os0.length + 1 := by simp
    rw [hl1] at hown
    obtain ⟨g, cap, rfl⟩ := form_pos hown
    have hyg := (cellsOf_get (os0 ++ [y]) os0.length (by simp)).1
    have hyge : (os0 ++ [y])[os0.length]'(by simp) = y := by simp
    rw [hyge] at hyg
    have r0 := row_cell hown hyg
    have hgl : st.getD (st.length - 1) [] = y.name := by rw [HS.out]; simp [List.getD]
    have hne : st ≠ [] := by rw [HS.out]; simp
    have hol : os0.length < 12 := by have := hst; rw [HS.out] at this; simp at this; omega
    have hidx : (os0.length : Int) < (os0.length : Int) + 1 := by omega
    have hgt : (0 : Int) < (os0.length : Int) + 1 := by omega
    have hb0 : (0 : Int) ≤ (os0.length : Int) := by omega
    have hks : (({ data := y.name.toArray } : ByteArray).data.toList) = y.name := by simp
    cases hh : holdsP y.name with
    | true =>
      have HP : Hid (openP E st = cellP E st []) := by show _ = _; rw [openP, if_pos ⟨hne, by rw [hgl]; exact hh⟩]
      have HC : Hid (Calls Tryz.prog 123 #[.string ⟨y.name.toArray⟩] w fun e w' => e = .returned (.bool true) ∧ w' = w) := by
        have := holdsCells_any ⟨y.name.toArray⟩ w
        rw [hks, hh] at this
        exact this
      have HHC : Hid (∀ n, Calls Tryz.prog 123 #[.string ⟨y.name.toArray⟩] (w.drewN n) fun e w' => e = .returned (.bool true) ∧ w' = w.drewN n) := by
        intro n
        have := holdsCells_any ⟨y.name.toArray⟩ (w.drewN n)
        rw [hks, hh] at this
        exact this
      clear hgl hne hks hyg hyge HC
      go_enter Tryz.func116, Tryz.ntmps116
      go_wp2_with fail
      go_quiet ((go_at_call 123; exact Calls.quiet_of_same (HHC.out _)))
      go_wp2_with fail
      refine (startCell_any bb F E st (.slice none 0 0) [] _ (h.kept ((Kept.refl [] _).drewN _) (by simp)) (nilA _) (nilAf _) hst hEl).mono ?_
      rintro e w3 ⟨rfl, hp3⟩
      go_wp2_with fail
      go_end0
      rw [HP.out]
      exact ⟨rfl, BPost.after ((Kept.refl [] _).drewN _) hp3.nil⟩
    | false =>
      have HP : Hid (openP E st = (E, st)) := by show _ = _; rw [openP, if_neg (by rw [hgl, hh]; simp)]
      have HHC : Hid (∀ n, Calls Tryz.prog 123 #[.string ⟨y.name.toArray⟩] (w.drewN n) fun e w' => e = .returned (.bool false) ∧ w' = w.drewN n) := by
        intro n
        have := holdsCells_any ⟨y.name.toArray⟩ (w.drewN n)
        rw [hks, hh] at this
        exact this
      clear hgl hne hks hyg hyge
      go_enter Tryz.func116, Tryz.ntmps116
      go_wp2_with fail
      go_quiet ((go_at_call 123; exact Calls.quiet_of_same (HHC.out _)))
      go_wp2_with fail
      go_end0
      rw [HP.out]
      exact ⟨rfl, BPost.here h ((Kept.refl _ _).drewN _)⟩
end Go.Proofs.YtlpmjpmefdpcmaaGreatDoor
