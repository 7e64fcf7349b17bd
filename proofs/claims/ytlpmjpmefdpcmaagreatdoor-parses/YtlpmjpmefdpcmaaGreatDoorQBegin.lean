import Derived.Test.YtlpmjpmefdpcmaaGreatDoorQTree8
import Derived.Test.YtlpmjpmefdpcmaaGreatDoorQText0
import Derived.Test.YtlpmjpmefdpcmaaGreatDoorQText1
import Derived.Deep.Cut
/- How long what is read gets: each step of the builder. No function of the program in it. -/
namespace Go.Proofs.YtlpmjpmefdpcmaaGreatDoor
open Go.RowKit Scrub Go.Shelf
theorem evSize_none (n : Nat) : evSize (List.replicate n none) = 0 := by
  induction n with
  | zero => rfl
  | succ n ih => simp [List.replicate_succ, evSize, ih]
theorem closeE_len (E : List Ev) (st : List (List UInt8)) (p : Nat) : (closeE E st p).length ≤ E.length + st.length := by
  simp [closeE]
theorem closeE_size (E : List Ev) (st : List (List UInt8)) (p : Nat) : evSize (closeE E st p) = evSize E := by
  rw [closeE, evSize_append, evSize_none]
  rfl
/-- At most 12 are open, at most k more events, no more text. -/
def Fits (E : List Ev) (o : List Ev × List (List UInt8)) (k : Nat) : Prop := o.2.length ≤ 12 ∧ o.1.length ≤ E.length + k ∧ evSize o.1 = evSize E
theorem Fits.here {E : List Ev} {st : List (List UInt8)} (h : st.length ≤ 12) (k : Nat) : Fits E (E, st) k := ⟨h, by simp, rfl⟩
theorem Fits.mono {E : List Ev} {o : List Ev × List (List UInt8)} {k k' : Nat} (h : Fits E o k) (hk : k ≤ k') : Fits E o k' := ⟨h.1, by have := h.2.1; omega, h.2.2⟩
theorem Fits.trans {E : List Ev} {o o' : List Ev × List (List UInt8)} {k k' : Nat} (h : Fits E o k) (h' : Fits o.1 o' k') : Fits E o' (k + k') := ⟨h'.1, by have := h.2.1; have := h'.2.1; omega, h'.2.2.trans h.2.2⟩
theorem fits_close {E : List Ev} {st : List (List UInt8)} (h : st.length ≤ 12) (p : Nat) : Fits E (closeE E st p, st.take p) 12 := by
  refine ⟨?_, ?_, closeE_size _ _ _⟩
  · simp; omega
  · have := closeE_len E st p
    simp only
    omega
theorem fits_push {E : List Ev} {st : List (List UInt8)} (h : st.length ≤ 12) (n : List UInt8) (al : List (List UInt8 × List UInt8)) : Fits E (pushP E st n al) 1 := by
  unfold pushP
  split
  · refine ⟨?_, ?_, ?_⟩
    · simp; omega
    · simp
    · rw [evSize_append]
      rfl
  · exact Fits.here h 1
theorem fits_row {E : List Ev} {st : List (List UInt8)} (h : st.length ≤ 12) (al : List (List UInt8 × List UInt8)) : Fits E (rowP E st al) 13 := by
  unfold rowP
  split
  · exact Fits.here h 13
  · have h1 := fits_close (E := E) h (lastIdx (fun m => m == [116, 97, 98, 108, 101]) st + 1).toNat
    exact h1.trans (fits_push (E := closeE E st (lastIdx (fun m => m == [116, 97, 98, 108, 101]) st + 1).toNat) h1.1 [116, 114] al)
theorem fits_ahead {E : List Ev} {st : List (List UInt8)} (h : st.length ≤ 12) : Fits E (cellAhead E st) 13 := by
  unfold cellAhead
  split
  · exact (fits_close h _).mono (by omega)
  · exact fits_row h []
theorem fits_cell {E : List Ev} {st : List (List UInt8)} (h : st.length ≤ 12) (al : List (List UInt8 × List UInt8)) : Fits E (cellP E st al) 14 := by
  unfold cellP
  split
  · exact Fits.here h 14
  · have h1 := fits_ahead (E := E) h
    exact h1.trans (fits_push (E := (cellAhead E st).1) h1.1 [116, 100] al)
theorem fits_open {E : List Ev} {st : List (List UInt8)} (h : st.length ≤ 12) : Fits E (openP E st) 14 := by
  unfold openP
  split
  · exact fits_cell h []
  · exact Fits.here h 14
theorem fits_para {E : List Ev} {st : List (List UInt8)} (h : st.length ≤ 12) : Fits E (paraP E st) 12 := by
  unfold paraP
  split
  · exact fits_close h _
  · exact Fits.here h 12
theorem fits_item {E : List Ev} {st : List (List UInt8)} (h : st.length ≤ 12) : Fits E (itemP E st) 12 := by
  unfold itemP
  split
  · exact fits_close h _
  · exact Fits.here h 12
theorem fits_end {E : List Ev} {st : List (List UInt8)} (h : st.length ≤ 12) (n : List UInt8) : Fits E (endE E st n) 12 := by
  unfold endE
  split
  · exact Fits.here h 12
  · exact fits_close h _
theorem addText_cases (E : List Ev) (t : List UInt8) : (∃ E0 t0, E = E0 ++ [evText t0] ∧ addText E t = E0 ++ [evText (t0 ++ t)]) ∨ addText E t = E ++ [evText t] := by
  unfold addText
  split
  · rename_i t0 h
    left
    obtain ⟨hne, hl⟩ := List.getLast?_eq_some_iff.1 h
    exact ⟨hne, t0, hl, by rw [hl]; simp⟩
  · right; rfl
theorem addText_len (E : List Ev) (t : List UInt8) : (addText E t).length ≤ E.length + 1 := by
  rcases addText_cases E t with ⟨E0, t0, h1, h2⟩ | h
  · rw [h2, h1]; simp
  · rw [h]; simp
theorem addText_size (E : List Ev) (t : List UInt8) : evSize (addText E t) = evSize E + t.length := by
  rcases addText_cases E t with ⟨E0, t0, h1, h2⟩ | h
  · rw [h2, h1, evSize_append, evSize_append]
    simp [evSize]
    omega
  · rw [h, evSize_append]
    simp [evSize]
theorem pushP_pos (E : List Ev) (st : List (List UInt8)) (n : List UInt8) (al : List (List UInt8 × List UInt8)) (h : 0 < st.length ∨ st.length < 12) : 0 < (pushP E st n al).2.length := by
  unfold pushP
  split
  · simp
  · rcases h with h | h
    · exact h
    · omega
theorem openP_pos (E : List Ev) (st : List (List UInt8)) (h : 0 < st.length) : 0 < (openP E st).2.length := by
  unfold openP
  split
  · unfold cellP
    split
    · exact h
    · refine pushP_pos _ _ _ _ ?_
      omega
  · exact h
/-- What follows once an element may be opened: it is, its text goes in, a void one is closed. -/
def tailP (E : List Ev) (st : List (List UInt8)) (nm : List UInt8) (al : List (List UInt8 × List UInt8)) (tx : List UInt8) : List Ev × List (List UInt8) :=
  if st.length < 12 then
    (if kindP nm = 1 then
      (closeE (if tx = [] then (pushP E st nm al).1 else addText (openP (pushP E st nm al).1 (pushP E st nm al).2).1 tx) (if tx = [] then (pushP E st nm al).2 else (openP (pushP E st nm al).1 (pushP E st nm al).2).2) ((if tx = [] then (pushP E st nm al).2 else (openP (pushP E st nm al).1 (pushP E st nm al).2).2).length - 1),
       (if tx = [] then (pushP E st nm al).2 else (openP (pushP E st nm al).1 (pushP E st nm al).2).2).take ((if tx = [] then (pushP E st nm al).2 else (openP (pushP E st nm al).1 (pushP E st nm al).2).2).length - 1))
    else (if tx = [] then (pushP E st nm al).1 else addText (openP (pushP E st nm al).1 (pushP E st nm al).2).1 tx, if tx = [] then (pushP E st nm al).2 else (openP (pushP E st nm al).1 (pushP E st nm al).2).2))
  else (E, st)
/-- A p is closed by a block element. -/
def paraK (k : Int) (o : List Ev × List (List UInt8)) : List Ev × List (List UInt8) := if k = 3 then paraP o.1 o.2 else o
/-- An li is closed by an li. -/
def itemK (nm : List UInt8) (o : List Ev × List (List UInt8)) : List Ev × List (List UInt8) := if nm = [108, 105] then itemP o.1 o.2 else o
/-- A start of any other element. -/
def otherP (E : List Ev) (st : List (List UInt8)) (nm : List UInt8) (al : List (List UInt8 × List UInt8)) (tx : List UInt8) : List Ev × List (List UInt8) :=
  tailP (itemK nm (paraK (kindP nm) (openP E st))).1 (itemK nm (paraK (kindP nm) (openP E st))).2 nm al tx
theorem fits_paraK {E : List Ev} {o : List Ev × List (List UInt8)} {k : Nat} (kd : Int) (h : Fits E o k) : Fits E (paraK kd o) (k + 12) := by
  unfold paraK
  split
  · exact h.trans (fits_para h.1)
  · exact h.mono (by omega)
theorem fits_itemK {E : List Ev} {o : List Ev × List (List UInt8)} {k : Nat} (nm : List UInt8) (h : Fits E o k) : Fits E (itemK nm o) (k + 12) := by
  unfold itemK
  split
  · exact h.trans (fits_item h.1)
  · exact h.mono (by omega)
/-- At most 12 are open, at most k more events, at most t more text. -/
def FitsT (E : List Ev) (o : List Ev × List (List UInt8)) (k t : Nat) : Prop := o.2.length ≤ 12 ∧ o.1.length ≤ E.length + k ∧ evSize o.1 ≤ evSize E + t
theorem Fits.toT {E : List Ev} {o : List Ev × List (List UInt8)} {k k' : Nat} (h : Fits E o k) (hk : k ≤ k') (t : Nat) : FitsT E o k' t := ⟨h.1, by have := h.2.1; omega, by rw [h.2.2]; omega⟩
theorem Fits.thenT {E : List Ev} {o o' : List Ev × List (List UInt8)} {k k' t : Nat} (h : Fits E o k) (h' : FitsT o.1 o' k' t) : FitsT E o' (k + k') t := ⟨h'.1, by have := h.2.1; have := h'.2.1; omega, by rw [← h.2.2]; exact h'.2.2⟩
theorem FitsT.then {E : List Ev} {o o' : List Ev × List (List UInt8)} {k k' t : Nat} (h : FitsT E o k t) (h' : Fits o.1 o' k') : FitsT E o' (k + k') t := ⟨h'.1, by have := h.2.1; have := h'.2.1; omega, by rw [h'.2.2]; exact h.2.2⟩
theorem FitsT.mono {E : List Ev} {o : List Ev × List (List UInt8)} {k k' t : Nat} (h : FitsT E o k t) (hk : k ≤ k') : FitsT E o k' t := ⟨h.1, by have := h.2.1; omega, h.2.2⟩
theorem fits_text {E : List Ev} {st : List (List UInt8)} (h : st.length ≤ 12) (t : List UInt8) : FitsT E (addText (openP E st).1 t, (openP E st).2) 15 t.length := by
  have h1 := fits_open (E := E) h
  have h2 := addText_len (openP E st).1 t
  have h3 := addText_size (openP E st).1 t
  refine ⟨h1.1, ?_, ?_⟩
  · have := h1.2.1
    simp only
    omega
  · simp only
    rw [h3, h1.2.2]
    omega
/-- The element's text goes in. -/
def putT (o : List Ev × List (List UInt8)) (tx : List UInt8) : List Ev × List (List UInt8) := if tx = [] then o else (addText (openP o.1 o.2).1 tx, (openP o.1 o.2).2)
/-- A void one is closed. -/
def voidK (k : Int) (o : List Ev × List (List UInt8)) : List Ev × List (List UInt8) := if k = 1 then (closeE o.1 o.2 (o.2.length - 1), o.2.take (o.2.length - 1)) else o
theorem tailP_eq (E : List Ev) (st : List (List UInt8)) (nm : List UInt8) (al : List (List UInt8 × List UInt8)) (tx : List UInt8) : tailP E st nm al tx = if st.length < 12 then voidK (kindP nm) (putT (pushP E st nm al) tx) else (E, st) := by
  unfold tailP voidK putT
  split
  · split <;> by_cases h : tx = [] <;> simp [h]
  · rfl
theorem fits_put {E : List Ev} {o : List Ev × List (List UInt8)} {k : Nat} (h : Fits E o k) (tx : List UInt8) : FitsT E (putT o tx) (k + 15) tx.length := by
  unfold putT
  split
  · exact h.toT (by omega) _
  · exact h.thenT (fits_text h.1 tx)
theorem fits_void {E : List Ev} {o : List Ev × List (List UInt8)} {k t : Nat} (kd : Int) (h : FitsT E o k t) : FitsT E (voidK kd o) (k + 12) t := by
  unfold voidK
  split
  · exact h.then (fits_close h.1 _)
  · exact h.mono (by omega)
theorem fits_tail {E : List Ev} {st : List (List UInt8)} (h : st.length ≤ 12) (nm : List UInt8) (al : List (List UInt8 × List UInt8)) (tx : List UInt8) : FitsT E (tailP E st nm al tx) 28 tx.length := by
  rw [tailP_eq]
  split
  · exact (fits_void (kindP nm) (fits_put (fits_push h nm al) tx)).mono (by omega)
  · exact (Fits.here h 28).toT (by omega) _
theorem fits_other {E : List Ev} {st : List (List UInt8)} (h : st.length ≤ 12) (nm : List UInt8) (al : List (List UInt8 × List UInt8)) (tx : List UInt8) : FitsT E (otherP E st nm al tx) 66 tx.length := by
  have h1 := fits_itemK nm (fits_paraK (kindP nm) (fits_open (E := E) h))
  exact (h1.thenT (fits_tail (E := (itemK nm (paraK (kindP nm) (openP E st))).1) h1.1 nm al tx)).mono (by omega)
end Go.Proofs.YtlpmjpmefdpcmaaGreatDoor
namespace Go.Proofs.YtlpmjpmefdpcmaaGreatDoor
open Go.RowKit Scrub Go.Shelf
/-- A token in its box, with its row of attributes; both far from the builder's blocks. -/
def TokB (w : World) (tb : Nat) (F : List Nat) (s : Int) (nm : List UInt8) (av : Value) (al : List (List UInt8 × List UInt8)) (tx : List UInt8) : Prop :=
  w.heap[tb]? = some (.cells #[.int .i64 s, .string ⟨nm.toArray⟩, av, .string ⟨tx.toArray⟩] 108 (0, 0)) ∧ tb ∉ F ∧ AOwn w av al ∧ ∀ k, av.ownBlock = some k → k ∉ F
theorem TokB.keep {w w1 : World} {tb : Nat} {F F1 : List Nat} {s : Int} {nm : List UInt8} {av : Value} {al : List (List UInt8 × List UInt8)} {tx : List UInt8} (h : TokB w tb F s nm av al tx) (hk : Kept F w w1) (hg : Grow F w F1) : TokB w1 tb F1 s nm av al tx := by
  obtain ⟨h1, h2, h3, h4⟩ := h
  have hlt : tb < w.heap.size := (Array.getElem?_eq_some_iff.1 h1).1
  obtain ⟨k1, k2⟩ := keepA h3 h4 hk hg
  refine ⟨(hk.block tb hlt h2).trans h1, fun hc => ?_, k1, k2⟩
  rcases hg tb hc with h | h
  · exact h2 h
  · omega
/-- Between two steps of a start: the builder, and the token. -/
def OInv (w : World) (bb : Nat) (F : List Nat) (tb : Nat) (s : Int) (nm : List UInt8) (av : Value) (al : List (List UInt8 × List UInt8)) (tx : List UInt8) (o : List Ev × List (List UInt8)) (wx : World) : Prop :=
  ∃ F', Bld wx bb F' o.1 o.2 ∧ Kept F w wx ∧ Grow F w F' ∧ TokB wx tb F' s nm av al tx
theorem OInv.step {w : World} {bb : Nat} {F F' : List Nat} {tb : Nat} {s : Int} {nm : List UInt8} {av : Value} {al : List (List UInt8 × List UInt8)} {tx : List UInt8} {o : List Ev × List (List UInt8)} {wx w' : World} (hK : Kept F w wx) (hG : Grow F w F') (ht : TokB wx tb F' s nm av al tx) (h : BPost bb F' wx o.1 o.2 w') : OInv w bb F tb s nm av al tx o w' := by
  obtain ⟨F2, h1, h2, h3⟩ := h
  exact ⟨F2, h1, hK.trans_new h2 (fun i hi => hG i hi), hG.trans h3 hK.size, ht.keep h2 h3⟩
/-- Behind the push: the attributes' row is the builder's. -/
def PInv (w : World) (bb : Nat) (FA : List Nat) (tb : Nat) (tok : Obj) (o : List Ev × List (List UInt8)) (wx : World) : Prop :=
  ∃ F', Bld wx bb F' o.1 o.2 ∧ Kept FA w wx ∧ Grow FA w F' ∧ tb ∉ F' ∧ wx.heap[tb]? = some tok
theorem PInv.step {w : World} {bb : Nat} {FA F' : List Nat} {tb : Nat} {tok : Obj} {o : List Ev × List (List UInt8)} {wx w' : World} (hK : Kept FA w wx) (hG : Grow FA w F') (ht : tb ∉ F') (ht2 : wx.heap[tb]? = some tok) (h : BPost bb F' wx o.1 o.2 w') : PInv w bb FA tb tok o w' := by
  obtain ⟨F2, h1, h2, h3⟩ := h
  have hlt : tb < wx.heap.size := (Array.getElem?_eq_some_iff.1 ht2).1
  refine ⟨F2, h1, hK.trans_new h2 (fun i hi => hG i hi), hG.trans h3 hK.size, fun hc => ?_, (h2.block tb hlt ht).trans ht2⟩
  rcases h3 tb hc with h | h
  · exact ht h
  · omega
theorem PInv.post {w wb : World} {bb : Nat} {FA : List Nat} {tb : Nat} {tok : Obj} {o : List Ev × List (List UInt8)} {wx : World} (hk : Kept [] w wb) (h : PInv wb bb FA tb tok o wx) : BPost bb FA w o.1 o.2 wx := by
  obtain ⟨F', h1, h2, h3, h4, h5⟩ := h
  exact BPost.after hk ⟨F', h1, h2, h3⟩
theorem OInv.post {w wb : World} {bb : Nat} {F : List Nat} {tb : Nat} {s : Int} {nm : List UInt8} {av : Value} {al : List (List UInt8 × List UInt8)} {tx : List UInt8} {o : List Ev × List (List UInt8)} {wx : World} (hk : Kept [] w wb) (h : OInv wb bb F tb s nm av al tx o wx) : BPost bb (F ++ av.ownBlock.toList) w o.1 o.2 wx := by
  obtain ⟨F', h1, h2, h3, h4⟩ := h
  refine BPost.after hk ⟨F', h1, h2.mono (fun i hi => List.mem_append.2 (.inl hi)), fun k hk' => ?_⟩
  rcases h3 k hk' with h | h
  · exact .inl (List.mem_append.2 (.inl h))
  · exact .inr h
/-- The push hands the attributes' row over. -/
theorem PInv.push {w : World} {bb : Nat} {F F' : List Nat} {tb : Nat} {s : Int} {nm : List UInt8} {av : Value} {al : List (List UInt8 × List UInt8)} {tx : List UInt8} {o : List Ev × List (List UInt8)} {wx w' : World} (htb : tb ∉ av.ownBlock.toList) (hK : Kept F w wx) (hG : Grow F w F') (ht : TokB wx tb F' s nm av al tx) (h : APost bb F' av wx o w') :
    PInv w bb (F ++ av.ownBlock.toList) tb (.cells #[.int .i64 s, .string ⟨nm.toArray⟩, av, .string ⟨tx.toArray⟩] 108 (0, 0)) o w' := by
  obtain ⟨F2, h1, h2, h3⟩ := h
  have hlt : tb < wx.heap.size := (Array.getElem?_eq_some_iff.1 ht.1).1
  refine ⟨F2, h1, (hK.trans_new h2 (fun i hi => hG i hi)).mono (fun i hi => List.mem_append.2 (.inl hi)), fun k hk => ?_, fun hc => ?_, (h2.block tb hlt ht.2.1).trans ht.1⟩
  · rcases h3 k hk with h | h
    · rcases List.mem_append.1 h with h | h
      · rcases hG k h with h | h
        · exact .inl (List.mem_append.2 (.inl h))
        · exact .inr h
      · exact .inl (List.mem_append.2 (.inr h))
    · exact .inr (Nat.le_trans hK.size h)
  · rcases h3 tb hc with h | h
    · rcases List.mem_append.1 h with h | h
      · exact ht.2.1 h
      · exact htb h
    · omega
set_option maxHeartbeats 8000000 in
theorem startOther_any (bb : Nat) (F : List Nat) (E : List Ev) (st : List (List UInt8)) (s : Int) (nm : List UInt8) (av : Value) (al : List (List UInt8 × List UInt8)) (tx : List UInt8) (w : World) (h : Bld w bb F E st) (ha : AOwn w av al) (hn : nm ≠ []) (haf : ∀ k, av.ownBlock = some k → k ∉ F) (hst : st.length ≤ 12) (hEl : E.length ≤ 1099511627000) (hsz : evSize E + tx.length ≤ 1099511627776) :
    Calls Tryz.prog 120 #[.pointer (some ⟨bb, 0, none⟩), .agg #[.int .i64 s, .string ⟨nm.toArray⟩, av, .string ⟨tx.toArray⟩]] w
      fun e w' => e = .returned (.tuple #[]) ∧ BPost bb (F ++ av.ownBlock.toList) w (otherP E st nm al tx).1 (otherP E st nm al tx).2 w' := by
  have htbav : w.heap.size ∉ av.ownBlock.toList := by
    intro hc
    have h1 : av.ownBlock = some w.heap.size := by simpa using hc
    have := (ha.lt _ h1).2
    omega
  obtain ⟨va, vc, rfl⟩ := ownsRow_form ha
  have hk0 : Kept [] w (w.alloc (.cells #[.int .i64 s, .string ⟨nm.toArray⟩, .slice va al.length vc, .string ⟨tx.toArray⟩] 108)) := (Kept.refl [] _).alloc _
  have hb0 := h.kept hk0 (by simp)
  have hwF : w.heap.size ∉ F := by
    obtain ⟨tv, ov, ts, os, hb, _⟩ := h
    exact fun hc => by have := hb.2.2.2.2.2.2 _ hc; omega
  have ht0 : TokB (w.alloc (.cells #[.int .i64 s, .string ⟨nm.toArray⟩, .slice va al.length vc, .string ⟨tx.toArray⟩] 108)) w.heap.size F s nm (.slice va al.length vc) al tx := ⟨heap_alloc_new w _, hwF, ownsRow_kept ha hk0 (by simp), haf⟩
  have hfo := fits_open (E := E) hst
  have HOP : Hid (otherP E st nm al tx = tailP (itemK nm (paraK (kindP nm) (openP E st))).1 (itemK nm (paraK (kindP nm) (openP E st))).2 nm al tx) := rfl
  go_enter Tryz.func120, Tryz.ntmps120
  go_wp2_with fail
  refine (openCellFirst_any bb F E st _ hb0 hst (by omega)).mono ?_
  rintro e w1 ⟨rfl, hp1⟩
  have hi1 : OInv _ bb F w.heap.size s nm (.slice va al.length vc) al tx (openP E st) w1 := OInv.step (Kept.refl F _) (Grow.refl F _) ht0 hp1
  generalize hwb : (w.alloc (.cells #[.int .i64 s, .string ⟨nm.toArray⟩, .slice va al.length vc, .string ⟨tx.toArray⟩] 108)) = wb at *
  generalize htb : w.heap.size = tb at *
  have HK0 : Hid (Kept [] w wb) := hk0
  clear hp1 hwb htb hb0 ht0 h ha haf hwF hk0
  generalize openP E st = o1 at *
  obtain ⟨F1, hb1, hK1, hG1, ht1⟩ := hi1
  obtain ⟨⟨q0, q1, q2, q3⟩, _⟩ := cells4 ht1.1
  go_wp2_with fail
  refine (kindOf_any _ _).mono ?_
  rintro e w2 ⟨rfl, rfl⟩
  have hks : (({ data := nm.toArray } : ByteArray).data.toList) = nm := by simp
  rw [hks]
  clear hks
  have HN : Hid (nm ≠ []) := hn
  have HKD : Hid (∀ k, kindP nm = k → kindP nm = k) := fun _ h => h
  clear hn
  go_upto_if 11 with fail
  go_cut [] from 5 (fun wx => OInv wb bb F tb s nm (.slice va al.length vc) al tx (paraK (kindP nm) o1) wx)
  case first =>
    by_cases hk3 : kindP nm = 3
    · have hkb : (kindP nm == 3) = true := by simp [hk3]
      have HK3 : Hid (kindP nm = 3) := hk3
      clear hk3
      go_wp2_with fail
      refine (closeParagraph_any bb F1 o1.1 o1.2 _ hb1 hfo.1 (by have := hfo.2.1; omega)).mono ?_
      rintro e w3 ⟨rfl, hp3⟩
      go_wp2_with fail
      go_meet
      case rel =>
        have e1 : paraK (kindP nm) o1 = paraP o1.1 o1.2 := by rw [paraK, if_pos HK3.out]
        rw [e1]
        exact OInv.step hK1 hG1 ht1 hp3
    · have hkb : (kindP nm == 3) = false := by simp [hk3]
      have HK3 : Hid (¬ kindP nm = 3) := hk3
      clear hk3
      go_wp2_with fail
      go_meet
      case rel =>
        have e1 : paraK (kindP nm) o1 = o1 := by rw [paraK, if_neg HK3.out]
        rw [e1]
        exact ⟨F1, hb1, hK1, hG1, ht1⟩
  case rest =>
  have hf2 := fits_paraK (kindP nm) hfo
  generalize paraK (kindP nm) o1 = o2 at *
  clear hfo hb1 hK1 hG1 ht1 q0 q1 q2 q3
  obtain ⟨F2, hb2, hK2, hG2, ht2⟩ := hcut
  obtain ⟨⟨q0, q1, q2, q3⟩, _⟩ := cells4 ht2.1
  go_upto_if 16 with fail
  generalize hbq : (nm == [108, 105]) = bq
  have HBQ : Hid ((nm == [108, 105]) = bq) := hbq
  clear hbq
  go_cut [] from 5 (fun wx => OInv wb bb F tb s nm (.slice va al.length vc) al tx (itemK nm o2) wx)
  case first =>
    cases bq with
    | true =>
      have HLI : Hid (nm = [108, 105]) := by show _ = _; simpa using HBQ.out
      go_wp2_with fail
      refine (closeItem_any bb F2 o2.1 o2.2 _ hb2 hf2.1 (by have := hf2.2.1; omega)).mono ?_
      rintro e w3 ⟨rfl, hp3⟩
      go_wp2_with fail
      go_meet
      case rel =>
        have e1 : itemK nm o2 = itemP o2.1 o2.2 := by rw [itemK, if_pos HLI.out]
        rw [e1]
        exact OInv.step hK2 hG2 ht2 hp3
    | false =>
      have HLI : Hid (¬ nm = [108, 105]) := by show ¬ _; simpa using HBQ.out
      go_wp2_with fail
      go_meet
      case rel =>
        have e1 : itemK nm o2 = o2 := by rw [itemK, if_neg HLI.out]
        rw [e1]
        exact ⟨F2, hb2, hK2, hG2, ht2⟩
  case rest =>
  have hf3 := fits_itemK nm hf2
  generalize itemK nm o2 = o3 at *
  obtain ⟨E3, st3⟩ := o3
  clear hf2 hb2 hK2 hG2 ht2 q0 q1 q2 q3
  obtain ⟨F3, hb3, hK3, hG3, ht3⟩ := hcut
  obtain ⟨⟨q0, q1, q2, q3⟩, _⟩ := cells4 ht3.1
  obtain ⟨fa, fb, fc⟩ := hf3
  simp only at fa fb fc hb3
  have HT : Hid (otherP E st nm al tx = if st3.length < 12 then voidK (kindP nm) (putT (pushP E3 st3 nm al) tx) else (E3, st3)) := HOP.out.trans (tailP_eq _ _ _ _ _)
  clear HOP
  go_wp2_with fail
  have hpu := pushB_any bb F3 E3 st3 ⟨nm.toArray⟩ (.slice va al.length vc) al wc hb3 ht3.2.2.1 (by simpa using HN.out) ht3.2.2.2
  have hks : (({ data := nm.toArray } : ByteArray).data.toList) = nm := by simp
  rw [hks] at hpu
  refine hpu.mono ?_
  clear hpu hks
  rintro e w4 ⟨rfl, hp4⟩
  by_cases hlt : st3.length < 12
  · have hdec : decide (st3.length < 12) = true := by simp [hlt]
    rw [hdec]
    have HT2 : Hid (otherP E st nm al tx = voidK (kindP nm) (putT (pushP E3 st3 nm al) tx)) := by show _ = _; rw [HT.out, if_pos hlt]
    have hi4 := PInv.push htbav hK3 hG3 ht3 hp4
    have hf4 := fits_push (E := E3) fa nm al
    have hne4 : 0 < (pushP E3 st3 nm al).2.length := by rw [pushP, if_pos hlt]; simp
    clear hdec HT hp4 hb3 hK3 hG3 ht3 q0 q1 q2 q3
    generalize pushP E3 st3 nm al = o4 at *
    obtain ⟨E4, st4⟩ := o4
    obtain ⟨F4, hb4, hK4, hG4, ht4, ht5⟩ := hi4
    obtain ⟨⟨q0, q1, q2, q3⟩, _⟩ := cells4 ht5
    obtain ⟨ga, gb, gc⟩ := hf4
    simp only at ga gb gc hb4 hne4
    go_upto_if 29 with fail
    generalize hbq : (!tx.isEmpty) = bx
    have HBX : Hid ((!tx.isEmpty) = bx) := hbq
    clear hbq
    go_cut [] from 5 (fun wx => PInv wb bb (F ++ (Value.slice va al.length vc).ownBlock.toList) tb (.cells #[.int .i64 s, .string ⟨nm.toArray⟩, .slice va al.length vc, .string ⟨tx.toArray⟩] 108 (0, 0)) (putT (E4, st4) tx) wx)
    case first =>
      cases bx with
      | false =>
        have HTX : Hid (tx = []) := by show _ = _; simpa using HBX.out
        go_wp2_with fail
        go_meet
        case rel =>
          have e1 : putT (E4, st4) tx = (E4, st4) := by rw [putT, if_pos HTX.out]
          rw [e1]
          exact ⟨F4, hb4, hK4, hG4, ht4, ht5⟩
      | true =>
        have HTX : Hid (¬ tx = []) := by show ¬ _; simpa using HBX.out
        have hop := fits_open (E := E4) ga
        go_wp2_with fail
        have htsz : (⟨tx.toArray⟩ : ByteArray).size = tx.length := by simp [ByteArray.size]
        have htt := textB_any bb F4 E4 st4 ⟨tx.toArray⟩ w4 hb4 (by simpa using HTX.out) ga (by omega) hop.1 (by have := hop.2.1; omega) (by rw [hop.2.2, htsz]; omega)
        have hks : (({ data := tx.toArray } : ByteArray).data.toList) = tx := by simp
        rw [hks] at htt
        refine htt.mono ?_
        clear htt hks
        rintro e w5 ⟨rfl, hp5⟩
        go_wp2_with fail
        go_meet
        case rel =>
          have e1 : putT (E4, st4) tx = (addText (openP E4 st4).1 tx, (openP E4 st4).2) := by rw [putT, if_neg HTX.out]
          rw [e1]
          exact PInv.step hK4 hG4 ht4 ht5 hp5
    case rest =>
    have hf5 := fits_put (k := 0) (Fits.here (E := E4) ga 0) tx
    have hne5 : 0 < (putT (E4, st4) tx).2.length := by
      unfold putT
      split
      · exact hne4
      · exact openP_pos E4 st4 hne4
    generalize putT (E4, st4) tx = o5 at *
    obtain ⟨E5, st5⟩ := o5
    clear hb4 hK4 hG4 ht4 ht5 q0 q1 q2 q3
    obtain ⟨F5, hb5, hK5, hG5, ht6, ht7⟩ := hcut
    obtain ⟨pa, pb, pc⟩ := hf5
    simp only at pa pb pc hb5 hne5
    by_cases hk1 : kindP nm = 1
    · have hkb : (kindP nm == 1) = true := by simp [hk1]
      have HT3 : Hid (otherP E st nm al tx = (closeE E5 st5 (st5.length - 1), st5.take (st5.length - 1))) := by show _ = _; rw [HT2.out, voidK, if_pos hk1]
      clear hk1
      have hb5' := hb5
      obtain ⟨tvV, ovV, tsV, osV, hbV, hEV, hSV⟩ := hb5'
      have hlenV : st5.length = osV.length := by rw [hSV]; simp
      obtain ⟨dv0, dv1, dv2, dv3⟩ := hbV.cells
      obtain ⟨oaV, ocV, rfl⟩ := ownsRow_form hbV.2.2.1.1
      obtain ⟨nV, hnV⟩ : ∃ nV, osV.length = nV + 1 := ⟨osV.length - 1, by omega⟩
      rw [hnV] at dv1
      have hsub : st5.length - 1 = nV := by omega
      clear hbV hEV hSV dv0 dv2 dv3
      go_wp2_with fail
      refine (closeFrom_any bb nV F5 E5 st5 _ hb5 (by omega) pa (by omega)).mono ?_
      rintro e w6 ⟨rfl, hp6⟩
      go_wp2_with fail
      go_end0
      refine ⟨rfl, ?_⟩
      rw [HT3.out, hsub]
      exact PInv.post HK0.out (PInv.step hK5 hG5 ht6 ht7 hp6)
    · have hkb : (kindP nm == 1) = false := by simp [hk1]
      have HT3 : Hid (otherP E st nm al tx = (E5, st5)) := by show _ = _; rw [HT2.out, voidK, if_neg hk1]
      clear hk1
      go_wp2_with fail
      go_end0
      refine ⟨rfl, ?_⟩
      rw [HT3.out]
      exact PInv.post HK0.out ⟨F5, hb5, hK5, hG5, ht6, ht7⟩
  · have hdec : decide (st3.length < 12) = false := by simp [hlt]
    rw [hdec]
    have HT2 : Hid (otherP E st nm al tx = (E3, st3)) := by show _ = _; rw [HT.out, if_neg hlt]
    have hi4 := PInv.push htbav hK3 hG3 ht3 hp4
    rw [pushP, if_neg hlt] at hi4
    clear hp4
    go_wp2_with fail
    refine bodyPost_ret (v := .tuple #[]) (by simp [results, Tryz.results120, go_sem]) rfl ?_
    refine ⟨rfl, ?_⟩
    rw [HT2.out]
    exact PInv.post HK0.out hi4
end Go.Proofs.YtlpmjpmefdpcmaaGreatDoor
namespace Go.Proofs.YtlpmjpmefdpcmaaGreatDoor
open Go.RowKit Scrub Go.Shelf
/-- A start. -/
def startT (E : List Ev) (st : List (List UInt8)) (nm : List UInt8) (al : List (List UInt8 × List UInt8)) (tx : List UInt8) : List Ev × List (List UInt8) :=
  if nm = [116, 114] then rowP E st al else if nm = [116, 100] then cellP E st al else otherP E st nm al tx
theorem fits_start {E : List Ev} {st : List (List UInt8)} (h : st.length ≤ 12) (nm : List UInt8) (al : List (List UInt8 × List UInt8)) (tx : List UInt8) : FitsT E (startT E st nm al tx) 66 tx.length := by
  unfold startT
  split
  · exact (fits_row h al).toT (by omega) _
  · split
    · exact (fits_cell h al).toT (by omega) _
    · exact fits_other h nm al tx
theorem APost.toB {bb : Nat} {F : List Nat} {av : Value} {w w' : World} {o : List Ev × List (List UInt8)} (h : APost bb F av w o w') : BPost bb (F ++ av.ownBlock.toList) w o.1 o.2 w' := by
  obtain ⟨F', h1, h2, h3⟩ := h
  exact ⟨F', h1, h2.mono (fun i hi => List.mem_append.2 (.inl hi)), h3⟩
set_option maxHeartbeats 4000000 in
theorem startB_any (bb : Nat) (F : List Nat) (E : List Ev) (st : List (List UInt8)) (s : Int) (nm : List UInt8) (av : Value) (al : List (List UInt8 × List UInt8)) (tx : List UInt8) (w : World) (h : Bld w bb F E st) (ha : AOwn w av al) (hn : nm ≠ []) (haf : ∀ k, av.ownBlock = some k → k ∉ F) (hst : st.length ≤ 12) (hEl : E.length ≤ 1099511627000) (hsz : evSize E + tx.length ≤ 1099511627776) :
    Calls Tryz.prog 79 #[.pointer (some ⟨bb, 0, none⟩), .agg #[.int .i64 s, .string ⟨nm.toArray⟩, av, .string ⟨tx.toArray⟩]] w
      fun e w' => e = .returned (.tuple #[]) ∧ BPost bb (F ++ av.ownBlock.toList) w (startT E st nm al tx).1 (startT E st nm al tx).2 w' := by
  obtain ⟨va, vc, rfl⟩ := ownsRow_form ha
  have hk0 : Kept [] w (w.alloc (.cells #[.int .i64 s, .string ⟨nm.toArray⟩, .slice va al.length vc, .string ⟨tx.toArray⟩] 108)) := (Kept.refl [] _).alloc _
  have hb0 := h.kept hk0 (by simp)
  have ha0 : AOwn _ (.slice va al.length vc) al := ownsRow_kept ha hk0 (by simp)
  clear h ha
  have HS : Hid (startT E st nm al tx = if nm = [116, 114] then rowP E st al else if nm = [116, 100] then cellP E st al else otherP E st nm al tx) := rfl
  by_cases h1 : nm = [116, 114]
  · have HS2 : Hid (startT E st nm al tx = rowP E st al) := by show _ = _; rw [HS.out, if_pos h1]
    clear HS
    subst h1
    go_enter Tryz.func79, Tryz.ntmps79
    go_wp2_with fail
    refine (startRow_any bb F E st _ al _ hb0 ha0 haf hst (by omega)).mono ?_
    rintro e w1 ⟨rfl, hp⟩
    go_wp2_with fail
    go_end0
    rw [HS2.out]
    exact ⟨rfl, BPost.after hk0 hp.toB⟩
  · have hb1 : (nm == [116, 114]) = false := by simp [h1]
    by_cases h2 : nm = [116, 100]
    · have HS2 : Hid (startT E st nm al tx = cellP E st al) := by show _ = _; rw [HS.out, if_neg h1, if_pos h2]
      clear HS hb1
      subst h2
      go_enter Tryz.func79, Tryz.ntmps79
      go_wp2_with fail
      refine (startCell_any bb F E st _ al _ hb0 ha0 haf hst (by omega)).mono ?_
      rintro e w1 ⟨rfl, hp⟩
      go_wp2_with fail
      go_end0
      rw [HS2.out]
      exact ⟨rfl, BPost.after hk0 hp.toB⟩
    · have HS2 : Hid (startT E st nm al tx = otherP E st nm al tx) := by show _ = _; rw [HS.out, if_neg h1, if_neg h2]
      have hb2 : (nm == [116, 100]) = false := by simp [h2]
      clear HS h1 h2
      go_enter Tryz.func79, Tryz.ntmps79
      go_wp2_with fail
      refine (startOther_any bb F E st s nm _ al tx _ hb0 ha0 hn haf hst hEl hsz).mono ?_
      rintro e w1 ⟨rfl, hp⟩
      go_wp2_with fail
      go_end0
      rw [HS2.out]
      exact ⟨rfl, BPost.after hk0 hp⟩
end Go.Proofs.YtlpmjpmefdpcmaaGreatDoor
