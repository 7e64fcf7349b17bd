import Derived.Test.YtlpmjpmefdpcmaaGreatDoorQTree8
import Derived.Test.YtlpmjpmefdpcmaaGreatDoorQText0
/- How long what is read gets: each step of the builder. No function of the program in it. -/
namespace Go.Proofs.YtlpmjpmefdpcmaaGreatDoor
open Go.RowKit Scrub Go.Shelf
theorem evSize_none (n : Nat) : evSize (List.replicate n none) = 0 := by
  induction n with
  | zero => rfl
  | succ n ih => simp [List.replicate_succ, evSize, ih]
theorem closeE_len (E : List Ev) (st : List (List UInt8)) (p : Nat) : (closeE E st p).length ≤ E.length + st.length := by
  simp [closeE]
theorem closeE_size (E : List Ev) (st : List (List UInt8)) (p : Nat) : evSize (closeE E st p) = evSize E := by
  rw [closeE, evSize_append, evSize_none]
  rfl
/-- At most 12 are open, at most k more events, no more text. -/
def Fits (E : List Ev) (o : List Ev × List (List UInt8)) (k : Nat) : Prop := o.2.length ≤ 12 ∧ o.1.length ≤ E.length + k ∧ evSize o.1 = evSize E
theorem Fits.here {E : List Ev} {st : List (List UInt8)} (h : st.length ≤ 12) (k : Nat) : Fits E (E, st) k := ⟨h, by simp, rfl⟩
theorem Fits.mono {E : List Ev} {o : List Ev × List (List UInt8)} {k k' : Nat} (h : Fits E o k) (hk : k ≤ k') : Fits E o k' := ⟨h.1, by have := h.2.1; omega, h.2.2⟩
theorem Fits.trans {E : List Ev} {o o' : List Ev × List (List UInt8)} {k k' : Nat} (h : Fits E o k) (h' : Fits o.1 o' k') : Fits E o' (k + k') := ⟨h'.1, by have := h.2.1; have := h'.2.1; omega, h'.2.2.trans h.2.2⟩
theorem fits_close {E : List Ev} {st : List (List UInt8)} (h : st.length ≤ 12) (p : Nat) : Fits E (closeE E st p, st.take p) 12 := by
  refine ⟨?_, ?_, closeE_size _ _ _⟩
  · simp; omega
  · have := closeE_len E st p
    simp only
    omega
theorem fits_push {E : List Ev} {st : List (List UInt8)} (h : st.length ≤ 12) (n : List UInt8) (al : List (List UInt8 × List UInt8)) : Fits E (pushP E st n al) 1 := by
  unfold pushP
  split
  · refine ⟨?_, ?_, ?_⟩
    · simp; omega
    · simp
    · rw [evSize_append]
      rfl
  · exact Fits.here h 1
theorem fits_row {E : List Ev} {st : List (List UInt8)} (h : st.length ≤ 12) (al : List (List UInt8 × List UInt8)) : Fits E (rowP E st al) 13 := by
  unfold rowP
  split
  · exact Fits.here h 13
  · have h1 := fits_close (E := E) h (lastIdx (fun m => m == [116, 97, 98, 108, 101]) st + 1).toNat
    exact h1.trans (fits_push (E := closeE E st (lastIdx (fun m => m == [116, 97, 98, 108, 101]) st + 1).toNat) h1.1 [116, 114] al)
theorem fits_ahead {E : List Ev} {st : List (List UInt8)} (h : st.length ≤ 12) : Fits E (cellAhead E st) 13 := by
  unfold cellAhead
  split
  · exact (fits_close h _).mono (by omega)
  · exact fits_row h []
theorem fits_cell {E : List Ev} {st : List (List UInt8)} (h : st.length ≤ 12) (al : List (List UInt8 × List UInt8)) : Fits E (cellP E st al) 14 := by
  unfold cellP
  split
  · exact Fits.here h 14
  · have h1 := fits_ahead (E := E) h
    exact h1.trans (fits_push (E := (cellAhead E st).1) h1.1 [116, 100] al)
theorem fits_open {E : List Ev} {st : List (List UInt8)} (h : st.length ≤ 12) : Fits E (openP E st) 14 := by
  unfold openP
  split
  · exact fits_cell h []
  · exact Fits.here h 14
theorem fits_para {E : List Ev} {st : List (List UInt8)} (h : st.length ≤ 12) : Fits E (paraP E st) 12 := by
  unfold paraP
  split
  · exact fits_close h _
  · exact Fits.here h 12
theorem fits_item {E : List Ev} {st : List (List UInt8)} (h : st.length ≤ 12) : Fits E (itemP E st) 12 := by
  unfold itemP
  split
  · exact fits_close h _
  · exact Fits.here h 12
theorem fits_end {E : List Ev} {st : List (List UInt8)} (h : st.length ≤ 12) (n : List UInt8) : Fits E (endE E st n) 12 := by
  unfold endE
  split
  · exact Fits.here h 12
  · exact fits_close h _
theorem addText_cases (E : List Ev) (t : List UInt8) : (∃ E0 t0, E = E0 ++ [evText t0] ∧ addText E t = E0 ++ [evText (t0 ++ t)]) ∨ addText E t = E ++ [evText t] := by
  unfold addText
  split
  · rename_i t0 h
    left
    obtain ⟨hne, hl⟩ := List.getLast?_eq_some_iff.1 h
    exact ⟨hne, t0, hl, by rw [hl]; simp⟩
  · right; rfl
theorem addText_len (E : List Ev) (t : List UInt8) : (addText E t).length ≤ E.length + 1 := by
  rcases addText_cases E t with ⟨E0, t0, h1, h2⟩ | h
  · rw [h2, h1]; simp
  · rw [h]; simp
theorem addText_size (E : List Ev) (t : List UInt8) : evSize (addText E t) = evSize E + t.length := by
  rcases addText_cases E t with ⟨E0, t0, h1, h2⟩ | h
  · rw [h2, h1, evSize_append, evSize_append]
    simp [evSize]
    omega
  · rw [h, evSize_append]
    simp [evSize]
theorem pushP_pos (E : List Ev) (st : List (List UInt8)) (n : List UInt8) (al : List (List UInt8 × List UInt8)) (h : 0 < st.length ∨ st.length < 12) : 0 < (pushP E st n al).2.length := by
  unfold pushP
  split
  · simp
  · rcases h with h | h
    · exact h
    · omega
theorem openP_pos (E : List Ev) (st : List (List UInt8)) (h : 0 < st.length) : 0 < (openP E st).2.length := by
  unfold openP
  split
  · unfold cellP
    split
    · exact h
    · refine pushP_pos _ _ _ _ ?_
      omega
  · exact h
/-- What follows once an element may be opened: it is, its text goes in, a void one is closed. -/
def tailP (E : List Ev) (st : List (List UInt8)) (nm : List UInt8) (al : List (List UInt8 × List UInt8)) (tx : List UInt8) : List Ev × List (List UInt8) :=
  if st.length < 12 then
    (if kindP nm = 1 then
      (closeE (if tx = [] then (pushP E st nm al).1 else addText (openP (pushP E st nm al).1 (pushP E st nm al).2).1 tx) (if tx = [] then (pushP E st nm al).2 else (openP (pushP E st nm al).1 (pushP E st nm al).2).2) ((if tx = [] then (pushP E st nm al).2 else (openP (pushP E st nm al).1 (pushP E st nm al).2).2).length - 1),
       (if tx = [] then (pushP E st nm al).2 else (openP (pushP E st nm al).1 (pushP E st nm al).2).2).take ((if tx = [] then (pushP E st nm al).2 else (openP (pushP E st nm al).1 (pushP E st nm al).2).2).length - 1))
    else (if tx = [] then (pushP E st nm al).1 else addText (openP (pushP E st nm al).1 (pushP E st nm al).2).1 tx, if tx = [] then (pushP E st nm al).2 else (openP (pushP E st nm al).1 (pushP E st nm al).2).2))
  else (E, st)
/-- A p is closed by a block element. -/
def paraK (k : Int) (o : List Ev × List (List UInt8)) : List Ev × List (List UInt8) := if k = 3 then paraP o.1 o.2 else o
/-- An li is closed by an li. -/
def itemK (nm : List UInt8) (o : List Ev × List (List UInt8)) : List Ev × List (List UInt8) := if nm = [108, 105] then itemP o.1 o.2 else o
/-- A start of any other element. -/
def otherP (E : List Ev) (st : List (List UInt8)) (nm : List UInt8) (al : List (List UInt8 × List UInt8)) (tx : List UInt8) : List Ev × List (List UInt8) :=
  tailP (itemK nm (paraK (kindP nm) (openP E st))).1 (itemK nm (paraK (kindP nm) (openP E st))).2 nm al tx
theorem fits_paraK {E : List Ev} {o : List Ev × List (List UInt8)} {k : Nat} (kd : Int) (h : Fits E o k) : Fits E (paraK kd o) (k + 12) := by
  unfold paraK
  split
  · exact h.trans (fits_para h.1)
  · exact h.mono (by omega)
theorem fits_itemK {E : List Ev} {o : List Ev × List (List UInt8)} {k : Nat} (nm : List UInt8) (h : Fits E o k) : Fits E (itemK nm o) (k + 12) := by
  unfold itemK
  split
  · exact h.trans (fits_item h.1)
  · exact h.mono (by omega)
/-- At most 12 are open, at most k more events, at most t more text. -/
def FitsT (E : List Ev) (o : List Ev × List (List UInt8)) (k t : Nat) : Prop := o.2.length ≤ 12 ∧ o.1.length ≤ E.length + k ∧ evSize o.1 ≤ evSize E + t
theorem Fits.toT {E : List Ev} {o : List Ev × List (List UInt8)} {k k' : Nat} (h : Fits E o k) (hk : k ≤ k') (t : Nat) : FitsT E o k' t := ⟨h.1, by have := h.2.1; omega, by rw [h.2.2]; omega⟩
theorem Fits.thenT {E : List Ev} {o o' : List Ev × List (List UInt8)} {k k' t : Nat} (h : Fits E o k) (h' : FitsT o.1 o' k' t) : FitsT E o' (k + k') t := ⟨h'.1, by have := h.2.1; have := h'.2.1; omega, by rw [← h.2.2]; exact h'.2.2⟩
theorem FitsT.then {E : List Ev} {o o' : List Ev × List (List UInt8)} {k k' t : Nat} (h : FitsT E o k t) (h' : Fits o.1 o' k') : FitsT E o' (k + k') t := ⟨h'.1, by have := h.2.1; have := h'.2.1; omega, by rw [h'.2.2]; exact h.2.2⟩
theorem FitsT.mono {E : List Ev} {o : List Ev × List (List UInt8)} {k k' t : Nat} (h : FitsT E o k t) (hk : k ≤ k') : FitsT E o k' t := ⟨h.1, by have := h.2.1; omega, h.2.2⟩
theorem fits_text {E : List Ev} {st : List (List UInt8)} (h : st.length ≤ 12) (t : List UInt8) : FitsT E (addText (openP E st).1 t, (openP E st).2) 15 t.length := by
  have h1 := fits_open (E := E) h
  have h2 := addText_len (openP E st).1 t
  have h3 := addText_size (openP E st).1 t
  refine ⟨h1.1, ?_, ?_⟩
  · have := h1.2.1
    simp only
    omega
  · simp only
    rw [h3, h1.2.2]
    omega
/-- The element's text goes in. -/
def putT (o : List Ev × List (List UInt8)) (tx : List UInt8) : List Ev × List (List UInt8) := if tx = [] then o else (addText (openP o.1 o.2).1 tx, (openP o.1 o.2).2)
/-- A void one is closed. -/
def voidK (k : Int) (o : List Ev × List (List UInt8)) : List Ev × List (List UInt8) := if k = 1 then (closeE o.1 o.2 (o.2.length - 1), o.2.take (o.2.length - 1)) else o
theorem tailP_eq (E : List Ev) (st : List (List UInt8)) (nm : List UInt8) (al : List (List UInt8 × List UInt8)) (tx : List UInt8) : tailP E st nm al tx = if st.length < 12 then voidK (kindP nm) (putT (pushP E st nm al) tx) else (E, st) := by
  unfold tailP voidK putT
  split
  · split <;> by_cases h : tx = [] <;> simp [h]
  · rfl
theorem fits_put {E : List Ev} {o : List Ev × List (List UInt8)} {k : Nat} (h : Fits E o k) (tx : List UInt8) : FitsT E (putT o tx) (k + 15) tx.length := by
  unfold putT
  split
  · exact h.toT (by omega) _
  · exact h.thenT (fits_text h.1 tx)
theorem fits_void {E : List Ev} {o : List Ev × List (List UInt8)} {k t : Nat} (kd : Int) (h : FitsT E o k t) : FitsT E (voidK kd o) (k + 12) t := by
  unfold voidK
  split
  · exact h.then (fits_close h.1 _)
  · exact h.mono (by omega)
theorem fits_tail {E : List Ev} {st : List (List UInt8)} (h : st.length ≤ 12) (nm : List UInt8) (al : List (List UInt8 × List UInt8)) (tx : List UInt8) : FitsT E (tailP E st nm al tx) 28 tx.length := by
  rw [tailP_eq]
  split
  · exact (fits_void (kindP nm) (fits_put (fits_push h nm al) tx)).mono (by omega)
  · exact (Fits.here h 28).toT (by omega) _
theorem fits_other {E : List Ev} {st : List (List UInt8)} (h : st.length ≤ 12) (nm : List UInt8) (al : List (List UInt8 × List UInt8)) (tx : List UInt8) : FitsT E (otherP E st nm al tx) 66 tx.length := by
  have h1 := fits_itemK nm (fits_paraK (kindP nm) (fits_open (E := E) h))
  exact (h1.thenT (fits_tail (E := (itemK nm (paraK (kindP nm) (openP E st))).1) h1.1 nm al tx)).mono (by omega)
end Go.Proofs.YtlpmjpmefdpcmaaGreatDoor
