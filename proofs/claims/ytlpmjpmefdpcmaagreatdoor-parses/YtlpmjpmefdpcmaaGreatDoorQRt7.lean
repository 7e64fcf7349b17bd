import Derived.Test.YtlpmjpmefdpcmaaGreatDoorQRt4
import Derived.Test.YtlpmjpmefdpcmaaGreatDoorQParse
/- What is written is read: rows of items, each of which is read as it was written. No function of the program in it. -/
namespace Go.Proofs.YtlpmjpmefdpcmaaGreatDoor
open Go.RowKit Scrub Go.Shelf
/-- A piece of what is written: a text; a start (with a raw element's text); an end. -/
abbrev Item := List UInt8 ⊕ ((List UInt8 × List (List UInt8 × List UInt8) × List UInt8) ⊕ List UInt8)
abbrev iText (t : List UInt8) : Item := .inl t
abbrev iStart (n : List UInt8) (al : List (List UInt8 × List UInt8)) (tx : List UInt8) : Item := .inr (.inl (n, al, tx))
abbrev iEnd (n : List UInt8) : Item := .inr (.inr n)
abbrev St := List Ev × List (List UInt8)
def itemW : Item → List UInt8
  | .inl t => escP [38, 60, 62] t
  | .inr (.inl (n, al, tx)) => startW n al ++ tx
  | .inr (.inr n) => endW n
/-- What it adds. -/
def itemEv : Item → List Ev
  | .inl t => [evText t]
  | .inr (.inl (n, al, tx)) => evOpen n al :: ((if tx = [] then [] else [evText tx]) ++ (if kindP n = 1 then [none] else []))
  | .inr (.inr _) => [none]
/-- What is open behind it. -/
def itemSt (st : List (List UInt8)) : Item → List (List UInt8)
  | .inl _ => st
  | .inr (.inl (n, _, _)) => if kindP n = 1 then st else st ++ [n]
  | .inr (.inr _) => st.dropLast
def stepI (o : St) (i : Item) : St := (o.1 ++ itemEv i, itemSt o.2 i)
def topKind (st : List (List UInt8)) : Int := if st = [] then 0 else kindP (st.getD (st.length - 1) [])
/-- It is read as it was written. -/
def stableI (o : St) : Item → Prop
  | .inl t => t ≠ [] ∧ openP o.1 o.2 = o ∧ addText o.1 t = o.1 ++ [evText t] ∧ topKind o.2 ≠ 2
  | .inr (.inl (n, al, tx)) => isNameP n = true ∧ attrsOkP al = true ∧ startT o.1 o.2 n al tx = stepI o (iStart n al tx) ∧ (kindP n ≠ 2 → tx = []) ∧ holdsEndP n tx = false ∧ topKind o.2 ≠ 2 ∧ o.2.length < 12
  | .inr (.inr n) => isNameP n = true ∧ kindP n ≠ 1 ∧ ∃ st', o.2 = st' ++ [n]
def stableL : St → List Item → Prop
  | _, [] => True
  | o, i :: r => stableI o i ∧ stableL (stepI o i) r
def runI (o : St) (l : List Item) : St := l.foldl stepI o
def writeI (l : List Item) : List UInt8 := l.flatMap itemW
theorem stableL_append (o : St) (a b : List Item) : stableL o (a ++ b) ↔ stableL o a ∧ stableL (runI o a) b := by
  induction a generalizing o with
  | nil => simp [stableL, runI]
  | cons i r ih =>
    show stableI o i ∧ stableL (stepI o i) (r ++ b) ↔ (stableI o i ∧ stableL (stepI o i) r) ∧ stableL (runI (stepI o i) r) b
    rw [ih]
    constructor
    · rintro ⟨h1, h2, h3⟩; exact ⟨⟨h1, h2⟩, h3⟩
    · rintro ⟨⟨h1, h2⟩, h3⟩; exact ⟨h1, h2, h3⟩
theorem runI_append (o : St) (a b : List Item) : runI o (a ++ b) = runI (runI o a) b := by simp [runI, List.foldl_append]
theorem runI_ev (o : St) (l : List Item) : (runI o l).1 = o.1 ++ l.flatMap itemEv := by
  induction l generalizing o with
  | nil => simp [runI]
  | cons i r ih =>
    show (runI (stepI o i) r).1 = _
    rw [ih]
    simp [stepI]
/-- How what is written next begins. -/
theorem begins_next (o : St) (l : List Item) (h : stableL o l) (hf : ∀ t r, l ≠ iText t :: r) : writeI l = [] ∨ beginsP (writeI l) ≠ 0 := by
  cases l with
  | nil => exact .inl rfl
  | cons i r =>
    right
    obtain ⟨h1, h2⟩ := h
    match i, h1 with
    | .inl t, _ => exact absurd rfl (hf t r)
    | .inr (.inl (n, al, tx)), h1 =>
      obtain ⟨c, t, rfl, g1, _, _⟩ := isName_cons h1.1
      have hr : writeI (.inr (.inl (c :: t, al, tx)) :: r) = 60 :: c :: (t ++ (al.flatMap attrW ++ 62 :: (tx ++ writeI r))) := by simp [writeI, itemW, startW]
      rw [hr, begins_start c _ g1]
      decide
    | .inr (.inr n), h1 =>
      obtain ⟨c, t, rfl, g1, _, _⟩ := isName_cons h1.1
      have hr : writeI (.inr (.inr (c :: t)) :: r) = 60 :: 47 :: c :: (t ++ 62 :: writeI r) := by simp [writeI, itemW, endW]
      rw [hr, begins_end c _ g1]
      decide
theorem addText_last (E : List Ev) (t t2 : List UInt8) (h : addText (E ++ [evText t]) t2 = E ++ [evText t] ++ [evText t2]) : False := by
  rw [addText_text] at h
  have := congrArg List.length h
  simp at this
theorem topKind_snoc (st : List (List UInt8)) (n : List UInt8) : topKind (st ++ [n]) = kindP n := by
  unfold topKind
  rw [if_neg (by simp)]
  congr 1
  simp [List.getD]
theorem lastIdx_top (st : List (List UInt8)) (n : List UInt8) : lastIdx (fun m => m == n) (st ++ [n]) = (st.length : Int) := by
  rw [lastIdx_snoc]
  simp
/-- The innermost is closed by its end. -/
theorem end_top (E : List Ev) (st : List (List UInt8)) (n : List UInt8) : endE E (st ++ [n]) n = (E ++ [none], st) := by
  unfold endE
  rw [lastIdx_top]
  have hl := lastIdx_lt (fun n => kindP n == 4) (st ++ [n])
  rw [if_neg]
  · have e : ((st.length : Int)).toNat = st.length := by simp
    rw [e]
    simp [closeE]
  · rintro (h | h)
    · omega
    · unfold limitP at h
      simp at hl
      omega
/-- One item is read. -/
theorem read_item (o : St) (i : Item) (r : List Item) (hi : stableI o i) (hr : stableL (stepI o i) r) (hend : (runI o (i :: r)).2 = []) : readFrom (itemW i ++ writeI r) o = readFrom (writeI r) (stepI o i) := by
  match i, hi, hr, hend with
  | .inl t, ⟨h1, h2, h3, h4⟩, hr, _ =>
    have hb := begins_next (stepI o (.inl t)) r hr (by
      intro t2 r2 e
      subst e
      exact addText_last o.1 t t2 (by simpa [stepI, itemEv] using hr.1.2.2.1))
    have hn := next_text t (writeI r) h1 hb
    show readFrom (escP [38, 60, 62] t ++ writeI r) o = _
    rw [readFrom_some hn]
    congr 1
    show (if (0 : Int) = 0 then (addText (openP o.1 o.2).1 t, (openP o.1 o.2).2) else _) = _
    rw [if_pos rfl, h2, h3]
    rfl
  | .inr (.inl (n, al, tx)), ⟨h1, h2, h3, h4, h5, h6, h7⟩, hr, hend =>
    have hn := next_start n al (tx ++ writeI r) h1 h2
    show readFrom (startW n al ++ tx ++ writeI r) o = _
    rw [List.append_assoc]
    by_cases hk : kindP n = 2
    · rw [if_pos hk] at hn
      have htop : topKind (stepI o (iStart n al tx)).2 = 2 := by
        show topKind (if kindP n = 1 then o.2 else o.2 ++ [n]) = 2
        rw [if_neg (by omega), topKind_snoc, hk]
      cases r with
      | nil =>
        exfalso
        have h0 : (stepI o (iStart n al tx)).2 = [] := hend
        rw [h0] at htop
        simp [topKind] at htop
      | cons j r2 =>
        match j, hr with
        | .inl t, hr => exact absurd htop hr.1.2.2.2
        | .inr (.inl (n2, al2, tx2)), hr => exact absurd htop hr.1.2.2.2.2.2.1
        | .inr (.inr n2), hr =>
          obtain ⟨_, _, st', hst⟩ := hr.1
          have hn2 : n2 = n := by
            have : o.2 ++ [n] = st' ++ [n2] := by
              have e : (stepI o (iStart n al tx)).2 = o.2 ++ [n] := by
                show (if kindP n = 1 then o.2 else o.2 ++ [n]) = _
                rw [if_neg (by omega)]
              rw [← e]
              exact hst
            have := congrArg List.getLast? this
            simpa using this.symm
          subst hn2
          have hw : writeI (.inr (.inr n2) :: r2) = endW n2 ++ writeI r2 := by simp [writeI, itemW]
          rw [hw] at hn ⊢
          rw [raw_written n2 h1 (writeI r2) tx h5] at hn
          rw [readFrom_some hn]
          congr 1
    · rw [if_neg hk] at hn
      have htx := h4 hk
      subst htx
      rw [List.nil_append] at hn ⊢
      rw [readFrom_some hn]
      congr 1
  | .inr (.inr n), ⟨h1, h2, st', hst⟩, hr, _ =>
    have hn := next_end n (writeI r) h1
    show readFrom (endW n ++ writeI r) o = _
    rw [readFrom_some hn]
    congr 1
    show (if (2 : Int) = 0 then _ else if (2 : Int) = 1 then _ else endE o.1 o.2 n) = _
    rw [if_neg (by decide), if_neg (by decide), hst, end_top]
    show _ = (o.1 ++ [none], o.2.dropLast)
    rw [hst]
    simp
theorem read_items : ∀ (l : List Item) (o : St), stableL o l → (runI o l).2 = [] → readFrom (writeI l) o = runI o l
  | [], o, _, _ => by
    show readFrom [] o = o
    exact readFrom_none nextP_nil o
  | i :: r, o, h, hend => by
    have e : writeI (i :: r) = itemW i ++ writeI r := by simp [writeI]
    rw [e, read_item o i r h.1 h.2 hend]
    exact read_items r (stepI o i) h.2 hend
/-- What is written is read again as it is. -/
theorem read_again (l : List Item) (h : stableL ([], []) l) (hend : (runI ([], []) l).2 = []) : readP (writeI l) = l.flatMap itemEv := by
  unfold readP
  rw [read_items l _ h hend, hend, runI_ev]
  simp [closeE]
end Go.Proofs.YtlpmjpmefdpcmaaGreatDoor
/- What is open: what holds of it, and what may be opened next. No function of the program in it. -/
namespace Go.Proofs.YtlpmjpmefdpcmaaGreatDoor
open Go.RowKit Scrub Go.Shelf
abbrev nTable : List UInt8 := [116, 97, 98, 108, 101]
abbrev nTr : List UInt8 := [116, 114]
abbrev nTd : List UInt8 := [116, 100]
abbrev nP : List UInt8 := [112]
abbrev nLi : List UInt8 := [108, 105]
abbrev nUl : List UInt8 := [117, 108]
/-- The last place where it holds. -/
theorem lastIdx_spec (p : List UInt8 → Bool) : ∀ (k : Nat) (st : List (List UInt8)), st.length = k → (lastIdx p st = -1 ∧ ∀ (i : Nat) n, st[i]? = some n → p n = false) ∨ (∃ (i : Nat) (n : List UInt8), lastIdx p st = (i : Int) ∧ st[i]? = some n ∧ p n = true ∧ ∀ (j : Nat) m, i < j → st[j]? = some m → p m = false)
  | 0, st, h => by
    have : st = [] := List.eq_nil_of_length_eq_zero h
    subst this
    exact .inl ⟨rfl, by simp⟩
  | k + 1, st, h => by
    rcases List.eq_nil_or_concat st with h0 | ⟨st', a, h0⟩
    · subst h0; simp at h
    · have h0' : st = st' ++ [a] := by simpa using h0
      subst h0'
      rw [lastIdx_snoc]
      by_cases hp : p a = true
      · right
        rw [if_pos hp]
        refine ⟨st'.length, a, rfl, by simp, hp, fun j m hj hm => ?_⟩
        rw [List.getElem?_eq_none (by simp; omega)] at hm
        cases hm
      · rw [if_neg hp]
        have hp' : p a = false := by simpa using hp
        rcases lastIdx_spec p k st' (by simp at h; omega) with ⟨h1, h2⟩ | ⟨i, n, h1, h2, h3, h4⟩
        · left
          refine ⟨h1, fun i n hi => ?_⟩
          by_cases hl : i < st'.length
          · rw [List.getElem?_append_left hl] at hi
            exact h2 i n hi
          · rw [List.getElem?_append_right (by omega)] at hi
            cases hd : i - st'.length with
            | zero => rw [hd] at hi; simp at hi; rw [← hi]; exact hp'
            | succ d => rw [hd] at hi; simp at hi
        · right
          have hil : i < st'.length := (List.getElem?_eq_some_iff.1 h2).1
          refine ⟨i, n, h1, by rw [List.getElem?_append_left hil]; exact h2, h3, fun j m hj hm => ?_⟩
          by_cases hl : j < st'.length
          · rw [List.getElem?_append_left hl] at hm
            exact h4 j m hj hm
          · rw [List.getElem?_append_right (by omega)] at hm
            cases hd : j - st'.length with
            | zero => rw [hd] at hm; simp at hm; rw [← hm]; exact hp'
            | succ d => rw [hd] at hm; simp at hm
/-- What holds of what is open. -/
structure SI (st : List (List UInt8)) : Prop where
  len : st.length ≤ 12
  name : ∀ n ∈ st, isNameP n = true ∧ kindP n ≠ 1
  raw : ∀ (i : Nat) n, st[i]? = some n → kindP n = 2 → i + 1 = st.length
  tab : ∀ (i : Nat) n, st[i]? = some nTable → st[i + 1]? = some n → n = nTr
  row : ∀ (i : Nat) n, st[i]? = some nTr → st[i + 1]? = some n → n = nTd
  trP : ∀ (i : Nat), st[i]? = some nTr → ∃ j, i = j + 1 ∧ st[j]? = some nTable
  tdP : ∀ (i : Nat), st[i]? = some nTd → ∃ j, i = j + 1 ∧ st[j]? = some nTr
  para : ∀ (i j : Nat) m, i < j → st[i]? = some nP → st[j]? = some m → kindP m = 3 → ∃ k, i < k ∧ k < j ∧ st[k]? = some nTd
  item : ∀ (i j : Nat), i < j → st[i]? = some nLi → st[j]? = some nLi → ∃ k, i < k ∧ k < j ∧ (st[k]? = some nTd ∨ st[k]? = some nUl)
theorem SI.nil : SI [] := ⟨by simp, by simp, by simp, by simp, by simp, by simp, by simp, by simp, by simp⟩
theorem take_some {st : List (List UInt8)} {p i : Nat} {n : List UInt8} (h : (st.take p)[i]? = some n) : i < p ∧ st[i]? = some n := by
  rw [List.getElem?_take] at h
  split at h
  · exact ⟨by assumption, h⟩
  · cases h
theorem take_mk {st : List (List UInt8)} {p i : Nat} {n : List UInt8} (hi : i < p) (h : st[i]? = some n) : (st.take p)[i]? = some n := by
  rw [List.getElem?_take, if_pos hi]
  exact h
theorem SI.take {st : List (List UInt8)} (h : SI st) (p : Nat) : SI (st.take p) := by
  refine ⟨?_, fun n hn => h.name n (List.mem_of_mem_take hn), ?_, ?_, ?_, ?_, ?_, ?_, ?_⟩
  · have := h.len; rw [List.length_take]; omega
  · intro i n hi hk
    obtain ⟨h1, h2⟩ := take_some hi
    have := h.raw i n h2 hk
    rw [List.length_take]
    omega
  · intro i n hi hj
    exact h.tab i n (take_some hi).2 (take_some hj).2
  · intro i n hi hj
    exact h.row i n (take_some hi).2 (take_some hj).2
  · intro i hi
    obtain ⟨h1, h2⟩ := take_some hi
    obtain ⟨j, rfl, hj⟩ := h.trP i h2
    exact ⟨j, rfl, take_mk (by omega) hj⟩
  · intro i hi
    obtain ⟨h1, h2⟩ := take_some hi
    obtain ⟨j, rfl, hj⟩ := h.tdP i h2
    exact ⟨j, rfl, take_mk (by omega) hj⟩
  · intro i j m hij hi hj hm
    obtain ⟨h1, h2⟩ := take_some hi
    obtain ⟨h3, h4⟩ := take_some hj
    obtain ⟨k, k1, k2, k3⟩ := h.para i j m hij h2 h4 hm
    exact ⟨k, k1, k2, take_mk (by omega) k3⟩
  · intro i j hij hi hj
    obtain ⟨h1, h2⟩ := take_some hi
    obtain ⟨h3, h4⟩ := take_some hj
    obtain ⟨k, k1, k2, k3⟩ := h.item i j hij h2 h4
    refine ⟨k, k1, k2, ?_⟩
    rcases k3 with k3 | k3
    · exact .inl (take_mk (by omega) k3)
    · exact .inr (take_mk (by omega) k3)
/-- No raw element is open. -/
def NoRaw (st : List (List UInt8)) : Prop := ∀ n ∈ st, kindP n ≠ 2
theorem NoRaw.take {st : List (List UInt8)} (h : NoRaw st) (p : Nat) : NoRaw (st.take p) := fun n hn => h n (List.mem_of_mem_take hn)
theorem topKind_eq {st : List (List UInt8)} {n : List UInt8} (h : st[st.length - 1]? = some n) : topKind st = kindP n := by
  have hne : st ≠ [] := by intro e; subst e; simp at h
  unfold topKind
  rw [if_neg hne, List.getD_eq_getElem?_getD, h]
  rfl
theorem NoRaw.of {st : List (List UInt8)} (h : SI st) (ht : topKind st ≠ 2) : NoRaw st := by
  intro n hn hk
  obtain ⟨i, hi, e⟩ := List.getElem_of_mem hn
  have h1 : st[i]? = some n := by rw [List.getElem?_eq_getElem hi, e]
  have h2 := h.raw i n h1 hk
  have h3 : st.length - 1 = i := by omega
  exact ht (by rw [topKind_eq (n := n) (by rw [h3]; exact h1)]; exact hk)
theorem NoRaw.top {st : List (List UInt8)} (h : NoRaw st) : topKind st ≠ 2 := by
  rcases List.eq_nil_or_concat st with h0 | ⟨l, a, h0⟩
  · subst h0; simp [topKind]
  · have h0' : st = l ++ [a] := by simpa using h0
    subst h0'
    rw [topKind_snoc]
    exact h a (by simp)
/-- No p is open within the innermost td. -/
def ParaOk (st : List (List UInt8)) : Prop := ∀ (i : Nat), st[i]? = some nP → ∃ k, i < k ∧ st[k]? = some nTd
/-- No li is open within the innermost td and ul. -/
def ItemOk (st : List (List UInt8)) : Prop := ∀ (i : Nat), st[i]? = some nLi → ∃ k, i < k ∧ (st[k]? = some nTd ∨ st[k]? = some nUl)
/-- Neither a table nor a tr is innermost. -/
def NotHolds (st : List (List UInt8)) : Prop := ∀ n, st[st.length - 1]? = some n → n ≠ nTable ∧ n ≠ nTr
theorem SI.snoc {st : List (List UInt8)} {n : List UInt8} (h : SI st) (hr : NoRaw st) (hl : st.length < 12) (hn : isNameP n = true) (hk : kindP n ≠ 1)
    (htab : ∀ m, st[st.length - 1]? = some m → (m = nTable → n = nTr) ∧ (m = nTr → n = nTd)) (htr : n = nTr → st[st.length - 1]? = some nTable) (htd : n = nTd → st[st.length - 1]? = some nTr)
    (hpa : kindP n = 3 → ParaOk st) (hit : n = nLi → ItemOk st) : SI (st ++ [n]) := by
  have app : ∀ (i : Nat) m, (st ++ [n])[i]? = some m → (i < st.length ∧ st[i]? = some m) ∨ (i = st.length ∧ m = n) := by
    intro i m hi
    by_cases hil : i < st.length
    · rw [List.getElem?_append_left hil] at hi
      exact .inl ⟨hil, hi⟩
    · rw [List.getElem?_append_right (by omega)] at hi
      cases hd : i - st.length with
      | zero => rw [hd] at hi; simp at hi; exact .inr ⟨by omega, hi.symm⟩
      | succ d => rw [hd] at hi; simp at hi
  have left : ∀ (i : Nat) m, st[i]? = some m → (st ++ [n])[i]? = some m := fun i m hi => by
    rw [List.getElem?_append_left (List.getElem?_eq_some_iff.1 hi).1]; exact hi
  refine ⟨by simp; omega, ?_, ?_, ?_, ?_, ?_, ?_, ?_, ?_⟩
  · intro m hm
    rcases List.mem_append.1 hm with hm | hm
    · exact h.name m hm
    · simp at hm; subst hm; exact ⟨hn, hk⟩
  · intro i m hi hk2
    rcases app i m hi with ⟨_, h2⟩ | ⟨rfl, _⟩
    · exact absurd hk2 (hr m (List.mem_of_getElem? h2))
    · simp
  · intro i m hi hj
    rcases app i _ hi with ⟨h1, h2⟩ | ⟨h1, _⟩
    · rcases app (i + 1) m hj with ⟨_, h4⟩ | ⟨h3, rfl⟩
      · exact h.tab i m h2 h4
      · have e : st.length - 1 = i := by omega
        exact (htab nTable (by rw [e]; exact h2)).1 rfl
    · rcases app (i + 1) m hj with ⟨h3, _⟩ | ⟨h3, _⟩ <;> omega
  · intro i m hi hj
    rcases app i _ hi with ⟨h1, h2⟩ | ⟨h1, _⟩
    · rcases app (i + 1) m hj with ⟨_, h4⟩ | ⟨h3, rfl⟩
      · exact h.row i m h2 h4
      · have e : st.length - 1 = i := by omega
        exact (htab nTr (by rw [e]; exact h2)).2 rfl
    · rcases app (i + 1) m hj with ⟨h3, _⟩ | ⟨h3, _⟩ <;> omega
  · intro i hi
    rcases app i _ hi with ⟨_, h2⟩ | ⟨rfl, h2⟩
    · obtain ⟨j, e, hj⟩ := h.trP i h2
      exact ⟨j, e, left j _ hj⟩
    · have := htr h2.symm
      have hpos : 0 < st.length := by
        have := (List.getElem?_eq_some_iff.1 this).1
        omega
      exact ⟨st.length - 1, by omega, left _ _ this⟩
  · intro i hi
    rcases app i _ hi with ⟨_, h2⟩ | ⟨rfl, h2⟩
    · obtain ⟨j, e, hj⟩ := h.tdP i h2
      exact ⟨j, e, left j _ hj⟩
    · have := htd h2.symm
      have hpos : 0 < st.length := by
        have := (List.getElem?_eq_some_iff.1 this).1
        omega
      exact ⟨st.length - 1, by omega, left _ _ this⟩
  · intro i j m hij hi hj hm
    rcases app j m hj with ⟨h3, h4⟩ | ⟨rfl, rfl⟩
    · rcases app i _ hi with ⟨_, h2⟩ | ⟨h1, _⟩
      · obtain ⟨k, k1, k2, k3⟩ := h.para i j m hij h2 h4 hm
        exact ⟨k, k1, k2, left k _ k3⟩
      · omega
    · rcases app i _ hi with ⟨_, h2⟩ | ⟨h1, _⟩
      · obtain ⟨k, k1, k2⟩ := hpa hm i h2
        exact ⟨k, k1, (List.getElem?_eq_some_iff.1 k2).1, left k _ k2⟩
      · omega
  · intro i j hij hi hj
    rcases app j _ hj with ⟨h3, h4⟩ | ⟨rfl, h4⟩
    · rcases app i _ hi with ⟨_, h2⟩ | ⟨h1, _⟩
      · obtain ⟨k, k1, k2, k3⟩ := h.item i j hij h2 h4
        refine ⟨k, k1, k2, ?_⟩
        rcases k3 with k3 | k3
        · exact .inl (left k _ k3)
        · exact .inr (left k _ k3)
      · omega
    · rcases app i _ hi with ⟨_, h2⟩ | ⟨h1, _⟩
      · obtain ⟨k, k1, k2⟩ := hit h4.symm i h2
        rcases k2 with k2 | k2
        · exact ⟨k, k1, (List.getElem?_eq_some_iff.1 k2).1, .inl (left k _ k2)⟩
        · exact ⟨k, k1, (List.getElem?_eq_some_iff.1 k2).1, .inr (left k _ k2)⟩
      · omega
/-- What is closed at a place that holds no tr and no td lies neither in a table nor in a tr. -/
theorem notHolds_take {st : List (List UInt8)} (h : SI st) {p : Nat} {m : List UInt8} (hp : st[p]? = some m) (h1 : m ≠ nTr) (h2 : m ≠ nTd) : NotHolds (st.take p) := by
  intro n hn
  have hpl : p < st.length := (List.getElem?_eq_some_iff.1 hp).1
  have hlen : (st.take p).length = p := by rw [List.length_take]; omega
  rw [hlen] at hn
  obtain ⟨h3, h4⟩ := take_some hn
  have e : p - 1 + 1 = p := by omega
  refine ⟨fun e1 => ?_, fun e1 => ?_⟩
  · subst e1
    exact h1 (h.tab (p - 1) m h4 (by rw [e]; exact hp))
  · subst e1
    exact h2 (h.row (p - 1) m h4 (by rw [e]; exact hp))
theorem kind_td (n : List UInt8) : (kindP n == 4) = (n == nTd) := by
  rw [Bool.eq_iff_iff]
  simp only [beq_iff_eq]
  constructor
  · intro h
    unfold kindP at h
    repeat' split at h
    all_goals first | omega | assumption
  · rintro rfl
    decide
theorem limitP_eq (st : List (List UInt8)) : limitP st = lastIdx (fun n => n == nTd) st := by
  unfold limitP
  congr 1
  funext n
  exact kind_td n
theorem para_noop {E : List Ev} {st : List (List UInt8)} (h : ParaOk st) : paraP E st = (E, st) := by
  unfold paraP
  rw [if_neg]
  intro hc
  rw [limitP_eq] at hc
  rcases lastIdx_spec (fun n => n == nP) _ st rfl with ⟨h1, _⟩ | ⟨i, n, h1, h2, h3, _⟩
  · have := lastIdx_ge (fun n => n == nTd) st
    rw [h1] at hc
    omega
  · have hn : n = nP := by simpa using h3
    subst hn
    obtain ⟨k, k1, k2⟩ := h i h2
    rcases lastIdx_spec (fun n => n == nTd) _ st rfl with ⟨g1, g2⟩ | ⟨j, m, g1, g2, g3, g4⟩
    · have := g2 k _ k2
      simp at this
    · rw [h1, g1] at hc
      have hjk : ¬ j < k := fun hjk => by
        have := g4 k _ hjk k2
        simp at this
      omega
theorem item_noop {E : List Ev} {st : List (List UInt8)} (h : ItemOk st) : itemP E st = (E, st) := by
  unfold itemP
  rw [if_neg]
  rintro ⟨hc, hli⟩
  rw [limitP_eq] at hc
  rcases lastIdx_spec itemB _ st rfl with ⟨h1, _⟩ | ⟨i, n, h1, h2, h3, h4⟩
  · have := lastIdx_ge (fun n => n == nTd) st
    rw [h1] at hc
    omega
  · rw [h1] at hli
    have e : ((i : Nat) : Int).toNat = i := by simp
    rw [e, List.getD_eq_getElem?_getD, h2] at hli
    have hn : n = nLi := hli
    subst hn
    obtain ⟨k, k1, k2⟩ := h i h2
    rcases k2 with k2 | k2
    · rcases lastIdx_spec (fun n => n == nTd) _ st rfl with ⟨g1, g2⟩ | ⟨j, m, g1, g2, g3, g4⟩
      · have := g2 k _ k2
        simp at this
      · rw [h1, g1] at hc
        have hjk : ¬ j < k := fun hjk => by
          have := g4 k _ hjk k2
          simp at this
        omega
    · have := h4 k _ k1 k2
      revert this
      decide
end Go.Proofs.YtlpmjpmefdpcmaaGreatDoor
/- Each step of reading adds what is read again as it is. No function of the program in it. -/
namespace Go.Proofs.YtlpmjpmefdpcmaaGreatDoor
open Go.RowKit Scrub Go.Shelf
/-- From o to o' by items that are read as they are written. -/
def Emit (o o' : St) : Prop := ∃ J, stableL o J ∧ runI o J = o'
theorem Emit.refl (o : St) : Emit o o := ⟨[], trivial, rfl⟩
theorem Emit.trans {a b c : St} (h : Emit a b) (k : Emit b c) : Emit a c := by
  obtain ⟨J, h1, h2⟩ := h
  obtain ⟨K, k1, k2⟩ := k
  exact ⟨J ++ K, (stableL_append _ _ _).2 ⟨h1, by rw [h2]; exact k1⟩, by rw [runI_append, h2, k2]⟩
theorem Emit.one {o : St} {i : Item} (h : stableI o i) : Emit o (stepI o i) := ⟨[i], ⟨h, trivial⟩, rfl⟩
theorem closeE_all (E : List Ev) (st : List (List UInt8)) : closeE E st st.length = E := by simp [closeE]
theorem emit_close : ∀ (k : Nat) (E : List Ev) (st : List (List UInt8)) (p : Nat), SI st → st.length = p + k → Emit (E, st) (closeE E st p, st.take p)
  | 0, E, st, p, _, h => by
    have h' : st.length = p := by omega
    subst h'
    rw [closeE_all, List.take_length]
    exact Emit.refl _
  | k + 1, E, st, p, hs, h => by
    rcases List.eq_nil_or_concat st with h0 | ⟨st', n, h0⟩
    · subst h0; simp at h
    · have h0' : st = st' ++ [n] := by simpa using h0
      subst h0'
      have hn := hs.name n (by simp)
      have hst : stableI (E, st' ++ [n]) (iEnd n) := ⟨hn.1, hn.2, st', rfl⟩
      have h1 := Emit.one hst
      have e1 : stepI (E, st' ++ [n]) (iEnd n) = (E ++ [none], st') := by simp [stepI, itemEv, itemSt]
      rw [e1] at h1
      have hs' : SI st' := by
        have := hs.take st'.length
        simpa using this
      have h2 := emit_close k (E ++ [none]) st' p hs' (by simp at h; omega)
      have e2 : closeE (E ++ [none]) st' p = closeE E (st' ++ [n]) p := by
        simp only [closeE, List.length_append, List.length_cons, List.length_nil]
        have : st'.length + 1 - p = (st'.length - p) + 1 := by simp at h; omega
        rw [this, List.replicate_succ]
        simp
      have e3 : st'.take p = (st' ++ [n]).take p := by
        rw [List.take_append_of_le_length (by simp at h; omega)]
      rw [e2, e3] at h2
      exact h1.trans h2
theorem emit_close' {E : List Ev} {st : List (List UInt8)} (h : SI st) {p : Nat} (hp : p ≤ st.length) : Emit (E, st) (closeE E st p, st.take p) := emit_close (st.length - p) E st p h (by omega)
theorem tableI_top (st : List (List UInt8)) : tableI (st ++ [nTable]) = (st.length : Int) := by
  unfold tableI
  rw [lastIdx_snoc]
  simp
theorem trI_top (st : List (List UInt8)) : trI (st ++ [nTr]) = (st.length : Int) := by
  unfold trI
  rw [lastIdx_snoc]
  simp
/-- A tr in a table. -/
theorem row_top (E : List Ev) (st : List (List UInt8)) (al : List (List UInt8 × List UInt8)) : rowP E (st ++ [nTable]) al = pushP E (st ++ [nTable]) nTr al := by
  have h := tableI_top st
  unfold tableI at h
  unfold rowP
  rw [h, if_neg (by omega)]
  have e : ((st.length : Int) + 1).toNat = (st ++ [nTable]).length := by simp
  rw [e, closeE_all, List.take_length]
theorem cell_top (E : List Ev) (st : List (List UInt8)) (al : List (List UInt8 × List UInt8)) (ht : tableI (st ++ [nTr]) ≠ -1) : cellP E (st ++ [nTr]) al = pushP E (st ++ [nTr]) nTd al := by
  have h2 : tableI (st ++ [nTr]) < (st.length : Int) := by
    unfold tableI
    rw [lastIdx_snoc, if_neg (by decide)]
    exact lastIdx_lt _ st
  unfold cellP
  rw [if_neg ht]
  unfold cellAhead
  rw [trI_top, if_pos h2]
  have e : ((st.length : Int) + 1).toNat = (st ++ [nTr]).length := by simp
  simp only
  rw [e, closeE_all, List.take_length]
theorem push_lt {E : List Ev} {st : List (List UInt8)} (h : st.length < 12) (n : List UInt8) (al : List (List UInt8 × List UInt8)) : pushP E st n al = (E ++ [evOpen n al], st ++ [n]) := by rw [pushP, if_pos h]
theorem push_ge {E : List Ev} {st : List (List UInt8)} (h : ¬ st.length < 12) (n : List UInt8) (al : List (List UInt8 × List UInt8)) : pushP E st n al = (E, st) := by rw [pushP, if_neg h]
theorem getLast_snoc (st : List (List UInt8)) (n : List UInt8) : (st ++ [n])[(st ++ [n]).length - 1]? = some n := by simp
theorem notP_tr : kindP nTr = 0 := by decide
theorem notP_td : kindP nTd = 4 := by decide
theorem tableOf_tr {st : List (List UInt8)} (h : SI (st ++ [nTr])) : tableI (st ++ [nTr]) ≠ -1 := by
  obtain ⟨j, hj, ht⟩ := h.trP st.length (by simp)
  intro hc
  unfold tableI at hc
  rcases lastIdx_spec (fun m => m == nTable) _ (st ++ [nTr]) rfl with ⟨_, g2⟩ | ⟨i, n, g1, _⟩
  · have := g2 j _ ht
    simp at this
  · rw [hc] at g1
    omega
/-- A tr is opened in a table. -/
theorem open_tr {E : List Ev} {st : List (List UInt8)} {al : List (List UInt8 × List UInt8)} (h : SI (st ++ [nTable])) (hr : NoRaw (st ++ [nTable])) (hl : (st ++ [nTable]).length < 12) (ha : attrsOkP al = true) :
    Emit (E, st ++ [nTable]) (E ++ [evOpen nTr al], st ++ [nTable] ++ [nTr]) ∧ SI (st ++ [nTable] ++ [nTr]) ∧ NoRaw (st ++ [nTable] ++ [nTr]) := by
  refine ⟨?_, ?_, ?_⟩
  · have hst : stableI (E, st ++ [nTable]) (iStart nTr al []) := by
      refine ⟨by decide, ha, ?_, fun _ => rfl, rfl, hr.top, hl⟩
      show startT E (st ++ [nTable]) nTr al [] = _
      rw [startT, if_pos rfl, row_top, push_lt hl]
      rfl
    exact Emit.one hst
  · refine h.snoc hr hl (by decide) (by decide) (fun m hm => ?_) (fun _ => getLast_snoc _ _) (fun e => by cases e) (fun e => by rw [notP_tr] at e; omega) (fun e => by cases e)
    rw [getLast_snoc] at hm
    injection hm with hm
    subst hm
    exact ⟨fun _ => rfl, (fun e => by cases e)⟩
  · intro n hn
    rcases List.mem_append.1 hn with hn | hn
    · exact hr n hn
    · simp at hn; subst hn; decide
/-- A td is opened in a tr. -/
theorem open_td {E : List Ev} {st : List (List UInt8)} {al : List (List UInt8 × List UInt8)} (h : SI (st ++ [nTr])) (hr : NoRaw (st ++ [nTr])) (hl : (st ++ [nTr]).length < 12) (ha : attrsOkP al = true) :
    Emit (E, st ++ [nTr]) (E ++ [evOpen nTd al], st ++ [nTr] ++ [nTd]) ∧ SI (st ++ [nTr] ++ [nTd]) ∧ NoRaw (st ++ [nTr] ++ [nTd]) := by
  refine ⟨?_, ?_, ?_⟩
  · have hst : stableI (E, st ++ [nTr]) (iStart nTd al []) := by
      refine ⟨by decide, ha, ?_, fun _ => rfl, rfl, hr.top, hl⟩
      show startT E (st ++ [nTr]) nTd al [] = _
      rw [startT, if_neg (by decide), if_pos rfl, cell_top E st al (tableOf_tr h), push_lt hl]
      rfl
    exact Emit.one hst
  · refine h.snoc hr hl (by decide) (by decide) (fun m hm => ?_) (fun e => by cases e) (fun _ => getLast_snoc _ _) (fun e => by rw [notP_td] at e; omega) (fun e => by cases e)
    rw [getLast_snoc] at hm
    injection hm with hm
    subst hm
    exact ⟨(fun e => by cases e), fun _ => rfl⟩
  · intro n hn
    rcases List.mem_append.1 hn with hn | hn
    · exact hr n hn
    · simp at hn; subst hn; decide
/-- Good between two tokens, no raw element open. -/
structure GS (st : List (List UInt8)) : Prop where
  si : SI st
  nr : NoRaw st
theorem GS.take {st : List (List UInt8)} (h : GS st) (p : Nat) : GS (st.take p) := ⟨h.si.take p, h.nr.take p⟩
theorem holds_top (st : List (List UInt8)) (n : List UInt8) : holdsP ((st ++ [n]).getD ((st ++ [n]).length - 1) []) = (decide (n = nTable) || decide (n = nTr)) := by
  simp [List.getD, holdsP]
theorem open_noop {E : List Ev} {st : List (List UInt8)} (h : NotHolds st) : openP E st = (E, st) := by
  unfold openP
  rw [if_neg]
  rintro ⟨hne, hh⟩
  rcases List.eq_nil_or_concat st with h0 | ⟨l, a, h0⟩
  · exact hne h0
  · have h0' : st = l ++ [a] := by simpa using h0
    subst h0'
    rw [holds_top] at hh
    have := h a (getLast_snoc _ _)
    simp at hh
    rcases hh with hh | hh
    · exact this.1 hh
    · exact this.2 hh
theorem notHolds_td (st : List (List UInt8)) : NotHolds (st ++ [nTd]) := by
  intro n hn
  rw [getLast_snoc] at hn
  injection hn with hn
  subst hn
  decide
/-- What is opened ahead of a text, or of any other start. -/
theorem emit_open {E : List Ev} {st : List (List UInt8)} (h : GS st) : Emit (E, st) (openP E st) ∧ GS (openP E st).2 ∧ openP (openP E st).1 (openP E st).2 = openP E st ∧ ((openP E st).2.length = 12 ∨ NotHolds (openP E st).2) := by
  rcases List.eq_nil_or_concat st with h0 | ⟨l, a, h0⟩
  · subst h0
    have e : openP E [] = (E, []) := open_noop (by intro n hn; simp at hn)
    rw [e]
    exact ⟨Emit.refl _, h, e, .inr (by intro n hn; simp at hn)⟩
  · have h0' : st = l ++ [a] := by simpa using h0
    subst h0'
    by_cases ht : a = nTable
    · subst ht
      have eop : openP E (l ++ [nTable]) = cellP E (l ++ [nTable]) [] := by
        rw [openP, if_pos ⟨by simp, by rw [holds_top]; simp⟩]
      have etr : trI (l ++ [nTable]) < (l.length : Int) := by
        unfold trI
        rw [lastIdx_snoc, if_neg (by decide)]
        exact lastIdx_lt _ l
      have eca : cellAhead E (l ++ [nTable]) = pushP E (l ++ [nTable]) nTr [] := by
        unfold cellAhead
        rw [tableI_top, if_neg (by omega), row_top]
      have ecp : cellP E (l ++ [nTable]) [] = pushP (pushP E (l ++ [nTable]) nTr []).1 (pushP E (l ++ [nTable]) nTr []).2 nTd [] := by
        unfold cellP
        rw [tableI_top, if_neg (by omega), eca]
      rw [eop, ecp]
      by_cases hl : (l ++ [nTable]).length < 12
      · rw [push_lt hl]
        simp only
        obtain ⟨m1, m2, m3⟩ := open_tr (E := E) h.si h.nr hl (al := []) rfl
        by_cases hl2 : (l ++ [nTable] ++ [nTr]).length < 12
        · rw [push_lt hl2]
          simp only
          obtain ⟨k1, k2, k3⟩ := open_td (E := E ++ [evOpen nTr []]) (st := l ++ [nTable]) m2 m3 hl2 (al := []) rfl
          exact ⟨m1.trans k1, ⟨k2, k3⟩, open_noop (notHolds_td _), .inr (notHolds_td _)⟩
        · rw [push_ge hl2]
          simp only
          refine ⟨m1, ⟨m2, m3⟩, ?_, .inl (by have := m2.len; omega)⟩
          rw [openP, if_pos ⟨by simp, by rw [holds_top]; simp⟩, cell_top _ (l ++ [nTable]) [] (tableOf_tr m2), push_ge hl2]
      · rw [push_ge hl]
        simp only
        rw [push_ge hl]
        refine ⟨Emit.refl _, h, ?_, .inl (by have := h.si.len; simp only; omega)⟩
        rw [eop, ecp, push_ge hl]
        simp only
        rw [push_ge hl]
    · by_cases ht2 : a = nTr
      · subst ht2
        have eop : openP E (l ++ [nTr]) = pushP E (l ++ [nTr]) nTd [] := by
          rw [openP, if_pos ⟨by simp, by rw [holds_top]; simp⟩, cell_top E l [] (tableOf_tr h.si)]
        rw [eop]
        by_cases hl : (l ++ [nTr]).length < 12
        · rw [push_lt hl]
          simp only
          obtain ⟨k1, k2, k3⟩ := open_td (E := E) h.si h.nr hl (al := []) rfl
          exact ⟨k1, ⟨k2, k3⟩, open_noop (notHolds_td _), .inr (notHolds_td _)⟩
        · rw [push_ge hl]
          simp only
          exact ⟨Emit.refl _, h, by rw [eop, push_ge hl], .inl (by have := h.si.len; omega)⟩
      · have hn : NotHolds (l ++ [a]) := by
          intro n hn
          rw [getLast_snoc] at hn
          injection hn with hn
          subst hn
          exact ⟨ht, ht2⟩
        rw [open_noop hn]
        exact ⟨Emit.refl _, h, open_noop hn, .inr hn⟩
/-- A p is closed ahead of a block element. -/
theorem emit_para {E : List Ev} {st : List (List UInt8)} (h : GS st) (hn : st.length = 12 ∨ NotHolds st) : Emit (E, st) (paraP E st) ∧ GS (paraP E st).2 ∧ ParaOk (paraP E st).2 ∧ ((paraP E st).2.length = 12 ∨ NotHolds (paraP E st).2) := by
  unfold paraP
  rw [limitP_eq]
  split
  · rename_i hc
    rcases lastIdx_spec (fun n => n == nP) _ st rfl with ⟨h1, _⟩ | ⟨i, n, h1, h2, h3, _⟩
    · have := lastIdx_ge (fun n => n == nTd) st
      rw [h1] at hc
      omega
    · have hn' : n = nP := by simpa using h3
      subst hn'
      rw [h1]
      have e : ((i : Nat) : Int).toNat = i := by simp
      have hil : i < st.length := (List.getElem?_eq_some_iff.1 h2).1
      rw [e]
      simp only
      refine ⟨emit_close' h.si (by omega), h.take i, fun j hj => ?_, .inr (notHolds_take h.si h2 (by decide) (by decide))⟩
      obtain ⟨j1, j2⟩ := take_some hj
      obtain ⟨k, k1, k2, k3⟩ := h.si.para j i nP j1 j2 h2 (by decide)
      exact ⟨k, k1, take_mk k2 k3⟩
  · rename_i hc
    refine ⟨Emit.refl _, h, fun i hi => ?_, hn⟩
    rcases lastIdx_spec (fun n => n == nP) _ st rfl with ⟨_, g2⟩ | ⟨j, n, h1, h2, h3, h4⟩
    · have := g2 i _ hi
      simp at this
    · rcases lastIdx_spec (fun n => n == nTd) _ st rfl with ⟨g1, _⟩ | ⟨k, m, g1, g2, g3, _⟩
      · rw [g1, h1] at hc
        omega
      · rw [g1, h1] at hc
        have hm : m = nTd := by simpa using g3
        subst hm
        have hij : ¬ j < i := fun hij => by
          have := h4 i _ hij hi
          simp at this
        have hne : i ≠ k := by
          intro e
          subst e
          rw [hi] at g2
          cases g2
        exact ⟨k, by omega, g2⟩
/-- An li is closed ahead of an li. -/
theorem emit_item {E : List Ev} {st : List (List UInt8)} (h : GS st) (hp : ParaOk st) (hn : st.length = 12 ∨ NotHolds st) : Emit (E, st) (itemP E st) ∧ GS (itemP E st).2 ∧ ParaOk (itemP E st).2 ∧ ItemOk (itemP E st).2 ∧ ((itemP E st).2.length = 12 ∨ NotHolds (itemP E st).2) := by
  unfold itemP
  rw [limitP_eq]
  split
  · rename_i hc
    obtain ⟨hc1, hc2⟩ := hc
    rcases lastIdx_spec itemB _ st rfl with ⟨h1, _⟩ | ⟨i, n, h1, h2, h3, _⟩
    · have := lastIdx_ge (fun n => n == nTd) st
      rw [h1] at hc1
      omega
    · rw [h1] at hc1 hc2 ⊢
      have e : ((i : Nat) : Int).toNat = i := by simp
      have hil : i < st.length := (List.getElem?_eq_some_iff.1 h2).1
      rw [e] at hc2 ⊢
      rw [List.getD_eq_getElem?_getD, h2] at hc2
      have hn' : n = nLi := hc2
      subst hn'
      simp only
      refine ⟨emit_close' h.si (by omega), h.take i, fun j hj => ?_, fun j hj => ?_, .inr (notHolds_take h.si h2 (by decide) (by decide))⟩
      · obtain ⟨j1, j2⟩ := take_some hj
        obtain ⟨k, k1, k2⟩ := hp j j2
        refine ⟨k, k1, take_mk ?_ k2⟩
        rcases lastIdx_spec (fun n => n == nTd) _ st rfl with ⟨_, g2⟩ | ⟨q, m, g1, g2, g3, g4⟩
        · have := g2 k _ k2
          simp at this
        · rw [g1] at hc1
          have hqk : ¬ q < k := fun hqk => by
            have := g4 k _ hqk k2
            simp at this
          omega
      · obtain ⟨j1, j2⟩ := take_some hj
        obtain ⟨k, k1, k2, k3⟩ := h.si.item j i j1 j2 h2
        refine ⟨k, k1, ?_⟩
        rcases k3 with k3 | k3
        · exact .inl (take_mk k2 k3)
        · exact .inr (take_mk k2 k3)
  · rename_i hc
    refine ⟨Emit.refl _, h, hp, fun i hi => ?_, hn⟩
    rcases lastIdx_spec itemB _ st rfl with ⟨_, g2⟩ | ⟨j, n, h1, h2, h3, h4⟩
    · exact absurd (g2 i _ hi) (by decide)
    · have hij : ¬ j < i := fun hij => absurd (h4 i _ hij hi) (by decide)
      by_cases hli : n = nLi
      · subst hli
        have hlim : ¬ lastIdx (fun n => n == nTd) st < lastIdx itemB st := by
          intro hlt
          refine hc ⟨hlt, ?_⟩
          rw [h1]
          have e : ((j : Nat) : Int).toNat = j := by simp
          rw [e, List.getD_eq_getElem?_getD, h2]
          rfl
        rcases lastIdx_spec (fun n => n == nTd) _ st rfl with ⟨g1, _⟩ | ⟨k, m, g1, g2, g3, _⟩
        · rw [g1, h1] at hlim
          omega
        · rw [g1, h1] at hlim
          have hm : m = nTd := by simpa using g3
          subst hm
          have hne : i ≠ k := by
            intro e
            subst e
            rw [hi] at g2
            cases g2
          exact ⟨k, by omega, .inl g2⟩
      · have hul : n = nUl := by
          unfold itemB at h3
          simp at h3
          rcases h3 with h3 | h3
          · exact absurd h3 hli
          · exact h3
        subst hul
        have hne : i ≠ j := by
          intro e
          subst e
          rw [hi] at h2
          cases h2
        exact ⟨j, by omega, .inr h2⟩
end Go.Proofs.YtlpmjpmefdpcmaaGreatDoor
/- What is read is read again as it is: all tokens. No function of the program in it. -/
namespace Go.Proofs.YtlpmjpmefdpcmaaGreatDoor
open Go.RowKit Scrub Go.Shelf
theorem kind_li : kindP nLi = 3 := by decide
theorem notHolds_snoc {st : List (List UInt8)} {n : List UInt8} (h1 : n ≠ nTable) (h2 : n ≠ nTr) : NotHolds (st ++ [n]) := by
  intro m hm
  rw [getLast_snoc] at hm
  injection hm with hm
  subst hm
  exact ⟨h1, h2⟩
/-- An element is opened. -/
theorem tail_step {E : List Ev} {st : List (List UInt8)} {n : List UInt8} {al : List (List UInt8 × List UInt8)} {tx : List UInt8} (hl : st.length < 12) (htx : kindP n ≠ 2 → tx = []) : tailP E st n al tx = stepI (E, st) (iStart n al tx) := by
  rw [tailP_eq, if_pos hl, push_lt hl]
  by_cases ht : tx = []
  · subst ht
    rw [putT, if_pos rfl]
    by_cases hk : kindP n = 1
    · rw [voidK, if_pos hk]
      simp [stepI, itemEv, itemSt, hk, closeE]
    · rw [voidK, if_neg hk]
      simp [stepI, itemEv, itemSt, hk]
  · have hk : kindP n = 2 := Classical.byContradiction fun hc => ht (htx hc)
    have h1 : n ≠ nTable := fun e => by rw [e] at hk; revert hk; decide
    have h2 : n ≠ nTr := fun e => by rw [e] at hk; revert hk; decide
    rw [putT, if_neg ht]
    simp only
    rw [open_noop (notHolds_snoc h1 h2)]
    simp only
    rw [addText_open, voidK, if_neg (by omega)]
    simp [stepI, itemEv, itemSt, hk, ht]
theorem emit_other {E : List Ev} {st : List (List UInt8)} {n : List UInt8} {al : List (List UInt8 × List UInt8)} {tx : List UInt8} (h : GS st) (hn : isNameP n = true) (ha : attrsOkP al = true) (h1 : n ≠ nTr) (h2 : n ≠ nTd) (htx : kindP n ≠ 2 → tx = []) (hraw : holdsEndP n tx = false) :
    Emit (E, st) (otherP E st n al tx) ∧ SI (otherP E st n al tx).2 ∧ (kindP n ≠ 2 → NoRaw (otherP E st n al tx).2) ∧ (kindP n = 2 → NoRaw (otherP E st n al tx).2 ∨ ∃ st', (otherP E st n al tx).2 = st' ++ [n]) := by
  obtain ⟨o1, o2, o3, o4⟩ := emit_open (E := E) h
  -- behind what is closed
  have key : ∃ E3 st3, itemK n (paraK (kindP n) (openP E st)) = (E3, st3) ∧ Emit (E, st) (E3, st3) ∧ GS st3 ∧ (kindP n = 3 → ParaOk st3) ∧ (n = nLi → ItemOk st3) ∧ (st3.length = 12 ∨ NotHolds st3) := by
    by_cases hk : kindP n = 3
    · obtain ⟨p1, p2, p3, p4⟩ := emit_para (E := (openP E st).1) o2 o4
      rw [paraK, if_pos hk]
      by_cases hli : n = nLi
      · obtain ⟨i1, i2, i3, i4, i5⟩ := emit_item (E := (paraP (openP E st).1 (openP E st).2).1) p2 p3 p4
        rw [itemK, if_pos hli]
        exact ⟨_, _, rfl, (o1.trans p1).trans i1, i2, fun _ => i3, fun _ => i4, i5⟩
      · rw [itemK, if_neg hli]
        exact ⟨_, _, rfl, o1.trans p1, p2, fun _ => p3, fun e => absurd e hli, p4⟩
    · have hli : n ≠ nLi := fun e => hk (by rw [e]; exact kind_li)
      rw [paraK, if_neg hk, itemK, if_neg hli]
      exact ⟨_, _, rfl, o1, o2, fun e => absurd e hk, fun e => absurd e hli, o4⟩
  obtain ⟨E3, st3, e3, k1, k2, k3, k4, k5⟩ := key
  have eo : otherP E st n al tx = tailP E3 st3 n al tx := by rw [otherP, e3]
  rw [eo]
  by_cases hl : st3.length < 12
  · have hnh : NotHolds st3 := by
      rcases k5 with k5 | k5
      · omega
      · exact k5
    have hst : stableI (E3, st3) (iStart n al tx) := by
      refine ⟨hn, ha, ?_, htx, hraw, k2.nr.top, hl⟩
      show startT E3 st3 n al tx = _
      rw [startT, if_neg h1, if_neg h2, otherP, open_noop hnh]
      have e1 : paraK (kindP n) (E3, st3) = (E3, st3) := by
        unfold paraK
        split
        · rename_i hk
          exact para_noop (k3 hk)
        · rfl
      rw [e1]
      have e2 : itemK n (E3, st3) = (E3, st3) := by
        unfold itemK
        split
        · rename_i hli
          exact item_noop (k4 hli)
        · rfl
      rw [e2]
      exact tail_step hl htx
    rw [tail_step hl htx]
    refine ⟨k1.trans (Emit.one hst), ?_, ?_, ?_⟩
    · show SI (if kindP n = 1 then st3 else st3 ++ [n])
      split
      · exact k2.si
      · rename_i hk
        exact k2.si.snoc k2.nr hl hn hk (fun m hm => ⟨fun e => absurd e (hnh m hm).1, fun e => absurd e (hnh m hm).2⟩) (fun e => absurd e h1) (fun e => absurd e h2) k3 k4
    · intro hk2
      show NoRaw (if kindP n = 1 then st3 else st3 ++ [n])
      split
      · exact k2.nr
      · intro m hm
        rcases List.mem_append.1 hm with hm | hm
        · exact k2.nr m hm
        · simp at hm; subst hm; exact hk2
    · intro hk2
      right
      show ∃ st', (if kindP n = 1 then st3 else st3 ++ [n]) = st' ++ [n]
      rw [if_neg (by omega)]
      exact ⟨st3, rfl⟩
  · have et : tailP E3 st3 n al tx = (E3, st3) := by rw [tailP_eq, if_neg hl]
    rw [et]
    exact ⟨k1, k2.si, fun _ => k2.nr, fun _ => .inl k2.nr⟩
theorem take_table {st : List (List UInt8)} {i : Nat} {n : List UInt8} (h : st[i]? = some n) : st.take (i + 1) = st.take i ++ [n] := by
  have hi := (List.getElem?_eq_some_iff.1 h).1
  rw [List.take_succ_eq_append_getElem hi]
  congr 2
  rw [List.getElem?_eq_getElem hi] at h
  exact Option.some.inj h
/-- A start of a tr. -/
theorem emit_row {E : List Ev} {st : List (List UInt8)} {al : List (List UInt8 × List UInt8)} (h : GS st) (ha : attrsOkP al = true) : Emit (E, st) (rowP E st al) ∧ GS (rowP E st al).2 := by
  unfold rowP
  rcases lastIdx_spec (fun m => m == nTable) _ st rfl with ⟨h1, _⟩ | ⟨i, n, h1, h2, h3, _⟩
  · rw [h1, if_pos rfl]
    exact ⟨Emit.refl _, h⟩
  · have hn : n = nTable := by simpa using h3
    subst hn
    rw [h1, if_neg (by omega)]
    have e : ((i : Int) + 1).toNat = i + 1 := by omega
    have hil : i < st.length := (List.getElem?_eq_some_iff.1 h2).1
    rw [e]
    have hc := emit_close' (E := E) h.si (p := i + 1) (by omega)
    have hg := h.take (i + 1)
    rw [take_table h2] at hc hg ⊢
    by_cases hl : (st.take i ++ [nTable]).length < 12
    · rw [push_lt hl]
      obtain ⟨m1, m2, m3⟩ := open_tr (E := closeE E st (i + 1)) hg.si hg.nr hl ha
      exact ⟨hc.trans m1, m2, m3⟩
    · rw [push_ge hl]
      exact ⟨hc, hg⟩
/-- A start of a td. -/
theorem emit_cell {E : List Ev} {st : List (List UInt8)} {al : List (List UInt8 × List UInt8)} (h : GS st) (ha : attrsOkP al = true) : Emit (E, st) (cellP E st al) ∧ GS (cellP E st al).2 := by
  unfold cellP
  rcases lastIdx_spec (fun m => m == nTable) _ st rfl with ⟨h1, _⟩ | ⟨i, n, h1, h2, h3, h4⟩
  · have h1' : tableI st = -1 := h1
    rw [h1', if_pos rfl]
    exact ⟨Emit.refl _, h⟩
  · have h1' : tableI st = (i : Int) := h1
    have hn : n = nTable := by simpa using h3
    subst hn
    rw [h1', if_neg (by omega)]
    unfold cellAhead
    rw [h1']
    by_cases hc : (i : Int) < trI st
    · rw [if_pos hc]
      rcases lastIdx_spec (fun m => m == nTr) _ st rfl with ⟨g1, _⟩ | ⟨j, m, g1, g2, g3, _⟩
      · have g1' : trI st = -1 := g1
        omega
      · have g1' : trI st = (j : Int) := g1
        have hm : m = nTr := by simpa using g3
        subst hm
        rw [g1']
        have e : ((j : Int) + 1).toNat = j + 1 := by omega
        have hjl : j < st.length := (List.getElem?_eq_some_iff.1 g2).1
        rw [e]
        simp only
        have hcl := emit_close' (E := E) h.si (p := j + 1) (by omega)
        have hg := h.take (j + 1)
        rw [take_table g2] at hcl hg ⊢
        by_cases hl : (st.take j ++ [nTr]).length < 12
        · rw [push_lt hl]
          obtain ⟨m1, m2, m3⟩ := open_td (E := closeE E st (j + 1)) hg.si hg.nr hl ha
          exact ⟨hcl.trans m1, m2, m3⟩
        · rw [push_ge hl]
          exact ⟨hcl, hg⟩
    · rw [if_neg hc]
      unfold rowP
      have h1'' : lastIdx (fun m => m == [116, 97, 98, 108, 101]) st = (i : Int) := h1
      rw [h1'', if_neg (by omega)]
      have e : ((i : Int) + 1).toNat = i + 1 := by omega
      have hil : i < st.length := (List.getElem?_eq_some_iff.1 h2).1
      rw [e]
      have hcl := emit_close' (E := E) h.si (p := i + 1) (by omega)
      have hg := h.take (i + 1)
      rw [take_table h2] at hcl hg ⊢
      by_cases hl : (st.take i ++ [nTable]).length < 12
      · rw [push_lt hl]
        obtain ⟨m1, m2, m3⟩ := open_tr (E := closeE E st (i + 1)) hg.si hg.nr hl (al := []) rfl
        simp only
        by_cases hl2 : (st.take i ++ [nTable] ++ [nTr]).length < 12
        · rw [push_lt hl2]
          obtain ⟨k1, k2, k3⟩ := open_td (E := closeE E st (i + 1) ++ [evOpen nTr []]) (st := st.take i ++ [nTable]) m2 m3 hl2 ha
          exact ⟨(hcl.trans m1).trans k1, k2, k3⟩
        · rw [push_ge hl2]
          exact ⟨hcl.trans m1, m2, m3⟩
      · rw [push_ge hl]
        simp only
        rw [push_ge hl]
        exact ⟨hcl, hg⟩
/-- An end. -/
theorem emit_end {E : List Ev} {st : List (List UInt8)} (h : SI st) (n : List UInt8) : Emit (E, st) (endE E st n) ∧ SI (endE E st n).2 ∧ (NoRaw st → NoRaw (endE E st n).2) := by
  unfold endE
  split
  · exact ⟨Emit.refl _, h, fun h => h⟩
  · have h1 := lastIdx_lt (fun m => m == n) st
    exact ⟨emit_close' h (by omega), h.take _, fun hr => hr.take _⟩
theorem addText_snoc {E : List Ev} {t t2 : List UInt8} (h : addText E t = E ++ [evText t]) : addText E t2 = E ++ [evText t2] := by
  rcases addText_cases E t2 with ⟨E0, t0, h1, h2⟩ | h2
  · subst h1
    rw [addText_text] at h
    have := congrArg List.length h
    simp at this
  · exact h2
/-- A text. -/
theorem emit_text {o : St} {t : List UInt8} (h : Emit ([], []) o) (hg : GS o.2) (hop : openP o.1 o.2 = o) (ht : t ≠ []) : Emit ([], []) (addText o.1 t, o.2) := by
  rcases addText_cases o.1 t with ⟨E0, t0, h1, h2⟩ | h2
  · rw [h2]
    obtain ⟨J, j1, j2⟩ := h
    rcases List.eq_nil_or_concat J with e0 | ⟨J0, i, e0⟩
    · subst e0
      have : o.1 = [] := by rw [← j2]; rfl
      rw [h1] at this
      simp at this
    · have e0' : J = J0 ++ [i] := by simpa using e0
      subst e0'
      rw [stableL_append] at j1
      rw [runI_append] at j2
      obtain ⟨s1, s2, _⟩ := j1
      have j3 : stepI (runI ([], []) J0) i = o := j2
      have ev : (runI ([], []) J0).1 ++ itemEv i = E0 ++ [evText t0] := by
        have := congrArg Prod.fst j3
        rw [h1] at this
        exact this
      have es : itemSt (runI ([], []) J0).2 i = o.2 := congrArg Prod.snd j3
      match i, s2, ev, es with
      | .inl t1, s2, ev, es =>
        obtain ⟨e1, e2⟩ := List.append_inj' ev rfl
        have e3 : t1 = t0 := by
          injection e2 with e2 _
          injection e2 with e2
          injection e2
        subst e3
        obtain ⟨c1, c2, c3, c4⟩ := s2
        have hst : stableI (runI ([], []) J0) (iText (t1 ++ t)) := ⟨by simp [ht], c2, addText_snoc c3, c4⟩
        have hJ0 : Emit ([], []) (runI ([], []) J0) := ⟨J0, s1, rfl⟩
        have := hJ0.trans (Emit.one hst)
        have e4 : stepI (runI ([], []) J0) (iText (t1 ++ t)) = (E0 ++ [evText (t1 ++ t)], o.2) := by
          unfold stepI
          rw [e1]
          simp only [itemEv, itemSt]
          congr 1
        rw [e4] at this
        exact this
      | .inr (.inl (n, al, tx)), s2, ev, es =>
        exfalso
        by_cases htx : tx = []
        · subst htx
          have hlast := congrArg List.getLast? ev
          by_cases hk : kindP n = 1
          · simp [itemEv, hk] at hlast
          · simp [itemEv, hk] at hlast
        · have hk : kindP n = 2 := Classical.byContradiction fun hc => htx (s2.2.2.2.1 hc)
          have : o.2 = (runI ([], []) J0).2 ++ [n] := by
            rw [← es]
            show (if kindP n = 1 then _ else _) = _
            rw [if_neg (by omega)]
          exact hg.nr n (by rw [this]; simp) hk
      | .inr (.inr n), s2, ev, es =>
        exfalso
        have hlast := congrArg List.getLast? ev
        simp [itemEv] at hlast
  · rw [h2]
    have hst : stableI o (iText t) := ⟨ht, hop, h2, hg.nr.top⟩
    exact h.trans (Emit.one hst)
/-- Between two tokens. -/
structure Good (o : St) (r : List UInt8) : Prop where
  emit : Emit ([], []) o
  si : SI o.2
  raw : topKind o.2 = 2 → nextP r = none ∨ ∃ n st' rest, o.2 = st' ++ [n] ∧ nextP r = some ((2, n, [], []), rest)
theorem good_step {o : St} {r : List UInt8} {s : Int} {nm : List UInt8} {al : List (List UInt8 × List UInt8)} {tx rest : List UInt8} (h : Good o r) (hx : nextP r = some ((s, nm, al, tx), rest)) : Good (stepT o s nm al tx) rest := by
  have hok := nextP_ok hx
  have hgd := nextP_good hx
  by_cases ht : topKind o.2 = 2
  · rcases h.raw ht with hn | ⟨n, st', rest', hst, hn⟩
    · rw [hx] at hn; cases hn
    · rw [hx] at hn
      injection hn with hn
      simp only [Prod.mk.injEq] at hn
      obtain ⟨⟨rfl, rfl, rfl, rfl⟩, rfl⟩ := hn
      have e : stepT o 2 nm [] [] = (o.1 ++ [none], st') := by
        show (if (2 : Int) = 0 then _ else if (2 : Int) = 1 then _ else endE o.1 o.2 nm) = _
        rw [if_neg (by decide), if_neg (by decide), hst, end_top]
      rw [e]
      have hsi := h.si
      obtain ⟨e1, e2, _⟩ := emit_end (E := o.1) hsi nm
      rw [hst, end_top] at e1 e2
      have h1 : (o.1, st' ++ [nm]) = o := by rw [← hst]
      rw [h1] at e1
      refine ⟨h.emit.trans e1, e2, fun hc => ?_⟩
      exfalso
      -- a raw element is open at the top alone
      rcases List.eq_nil_or_concat st' with h0 | ⟨l, a, h0⟩
      · subst h0; simp [topKind] at hc
      · have h0' : st' = l ++ [a] := by simpa using h0
        subst h0'
        rw [topKind_snoc] at hc
        have := hsi.raw l.length a (by rw [hst]; simp) hc
        rw [hst] at this
        simp at this
  · have hg : GS o.2 := ⟨h.si, NoRaw.of h.si ht⟩
    have fin : ∀ o', Emit ([], []) o' → GS o'.2 → Good o' rest := fun o' h1 h2 => ⟨h1, h2.si, fun hc => absurd hc h2.nr.top⟩
    rcases hok.kind with ⟨rfl, rfl, rfl, htx⟩ | ⟨rfl, hnm⟩ | ⟨rfl, hnm, rfl, rfl⟩
    · obtain ⟨o1, o2, o3, _⟩ := emit_open (E := o.1) hg
      have e : stepT o 0 [] [] tx = (addText (openP o.1 o.2).1 tx, (openP o.1 o.2).2) := rfl
      rw [e]
      exact fin _ (emit_text (h.emit.trans o1) o2 o3 htx) o2
    · have hname := hgd.name (by decide)
      have e : stepT o 1 nm al tx = startT o.1 o.2 nm al tx := rfl
      rw [e]
      unfold startT
      split
      · obtain ⟨m1, m2⟩ := emit_row (E := o.1) hg hgd.attrs
        exact fin _ (h.emit.trans m1) m2
      · rename_i h1
        split
        · obtain ⟨m1, m2⟩ := emit_cell (E := o.1) hg hgd.attrs
          exact fin _ (h.emit.trans m1) m2
        · rename_i h2
          obtain ⟨m1, m2, m3, m4⟩ := emit_other (E := o.1) (tx := tx) hg hname hgd.attrs h1 h2 (hgd.text rfl) (hgd.raw rfl)
          refine ⟨h.emit.trans m1, m2, fun hc => ?_⟩
          by_cases hk : kindP nm = 2
          · rcases m4 hk with hr | ⟨st', hst⟩
            · exact absurd hc hr.top
            · rcases hgd.next rfl hk with hr | hr
              · left
                rw [hr]
                rfl
              · rcases ends_next hname hr with hn | ⟨rest', hn⟩
                · exact .inl hn
                · exact .inr ⟨nm, st', rest', hst, hn⟩
          · exact absurd hc (m3 hk).top
    · have e : stepT o 2 nm [] [] = endE o.1 o.2 nm := rfl
      rw [e]
      obtain ⟨m1, m2, m3⟩ := emit_end (E := o.1) h.si nm
      exact fin _ (h.emit.trans m1) ⟨m2, m3 hg.nr⟩
theorem good_read : ∀ (f : Nat) (r : List UInt8) (o : St), r.length < f → Good o r → Emit ([], []) (readF f r o) ∧ SI (readF f r o).2
  | 0, _, _, h, _ => by omega
  | f + 1, r, o, hl, h => by
    unfold readF
    split
    · exact ⟨h.emit, h.si⟩
    · rename_i s nm al tx rest hx
      exact good_read f rest _ (by have := (nextP_ok hx).lt; omega) (good_step h hx)
/-- What is read is a row of items, each of which is read as it is written. -/
theorem read_good (r : List UInt8) : ∃ I, stableL ([], []) I ∧ (runI ([], []) I).2 = [] ∧ readP r = I.flatMap itemEv := by
  obtain ⟨h1, h2⟩ := good_read (r.length + 1) r ([], []) (by omega) ⟨Emit.refl _, SI.nil, by simp [topKind]⟩
  have h3 := emit_close' (E := (readFrom r ([], [])).1) h2 (p := 0) (by omega)
  obtain ⟨I, i1, i2⟩ := h1.trans h3
  refine ⟨I, i1, ?_, ?_⟩
  · rw [i2]
    simp
  · have := runI_ev ([], []) I
    rw [i2] at this
    simp only [List.nil_append] at this
    rw [← this]
    rfl
/-- What is read, written and read again is the same tree. -/
theorem again_read (r : List UInt8) : ∃ I, stableL ([], []) I ∧ (runI ([], []) I).2 = [] ∧ readP r = I.flatMap itemEv ∧ readP (writeI I) = readP r := by
  obtain ⟨I, h1, h2, h3⟩ := read_good r
  exact ⟨I, h1, h2, h3, by rw [read_again I h1 h2, h3]⟩
end Go.Proofs.YtlpmjpmefdpcmaaGreatDoor
