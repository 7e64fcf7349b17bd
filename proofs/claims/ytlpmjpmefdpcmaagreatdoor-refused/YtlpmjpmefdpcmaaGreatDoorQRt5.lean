import Derived.Test.YtlpmjpmefdpcmaaGreatDoorQRt4
import Derived.Test.YtlpmjpmefdpcmaaGreatDoorQParse
/- What is written is read: rows of items, each of which is read as it was written. No function of the program in it. -/
namespace Go.Proofs.YtlpmjpmefdpcmaaGreatDoor
open Go.RowKit Scrub Go.Shelf
/-- A piece of what is written: a text; a start (with a raw element's text); an end. -/
abbrev Item := List UInt8 ⊕ ((List UInt8 × List (List UInt8 × List UInt8) × List UInt8) ⊕ List UInt8)
abbrev iText (t : List UInt8) : Item := .inl t
abbrev iStart (n : List UInt8) (al : List (List UInt8 × List UInt8)) (tx : List UInt8) : Item := .inr (.inl (n, al, tx))
abbrev iEnd (n : List UInt8) : Item := .inr (.inr n)
abbrev St := List Ev × List (List UInt8)
def itemW : Item → List UInt8
  | .inl t => escP [38, 60, 62] t
  | .inr (.inl (n, al, tx)) => startW n al ++ tx
  | .inr (.inr n) => endW n
/-- What it adds. -/
def itemEv : Item → List Ev
  | .inl t => [evText t]
  | .inr (.inl (n, al, tx)) => evOpen n al :: ((if tx = [] then [] else [evText tx]) ++ (if kindP n = 1 then [none] else []))
  | .inr (.inr _) => [none]
/-- What is open behind it. -/
def itemSt (st : List (List UInt8)) : Item → List (List UInt8)
  | .inl _ => st
  | .inr (.inl (n, _, _)) => if kindP n = 1 then st else st ++ [n]
  | .inr (.inr _) => st.dropLast
def stepI (o : St) (i : Item) : St := (o.1 ++ itemEv i, itemSt o.2 i)
def topKind (st : List (List UInt8)) : Int := if st = [] then 0 else kindP (st.getD (st.length - 1) [])
/-- It is read as it was written. -/
def stableI (o : St) : Item → Prop
  | .inl t => t ≠ [] ∧ openP o.1 o.2 = o ∧ addText o.1 t = o.1 ++ [evText t] ∧ topKind o.2 ≠ 2
  | .inr (.inl (n, al, tx)) => isNameP n = true ∧ attrsOkP al = true ∧ startT o.1 o.2 n al tx = stepI o (iStart n al tx) ∧ (kindP n ≠ 2 → tx = []) ∧ holdsEndP n tx = false ∧ topKind o.2 ≠ 2 ∧ o.2.length < 12
  | .inr (.inr n) => isNameP n = true ∧ kindP n ≠ 1 ∧ ∃ st', o.2 = st' ++ [n]
def stableL : St → List Item → Prop
  | _, [] => True
  | o, i :: r => stableI o i ∧ stableL (stepI o i) r
def runI (o : St) (l : List Item) : St := l.foldl stepI o
def writeI (l : List Item) : List UInt8 := l.flatMap itemW
theorem stableL_append (o : St) (a b : List Item) : stableL o (a ++ b) ↔ stableL o a ∧ stableL (runI o a) b := by
  induction a generalizing o with
  | nil => simp [stableL, runI]
  | cons i r ih =>
    show stableI o i ∧ stableL (stepI o i) (r ++ b) ↔ (stableI o i ∧ stableL (stepI o i) r) ∧ stableL (runI (stepI o i) r) b
    rw [ih]
    constructor
    · rintro ⟨h1, h2, h3⟩; exact ⟨⟨h1, h2⟩, h3⟩
    · rintro ⟨⟨h1, h2⟩, h3⟩; exact ⟨h1, h2, h3⟩
theorem runI_append (o : St) (a b : List Item) : runI o (a ++ b) = runI (runI o a) b := by simp [runI, List.foldl_append]
theorem runI_ev (o : St) (l : List Item) : (runI o l).1 = o.1 ++ l.flatMap itemEv := by
  induction l generalizing o with
  | nil => simp [runI]
  | cons i r ih =>
    show (runI (stepI o i) r).1 = _
    rw [ih]
    simp [stepI]
/-- How what is written next begins. -/
theorem begins_next (o : St) (l : List Item) (h : stableL o l) (hf : ∀ t r, l ≠ iText t :: r) : writeI l = [] ∨ beginsP (writeI l) ≠ 0 := by
  cases l with
  | nil => exact .inl rfl
  | cons i r =>
    right
    obtain ⟨h1, h2⟩ := h
    match i, h1 with
    | .inl t, _ => exact absurd rfl (hf t r)
    | .inr (.inl (n, al, tx)), h1 =>
      obtain ⟨c, t, rfl, g1, _, _⟩ := isName_cons h1.1
      have hr : writeI (.inr (.inl (c :: t, al, tx)) :: r) = 60 :: c :: (t ++ (al.flatMap attrW ++ 62 :: (tx ++ writeI r))) := by simp [writeI, itemW, startW]
      rw [hr, begins_start c _ g1]
      decide
    | .inr (.inr n), h1 =>
      obtain ⟨c, t, rfl, g1, _, _⟩ := isName_cons h1.1
      have hr : writeI (.inr (.inr (c :: t)) :: r) = 60 :: 47 :: c :: (t ++ 62 :: writeI r) := by simp [writeI, itemW, endW]
      rw [hr, begins_end c _ g1]
      decide
theorem addText_last (E : List Ev) (t t2 : List UInt8) (h : addText (E ++ [evText t]) t2 = E ++ [evText t] ++ [evText t2]) : False := by
  rw [addText_text] at h
  have := congrArg List.length h
  simp at this
theorem topKind_snoc (st : List (List UInt8)) (n : List UInt8) : topKind (st ++ [n]) = kindP n := by
  unfold topKind
  rw [if_neg (by simp)]
  congr 1
  simp [List.getD]
theorem lastIdx_top (st : List (List UInt8)) (n : List UInt8) : lastIdx (fun m => m == n) (st ++ [n]) = (st.length : Int) := by
  rw [lastIdx_snoc]
  simp
/-- The innermost is closed by its end. -/
theorem end_top (E : List Ev) (st : List (List UInt8)) (n : List UInt8) : endE E (st ++ [n]) n = (E ++ [none], st) := by
  unfold endE
  rw [lastIdx_top]
  have hl := lastIdx_lt (fun n => kindP n == 4) (st ++ [n])
  rw [if_neg]
  · have e : ((st.length : Int)).toNat = st.length := by simp
    rw [e]
    simp [closeE]
  · rintro (h | h)
    · omega
    · unfold limitP at h
      simp at hl
      omega
/-- One item is read. -/
theorem read_item (o : St) (i : Item) (r : List Item) (hi : stableI o i) (hr : stableL (stepI o i) r) (hend : (runI o (i :: r)).2 = []) : readFrom (itemW i ++ writeI r) o = readFrom (writeI r) (stepI o i) := by
  match i, hi, hr, hend with
  | .inl t, ⟨h1, h2, h3, h4⟩, hr, _ =>
    have hb := begins_next (stepI o (.inl t)) r hr (by
      intro t2 r2 e
      subst e
      exact addText_last o.1 t t2 (by simpa [stepI, itemEv] using hr.1.2.2.1))
    have hn := next_text t (writeI r) h1 hb
    show readFrom (escP [38, 60, 62] t ++ writeI r) o = _
    rw [readFrom_some hn]
    congr 1
    show (if (0 : Int) = 0 then (addText (openP o.1 o.2).1 t, (openP o.1 o.2).2) else _) = _
    rw [if_pos rfl, h2, h3]
    rfl
  | .inr (.inl (n, al, tx)), ⟨h1, h2, h3, h4, h5, h6, h7⟩, hr, hend =>
    have hn := next_start n al (tx ++ writeI r) h1 h2
    show readFrom (startW n al ++ tx ++ writeI r) o = _
    rw [List.append_assoc]
    by_cases hk : kindP n = 2
    · rw [if_pos hk] at hn
      have htop : topKind (stepI o (iStart n al tx)).2 = 2 := by
        show topKind (if kindP n = 1 then o.2 else o.2 ++ [n]) = 2
        rw [if_neg (by omega), topKind_snoc, hk]
      cases r with
      | nil =>
        exfalso
        have h0 : (stepI o (iStart n al tx)).2 = [] := hend
        rw [h0] at htop
        simp [topKind] at htop
      | cons j r2 =>
        match j, hr with
        | .inl t, hr => exact absurd htop hr.1.2.2.2
        | .inr (.inl (n2, al2, tx2)), hr => exact absurd htop hr.1.2.2.2.2.2.1
        | .inr (.inr n2), hr =>
          obtain ⟨_, _, st', hst⟩ := hr.1
          have hn2 : n2 = n := by
            have : o.2 ++ [n] = st' ++ [n2] := by
              have e : (stepI o (iStart n al tx)).2 = o.2 ++ [n] := by
                show (if kindP n = 1 then o.2 else o.2 ++ [n]) = _
                rw [if_neg (by omega)]
              rw [← e]
              exact hst
            have := congrArg List.getLast? this
            simpa using this.symm
          subst hn2
          have hw : writeI (.inr (.inr n2) :: r2) = endW n2 ++ writeI r2 := by simp [writeI, itemW]
          rw [hw] at hn ⊢
          rw [raw_written n2 h1 (writeI r2) tx h5] at hn
          rw [readFrom_some hn]
          congr 1
    · rw [if_neg hk] at hn
      have htx := h4 hk
      subst htx
      rw [List.nil_append] at hn ⊢
      rw [readFrom_some hn]
      congr 1
  | .inr (.inr n), ⟨h1, h2, st', hst⟩, hr, _ =>
    have hn := next_end n (writeI r) h1
    show readFrom (endW n ++ writeI r) o = _
    rw [readFrom_some hn]
    congr 1
    show (if (2 : Int) = 0 then _ else if (2 : Int) = 1 then _ else endE o.1 o.2 n) = _
    rw [if_neg (by decide), if_neg (by decide), hst, end_top]
    show _ = (o.1 ++ [none], o.2.dropLast)
    rw [hst]
    simp
theorem read_items : ∀ (l : List Item) (o : St), stableL o l → (runI o l).2 = [] → readFrom (writeI l) o = runI o l
  | [], o, _, _ => by
    show readFrom [] o = o
    exact readFrom_none nextP_nil o
  | i :: r, o, h, hend => by
    have e : writeI (i :: r) = itemW i ++ writeI r := by simp [writeI]
    rw [e, read_item o i r h.1 h.2 hend]
    exact read_items r (stepI o i) h.2 hend
/-- What is written is read again as it is. -/
theorem read_again (l : List Item) (h : stableL ([], []) l) (hend : (runI ([], []) l).2 = []) : readP (writeI l) = l.flatMap itemEv := by
  unfold readP
  rw [read_items l _ h hend, hend, runI_ev]
  simp [closeE]
end Go.Proofs.YtlpmjpmefdpcmaaGreatDoor
/- What is open: what holds of it, and what may be opened next. No function of the program in it. -/
namespace Go.Proofs.YtlpmjpmefdpcmaaGreatDoor
open Go.RowKit Scrub Go.Shelf
abbrev nTable : List UInt8 := [116, 97, 98, 108, 101]
abbrev nTr : List UInt8 := [116, 114]
abbrev nTd : List UInt8 := [116, 100]
abbrev nP : List UInt8 := [112]
abbrev nLi : List UInt8 := [108, 105]
abbrev nUl : List UInt8 := [117, 108]
/-- The last place where it holds. -/
theorem lastIdx_spec (p : List UInt8 → Bool) : ∀ (k : Nat) (st : List (List UInt8)), st.length = k → (lastIdx p st = -1 ∧ ∀ (i : Nat) n, st[i]? = some n → p n = false) ∨ (∃ (i : Nat) (n : List UInt8), lastIdx p st = (i : Int) ∧ st[i]? = some n ∧ p n = true ∧ ∀ (j : Nat) m, i < j → st[j]? = some m → p m = false)
  | 0, st, h => by
    have : st = [] := List.eq_nil_of_length_eq_zero h
    subst this
    exact .inl ⟨rfl, by simp⟩
  | k + 1, st, h => by
    rcases List.eq_nil_or_concat st with h0 | ⟨st', a, h0⟩
    · subst h0; simp at h
    · have h0' : st = st' ++ [a] := by simpa using h0
      subst h0'
      rw [lastIdx_snoc]
      by_cases hp : p a = true
      · right
        rw [if_pos hp]
        refine ⟨st'.length, a, rfl, by simp, hp, fun j m hj hm => ?_⟩
        rw [List.getElem?_eq_none (by simp; omega)] at hm
        cases hm
      · rw [if_neg hp]
        have hp' : p a = false := by simpa using hp
        rcases lastIdx_spec p k st' (by simp at h; omega) with ⟨h1, h2⟩ | ⟨i, n, h1, h2, h3, h4⟩
        · left
          refine ⟨h1, fun i n hi => ?_⟩
          by_cases hl : i < st'.length
          · rw [List.getElem?_append_left hl] at hi
            exact h2 i n hi
          · rw [List.getElem?_append_right (by omega)] at hi
            cases hd : i - st'.length with
            | zero => rw [hd] at hi; simp at hi; rw [← hi]; exact hp'
            | succ d => rw [hd] at hi; simp at hi
        · right
          have hil : i < st'.length := (List.getElem?_eq_some_iff.1 h2).1
          refine ⟨i, n, h1, by rw [List.getElem?_append_left hil]; exact h2, h3, fun j m hj hm => ?_⟩
          by_cases hl : j < st'.length
          · rw [List.getElem?_append_left hl] at hm
            exact h4 j m hj hm
          · rw [List.getElem?_append_right (by omega)] at hm
            cases hd : j - st'.length with
            | zero => rw [hd] at hm; simp at hm; rw [← hm]; exact hp'
            | succ d => rw [hd] at hm; simp at hm
/-- What holds of what is open. -/
structure SI (st : List (List UInt8)) : Prop where
  len : st.length ≤ 12
  name : ∀ n ∈ st, isNameP n = true ∧ kindP n ≠ 1
  raw : ∀ (i : Nat) n, st[i]? = some n → kindP n = 2 → i + 1 = st.length
  tab : ∀ (i : Nat) n, st[i]? = some nTable → st[i + 1]? = some n → n = nTr
  row : ∀ (i : Nat) n, st[i]? = some nTr → st[i + 1]? = some n → n = nTd
  trP : ∀ (i : Nat), st[i]? = some nTr → ∃ j, i = j + 1 ∧ st[j]? = some nTable
  tdP : ∀ (i : Nat), st[i]? = some nTd → ∃ j, i = j + 1 ∧ st[j]? = some nTr
  para : ∀ (i j : Nat) m, i < j → st[i]? = some nP → st[j]? = some m → kindP m = 3 → ∃ k, i < k ∧ k < j ∧ st[k]? = some nTd
  item : ∀ (i j : Nat), i < j → st[i]? = some nLi → st[j]? = some nLi → ∃ k, i < k ∧ k < j ∧ (st[k]? = some nTd ∨ st[k]? = some nUl)
theorem SI.nil : SI [] := ⟨by simp, by simp, by simp, by simp, by simp, by simp, by simp, by simp, by simp⟩
theorem take_some {st : List (List UInt8)} {p i : Nat} {n : List UInt8} (h : (st.take p)[i]? = some n) : i < p ∧ st[i]? = some n := by
  rw [List.getElem?_take] at h
  split at h
  · exact ⟨by assumption, h⟩
  · cases h
theorem take_mk {st : List (List UInt8)} {p i : Nat} {n : List UInt8} (hi : i < p) (h : st[i]? = some n) : (st.take p)[i]? = some n := by
  rw [List.getElem?_take, if_pos hi]
  exact h
theorem SI.take {st : List (List UInt8)} (h : SI st) (p : Nat) : SI (st.take p) := by
  refine ⟨?_, fun n hn => h.name n (List.mem_of_mem_take hn), ?_, ?_, ?_, ?_, ?_, ?_, ?_⟩
  · have := h.len; rw [List.length_take]; omega
  · intro i n hi hk
    obtain ⟨h1, h2⟩ := take_some hi
    have := h.raw i n h2 hk
    rw [List.length_take]
    omega
  · intro i n hi hj
    exact h.tab i n (take_some hi).2 (take_some hj).2
  · intro i n hi hj
    exact h.row i n (take_some hi).2 (take_some hj).2
  · intro i hi
    obtain ⟨h1, h2⟩ := take_some hi
    obtain ⟨j, rfl, hj⟩ := h.trP i h2
    exact ⟨j, rfl, take_mk (by omega) hj⟩
  · intro i hi
    obtain ⟨h1, h2⟩ := take_some hi
    obtain ⟨j, rfl, hj⟩ := h.tdP i h2
    exact ⟨j, rfl, take_mk (by omega) hj⟩
  · intro i j m hij hi hj hm
    obtain ⟨h1, h2⟩ := take_some hi
    obtain ⟨h3, h4⟩ := take_some hj
    obtain ⟨k, k1, k2, k3⟩ := h.para i j m hij h2 h4 hm
    exact ⟨k, k1, k2, take_mk (by omega) k3⟩
  · intro i j hij hi hj
    obtain ⟨h1, h2⟩ := take_some hi
    obtain ⟨h3, h4⟩ := take_some hj
    obtain ⟨k, k1, k2, k3⟩ := h.item i j hij h2 h4
    refine ⟨k, k1, k2, ?_⟩
    rcases k3 with k3 | k3
    · exact .inl (take_mk (by omega) k3)
    · exact .inr (take_mk (by omega) k3)
/-- No raw element is open. -/
def NoRaw (st : List (List UInt8)) : Prop := ∀ n ∈ st, kindP n ≠ 2
theorem NoRaw.take {st : List (List UInt8)} (h : NoRaw st) (p : Nat) : NoRaw (st.take p) := fun n hn => h n (List.mem_of_mem_take hn)
theorem topKind_eq {st : List (List UInt8)} {n : List UInt8} (h : st[st.length - 1]? = some n) : topKind st = kindP n := by
  have hne : st ≠ [] := by intro e; subst e; simp at h
  unfold topKind
  rw [if_neg hne, List.getD_eq_getElem?_getD, h]
  rfl
theorem NoRaw.of {st : List (List UInt8)} (h : SI st) (ht : topKind st ≠ 2) : NoRaw st := by
  intro n hn hk
  obtain ⟨i, hi, e⟩ := List.getElem_of_mem hn
  have h1 : st[i]? = some n := by rw [List.getElem?_eq_getElem hi, e]
  have h2 := h.raw i n h1 hk
  have h3 : st.length - 1 = i := by omega
  exact ht (by rw [topKind_eq (n := n) (by rw [h3]; exact h1)]; exact hk)
theorem NoRaw.top {st : List (List UInt8)} (h : NoRaw st) : topKind st ≠ 2 := by
  rcases List.eq_nil_or_concat st with h0 | ⟨l, a, h0⟩
  · subst h0; simp [topKind]
  · have h0' : st = l ++ [a] := by simpa using h0
    subst h0'
    rw [topKind_snoc]
    exact h a (by simp)
/-- No p is open within the innermost td. -/
def ParaOk (st : List (List UInt8)) : Prop := ∀ (i : Nat), st[i]? = some nP → ∃ k, i < k ∧ st[k]? = some nTd
/-- No li is open within the innermost td and ul. -/
def ItemOk (st : List (List UInt8)) : Prop := ∀ (i : Nat), st[i]? = some nLi → ∃ k, i < k ∧ (st[k]? = some nTd ∨ st[k]? = some nUl)
/-- Neither a table nor a tr is innermost. -/
def NotHolds (st : List (List UInt8)) : Prop := ∀ n, st[st.length - 1]? = some n → n ≠ nTable ∧ n ≠ nTr
theorem SI.snoc {st : List (List UInt8)} {n : List UInt8} (h : SI st) (hr : NoRaw st) (hl : st.length < 12) (hn : isNameP n = true) (hk : kindP n ≠ 1)
    (htab : ∀ m, st[st.length - 1]? = some m → (m = nTable → n = nTr) ∧ (m = nTr → n = nTd)) (htr : n = nTr → st[st.length - 1]? = some nTable) (htd : n = nTd → st[st.length - 1]? = some nTr)
    (hpa : kindP n = 3 → ParaOk st) (hit : n = nLi → ItemOk st) : SI (st ++ [n]) := by
  have app : ∀ (i : Nat) m, (st ++ [n])[i]? = some m → (i < st.length ∧ st[i]? = some m) ∨ (i = st.length ∧ m = n) := by
    intro i m hi
    by_cases hil : i < st.length
    · rw [List.getElem?_append_left hil] at hi
      exact .inl ⟨hil, hi⟩
    · rw [List.getElem?_append_right (by omega)] at hi
      cases hd : i - st.length with
      | zero => rw [hd] at hi; simp at hi; exact .inr ⟨by omega, hi.symm⟩
      | succ d => rw [hd] at hi; simp at hi
  have left : ∀ (i : Nat) m, st[i]? = some m → (st ++ [n])[i]? = some m := fun i m hi => by
    rw [List.getElem?_append_left (List.getElem?_eq_some_iff.1 hi).1]; exact hi
  refine ⟨by simp; omega, ?_, ?_, ?_, ?_, ?_, ?_, ?_, ?_⟩
  · intro m hm
    rcases List.mem_append.1 hm with hm | hm
    · exact h.name m hm
    · simp at hm; subst hm; exact ⟨hn, hk⟩
  · intro i m hi hk2
    rcases app i m hi with ⟨_, h2⟩ | ⟨rfl, _⟩
    · exact absurd hk2 (hr m (List.mem_of_getElem? h2))
    · simp
  · intro i m hi hj
    rcases app i _ hi with ⟨h1, h2⟩ | ⟨h1, _⟩
    · rcases app (i + 1) m hj with ⟨_, h4⟩ | ⟨h3, rfl⟩
      · exact h.tab i m h2 h4
      · have e : st.length - 1 = i := by omega
        exact (htab nTable (by rw [e]; exact h2)).1 rfl
    · rcases app (i + 1) m hj with ⟨h3, _⟩ | ⟨h3, _⟩ <;> omega
  · intro i m hi hj
    rcases app i _ hi with ⟨h1, h2⟩ | ⟨h1, _⟩
    · rcases app (i + 1) m hj with ⟨_, h4⟩ | ⟨h3, rfl⟩
      · exact h.row i m h2 h4
      · have e : st.length - 1 = i := by omega
        exact (htab nTr (by rw [e]; exact h2)).2 rfl
    · rcases app (i + 1) m hj with ⟨h3, _⟩ | ⟨h3, _⟩ <;> omega
  · intro i hi
    rcases app i _ hi with ⟨_, h2⟩ | ⟨rfl, h2⟩
    · obtain ⟨j, e, hj⟩ := h.trP i h2
      exact ⟨j, e, left j _ hj⟩
    · have := htr h2.symm
      have hpos : 0 < st.length := by
        have := (List.getElem?_eq_some_iff.1 this).1
        omega
      exact ⟨st.length - 1, by omega, left _ _ this⟩
  · intro i hi
    rcases app i _ hi with ⟨_, h2⟩ | ⟨rfl, h2⟩
    · obtain ⟨j, e, hj⟩ := h.tdP i h2
      exact ⟨j, e, left j _ hj⟩
    · have := htd h2.symm
      have hpos : 0 < st.length := by
        have := (List.getElem?_eq_some_iff.1 this).1
        omega
      exact ⟨st.length - 1, by omega, left _ _ this⟩
  · intro i j m hij hi hj hm
    rcases app j m hj with ⟨h3, h4⟩ | ⟨rfl, rfl⟩
    · rcases app i _ hi with ⟨_, h2⟩ | ⟨h1, _⟩
      · obtain ⟨k, k1, k2, k3⟩ := h.para i j m hij h2 h4 hm
        exact ⟨k, k1, k2, left k _ k3⟩
      · omega
    · rcases app i _ hi with ⟨_, h2⟩ | ⟨h1, _⟩
      · obtain ⟨k, k1, k2⟩ := hpa hm i h2
        exact ⟨k, k1, (List.getElem?_eq_some_iff.1 k2).1, left k _ k2⟩
      · omega
  · intro i j hij hi hj
    rcases app j _ hj with ⟨h3, h4⟩ | ⟨rfl, h4⟩
    · rcases app i _ hi with ⟨_, h2⟩ | ⟨h1, _⟩
      · obtain ⟨k, k1, k2, k3⟩ := h.item i j hij h2 h4
        refine ⟨k, k1, k2, ?_⟩
        rcases k3 with k3 | k3
        · exact .inl (left k _ k3)
        · exact .inr (left k _ k3)
      · omega
    · rcases app i _ hi with ⟨_, h2⟩ | ⟨h1, _⟩
      · obtain ⟨k, k1, k2⟩ := hit h4.symm i h2
        rcases k2 with k2 | k2
        · exact ⟨k, k1, (List.getElem?_eq_some_iff.1 k2).1, .inl (left k _ k2)⟩
        · exact ⟨k, k1, (List.getElem?_eq_some_iff.1 k2).1, .inr (left k _ k2)⟩
      · omega
/-- What is closed at a place that holds no tr and no td lies neither in a table nor in a tr. -/
theorem notHolds_take {st : List (List UInt8)} (h : SI st) {p : Nat} {m : List UInt8} (hp : st[p]? = some m) (h1 : m ≠ nTr) (h2 : m ≠ nTd) : NotHolds (st.take p) := by
  intro n hn
  have hpl : p < st.length := (List.getElem?_eq_some_iff.1 hp).1
  have hlen : (st.take p).length = p := by rw [List.length_take]; omega
  rw [hlen] at hn
  obtain ⟨h3, h4⟩ := take_some hn
  have e : p - 1 + 1 = p := by omega
  refine ⟨fun e1 => ?_, fun e1 => ?_⟩
  · subst e1
    exact h1 (h.tab (p - 1) m h4 (by rw [e]; exact hp))
  · subst e1
    exact h2 (h.row (p - 1) m h4 (by rw [e]; exact hp))
theorem kind_td (n : List UInt8) : (kindP n == 4) = (n == nTd) := by
  rw [Bool.eq_iff_iff]
  simp only [beq_iff_eq]
  constructor
  · intro h
    unfold kindP at h
    repeat' split at h
    all_goals first | omega | assumption
  · rintro rfl
    decide
theorem limitP_eq (st : List (List UInt8)) : limitP st = lastIdx (fun n => n == nTd) st := by
  unfold limitP
  congr 1
  funext n
  exact kind_td n
theorem para_noop {E : List Ev} {st : List (List UInt8)} (h : ParaOk st) : paraP E st = (E, st) := by
  unfold paraP
  rw [if_neg]
  intro hc
  rw [limitP_eq] at hc
  rcases lastIdx_spec (fun n => n == nP) _ st rfl with ⟨h1, _⟩ | ⟨i, n, h1, h2, h3, _⟩
  · have := lastIdx_ge (fun n => n == nTd) st
    rw [h1] at hc
    omega
  · have hn : n = nP := by simpa using h3
    subst hn
    obtain ⟨k, k1, k2⟩ := h i h2
    rcases lastIdx_spec (fun n => n == nTd) _ st rfl with ⟨g1, g2⟩ | ⟨j, m, g1, g2, g3, g4⟩
    · have := g2 k _ k2
      simp at this
    · rw [h1, g1] at hc
      have hjk : ¬ j < k := fun hjk => by
        have := g4 k _ hjk k2
        simp at this
      omega
theorem item_noop {E : List Ev} {st : List (List UInt8)} (h : ItemOk st) : itemP E st = (E, st) := by
  unfold itemP
  rw [if_neg]
  rintro ⟨hc, hli⟩
  rw [limitP_eq] at hc
  rcases lastIdx_spec itemB _ st rfl with ⟨h1, _⟩ | ⟨i, n, h1, h2, h3, h4⟩
  · have := lastIdx_ge (fun n => n == nTd) st
    rw [h1] at hc
    omega
  · rw [h1] at hli
    have e : ((i : Nat) : Int).toNat = i := by simp
    rw [e, List.getD_eq_getElem?_getD, h2] at hli
    have hn : n = nLi := hli
    subst hn
    obtain ⟨k, k1, k2⟩ := h i h2
    rcases k2 with k2 | k2
    · rcases lastIdx_spec (fun n => n == nTd) _ st rfl with ⟨g1, g2⟩ | ⟨j, m, g1, g2, g3, g4⟩
      · have := g2 k _ k2
        simp at this
      · rw [h1, g1] at hc
        have hjk : ¬ j < k := fun hjk => by
          have := g4 k _ hjk k2
          simp at this
        omega
    · have := h4 k _ k1 k2
      revert this
      decide
end Go.Proofs.YtlpmjpmefdpcmaaGreatDoor
