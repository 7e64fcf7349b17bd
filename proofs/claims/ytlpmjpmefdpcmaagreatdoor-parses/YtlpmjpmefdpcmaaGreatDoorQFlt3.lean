import Derived.Test.YtlpmjpmefdpcmaaGreatDoorQLies
import Derived.Test.YtlpmjpmefdpcmaaGreatDoorQBulk
import Derived.Test.YtlpmjpmefdpcmaaGreatDoorQLiesH
/- A policy, as plain data. No function of the program in it. -/
namespace Go.Proofs.YtlpmjpmefdpcmaaGreatDoor
open Go.RowKit Scrub Go.Shelf
/-- A policy: names of elements, names of attributes. -/
abbrev Pol := List (List UInt8) × List (List UInt8)
def beginsWellP (v : List UInt8) : Bool := [[104, 116, 116, 112, 58], [104, 116, 116, 112, 115, 58], [47], [35]].any (fun b => b.isPrefixOf v)
def leadsP (n : List UInt8) : Bool := n == [104, 114, 101, 102] || n == [115, 114, 99]
def letsAP (p : Pol) (a : List UInt8 × List UInt8) : Bool := p.2.contains a.1 && (!leadsP a.1 || beginsWellP a.2)
end Go.Proofs.YtlpmjpmefdpcmaaGreatDoor
/- What a policy lets by, told on events; texts that stand side by side become one. No function of the program in it. -/
namespace Go.Proofs.YtlpmjpmefdpcmaaGreatDoor
open Go.RowKit Scrub Go.Shelf
/-- What is left, texts not made one yet. (Of what is open: 0 it stays, 1 its kids stay, 2 it goes whole.) -/
def rawE (p : Pol) : List Nat → List Ev → List Ev
  | _, [] => []
  | st, some (.inl t) :: r => if st.headD 0 = 2 then rawE p st r else evText t :: rawE p st r
  | st, some (.inr (n, al)) :: r =>
    if st.headD 0 = 2 then rawE p (2 :: st) r
    else if p.1.contains n then evOpen n (al.filter (letsAP p)) :: rawE p (0 :: st) r
    else if kindP n = 2 then rawE p (2 :: st) r else rawE p (1 :: st) r
  | st, none :: r => if st.headD 0 = 0 then none :: rawE p st.tail r else rawE p st.tail r
def pushE (E : List Ev) : Ev → List Ev
  | some (.inl t) => addText E t
  | some (.inr x) => E ++ [some (.inr x)]
  | none => E ++ [none]
/-- A text ahead of what is one already. -/
def glueT (t : List UInt8) : List Ev → List Ev
  | some (.inl u) :: r => evText (t ++ u) :: r
  | l => evText t :: l
/-- Texts side by side become one. -/
def mergeE : List Ev → List Ev
  | [] => []
  | some (.inl t) :: r => glueT t (mergeE r)
  | some (.inr x) :: r => some (.inr x) :: mergeE r
  | none :: r => none :: mergeE r
def filtE (p : Pol) (l : List Ev) : List Ev := mergeE (rawE p [] l)
def glueE (E : List Ev) : List Ev → List Ev
  | some (.inl u) :: r => addText E u ++ r
  | l => E ++ l
theorem addText_assoc (E : List Ev) (t u : List UInt8) : addText (addText E t) u = addText E (t ++ u) := by
  rcases addText_cases E t with ⟨E0, t0, h1, h2⟩ | h
  · rw [h2, addText_text, h1, addText_text, List.append_assoc]
  · rw [h, addText_text]
    rcases addText_cases E (t ++ u) with ⟨E0, t0, h1, h2⟩ | h3
    · exfalso
      rw [h1, addText_text] at h
      have := congrArg List.length h
      simp at this
    · rw [h3]
theorem foldl_push : ∀ (l E : List Ev), l.foldl pushE E = glueE E (mergeE l)
  | [], E => by simp [mergeE, glueE]
  | some (.inl t) :: r, E => by
    rw [List.foldl_cons, foldl_push r]
    show glueE (addText E t) (mergeE r) = glueE E (glueT t (mergeE r))
    match mergeE r with
    | some (.inl u) :: r' =>
      show addText (addText E t) u ++ r' = addText E (t ++ u) ++ r'
      rw [addText_assoc]
    | [] => rfl
    | some (.inr x) :: r' => rfl
    | none :: r' => rfl
  | some (.inr x) :: r, E => by
    rw [List.foldl_cons, foldl_push r]
    show glueE (E ++ [some (.inr x)]) (mergeE r) = E ++ (some (.inr x) :: mergeE r)
    match mergeE r with
    | some (.inl u) :: r' =>
      show addText (E ++ [some (.inr x)]) u ++ r' = _
      obtain ⟨n, al⟩ := x
      rw [addText_open]
      simp
    | [] => simp [glueE]
    | some (.inr y) :: r' => simp [glueE]
    | none :: r' => simp [glueE]
  | none :: r, E => by
    rw [List.foldl_cons, foldl_push r]
    show glueE (E ++ [none]) (mergeE r) = E ++ (none :: mergeE r)
    match mergeE r with
    | some (.inl u) :: r' =>
      show addText (E ++ [none]) u ++ r' = _
      rw [addText_close]
      simp
    | [] => simp [glueE]
    | some (.inr y) :: r' => simp [glueE]
    | none :: r' => simp [glueE]
theorem foldl_push_nil (l : List Ev) : l.foldl pushE [] = mergeE l := by
  rw [foldl_push]
  match mergeE l with
  | some (.inl u) :: r' => simp [glueE, addText_nil]
  | [] => rfl
  | some (.inr y) :: r' => rfl
  | none :: r' => rfl
def startsText : List Ev → Prop
  | some (.inl _) :: _ => True
  | _ => False
/-- No two texts side by side. -/
def noAdj : List Ev → Prop
  | [] => True
  | some (.inl _) :: r => ¬ startsText r ∧ noAdj r
  | some (.inr _) :: r => noAdj r
  | none :: r => noAdj r
theorem noAdj_merge : ∀ l : List Ev, noAdj (mergeE l)
  | [] => trivial
  | some (.inl t) :: r => by
    have ih := noAdj_merge r
    show noAdj (glueT t (mergeE r))
    revert ih
    match mergeE r with
    | some (.inl u) :: r' => exact fun ih => ih
    | [] => exact fun _ => ⟨fun h => h, trivial⟩
    | some (.inr y) :: r' => exact fun ih => ⟨fun h => h, ih⟩
    | none :: r' => exact fun ih => ⟨fun h => h, ih⟩
  | some (.inr x) :: r => noAdj_merge r
  | none :: r => noAdj_merge r
theorem merge_noAdj : ∀ {l : List Ev}, noAdj l → mergeE l = l
  | [], _ => rfl
  | some (.inl t) :: r, h => by
    show glueT t (mergeE r) = _
    rw [merge_noAdj h.2]
    match r, h.1 with
    | some (.inl u) :: r', h1 => exact absurd trivial h1
    | [], _ => rfl
    | some (.inr y) :: r', _ => rfl
    | none :: r', _ => rfl
  | some (.inr x) :: r, h => by
    show _ :: mergeE r = _
    rw [merge_noAdj (l := r) h]
  | none :: r, h => by
    show _ :: mergeE r = _
    rw [merge_noAdj (l := r) h]
theorem noAdj_right : ∀ {a b : List Ev}, noAdj (a ++ b) → noAdj b
  | [], _, h => h
  | some (.inl _t) :: r, _b, h => noAdj_right (a := r) h.2
  | some (.inr _x) :: r, _b, h => noAdj_right (a := r) h
  | none :: r, _b, h => noAdj_right (a := r) h
theorem noAdj_left : ∀ {a b : List Ev}, noAdj (a ++ b) → noAdj a
  | [], _, _ => trivial
  | some (.inl t) :: r, b, h => by
    refine ⟨fun hs => h.1 ?_, noAdj_left (a := r) h.2⟩
    match r, hs with
    | some (.inl u) :: r', _ => trivial
  | some (.inr x) :: r, b, h => noAdj_left (a := r) h
  | none :: r, b, h => noAdj_left (a := r) h
theorem merge_none : ∀ (a b : List Ev), mergeE (a ++ none :: b) = mergeE a ++ none :: mergeE b
  | [], b => rfl
  | some (.inl t) :: r, b => by
    show glueT t (mergeE (r ++ none :: b)) = glueT t (mergeE r) ++ none :: mergeE b
    rw [merge_none r b]
    match mergeE r with
    | some (.inl u) :: r' => rfl
    | [] => rfl
    | some (.inr y) :: r' => rfl
    | none :: r' => rfl
  | some (.inr x) :: r, b => by
    show some (Sum.inr x) :: mergeE (r ++ none :: b) = _
    rw [merge_none r b]
    rfl
  | none :: r, b => by
    show none :: mergeE (r ++ none :: b) = _
    rw [merge_none r b]
    rfl
/-- An element, its kids one already, is put behind. -/
theorem push_elem (E : List Ev) (n : List UInt8) (al : List (List UInt8 × List UInt8)) (K : List Ev) : (evOpen n al :: (K ++ [none])).foldl pushE E = E ++ evOpen n al :: (mergeE K ++ [none]) := by
  rw [foldl_push]
  show glueE E (evOpen n al :: mergeE (K ++ [none])) = _
  rw [merge_none]
  rfl
/-- All in it is the policy's. -/
def allIn (p : Pol) : List Ev → Prop
  | [] => True
  | some (.inl _) :: r => allIn p r
  | some (.inr (n, al)) :: r => (p.1.contains n = true ∧ al.all (letsAP p) = true) ∧ allIn p r
  | none :: r => allIn p r
theorem allIn_raw (p : Pol) : ∀ (l : List Ev) (st : List Nat), allIn p (rawE p st l)
  | [], _ => trivial
  | some (.inl t) :: r, st => by
    unfold rawE
    split
    · exact allIn_raw p r st
    · exact allIn_raw p r st
  | some (.inr (n, al)) :: r, st => by
    unfold rawE
    split
    · exact allIn_raw p r _
    · split
      · rename_i hc
        exact ⟨⟨hc, by simp⟩, allIn_raw p r _⟩
      · split
        · exact allIn_raw p r _
        · exact allIn_raw p r _
  | none :: r, st => by
    unfold rawE
    split
    · exact allIn_raw p r _
    · exact allIn_raw p r _
theorem allIn_merge (p : Pol) : ∀ {l : List Ev}, allIn p l → allIn p (mergeE l)
  | [], _ => trivial
  | some (.inl t) :: r, h => by
    have ih := allIn_merge p (l := r) h
    show allIn p (glueT t (mergeE r))
    revert ih
    match mergeE r with
    | some (.inl u) :: r' => exact fun ih => ih
    | [] => exact fun ih => ih
    | some (.inr y) :: r' => exact fun ih => ih
    | none :: r' => exact fun ih => ih
  | some (.inr (n, al)) :: r, h => ⟨h.1, allIn_merge p (l := r) h.2⟩
  | none :: r, h => allIn_merge p (l := r) h
theorem raw_allIn (p : Pol) : ∀ {l : List Ev} {st : List Nat}, allIn p l → (∀ k ∈ st, k = 0) → rawE p st l = l
  | [], _, _, _ => rfl
  | some (.inl t) :: r, st, h, hs => by
    have h0 : st.headD 0 = 0 := by
      cases st with
      | nil => rfl
      | cons a b => exact hs a (by simp)
    unfold rawE
    rw [if_neg (by omega), raw_allIn p (l := r) h hs]
  | some (.inr (n, al)) :: r, st, h, hs => by
    have h0 : st.headD 0 = 0 := by
      cases st with
      | nil => rfl
      | cons a b => exact hs a (by simp)
    unfold rawE
    rw [if_neg (by omega), if_pos h.1.1, raw_allIn p (l := r) h.2 (by
      intro k hk
      rcases List.mem_cons.1 hk with h | h
      · exact h
      · exact hs k h)]
    congr 2
    congr 1
    congr 1
    rw [List.filter_eq_self]
    exact fun a ha => List.all_eq_true.1 h.1.2 a ha
  | none :: r, st, h, hs => by
    have h0 : st.headD 0 = 0 := by
      cases st with
      | nil => rfl
      | cons a b => exact hs a (by simp)
    unfold rawE
    rw [if_pos h0, raw_allIn p (l := r) h (fun k hk => hs k (List.mem_of_mem_tail hk))]
theorem filt_allIn {p : Pol} {l : List Ev} (h : allIn p l) (hn : noAdj l) : filtE p l = l := by
  rw [filtE, raw_allIn p h (by simp), merge_noAdj hn]
/-- What is left is left again. -/
theorem filt_filt (p : Pol) (l : List Ev) : filtE p (filtE p l) = filtE p l := filt_allIn (allIn_merge p (allIn_raw p l [])) (noAdj_merge _)
theorem filt_in (p : Pol) (l : List Ev) : allIn p (filtE p l) := allIn_merge p (allIn_raw p l [])
/-- Events that may be written, all closed. -/
def fitEv : List (List UInt8) → List Ev → Prop
  | ss, [] => ss = []
  | ss, some (.inl t) :: r => t ≠ [] ∧ (topRaw ss → holdsEndP (ss.headD []) t = false ∧ ∃ r', r = none :: r') ∧ fitEv ss r
  | ss, some (.inr (n, al)) :: r => (isNameP n = true ∧ attrsOkP al = true ∧ ss.length < 12 ∧ ¬ topRaw ss ∧ (kindP n = 1 → ∃ r', r = none :: r')) ∧ fitEv (n :: ss) r
  | ss, none :: r => ss ≠ [] ∧ fitEv ss.tail r
theorem fit_ok : ∀ {l : List Ev} {ss : List (List UInt8)}, fitEv ss l → okEv ss l
  | [], _, _ => trivial
  | some (.inl _t) :: r, _ss, h => ⟨h.1, h.2.1, fit_ok (l := r) h.2.2⟩
  | some (.inr (_n, _al)) :: r, _ss, h => ⟨h.1, fit_ok (l := r) h.2⟩
  | none :: r, _ss, h => fit_ok (l := r) h.2
theorem fit_merge : ∀ {l : List Ev} {ss : List (List UInt8)}, fitEv ss l → fitEv ss (mergeE l)
  | [], _, h => h
  | some (.inl t) :: r, ss, h => by
    have ih := fit_merge (l := r) h.2.2
    have hne : ∀ r', r = none :: r' → mergeE r = none :: mergeE r' := by
      intro r' e
      rw [e]
      rfl
    obtain ⟨h1, h2, h3⟩ := h
    show fitEv ss (glueT t (mergeE r))
    revert ih hne
    match mergeE r with
    | some (.inl u) :: r' =>
      intro ih hne
      refine ⟨by simp [h1], fun ht => ?_, ih.2.2⟩
      obtain ⟨r2, e⟩ := (h2 ht).2
      exact absurd (hne r2 e) (by simp)
    | [] =>
      intro ih hne
      refine ⟨h1, fun ht => ?_, ih⟩
      obtain ⟨r2, e⟩ := (h2 ht).2
      exact absurd (hne r2 e) (by simp)
    | some (.inr y) :: r' =>
      intro ih hne
      refine ⟨h1, fun ht => ?_, ih⟩
      obtain ⟨r2, e⟩ := (h2 ht).2
      exact absurd (hne r2 e) (by simp)
    | none :: r' =>
      intro ih hne
      exact ⟨h1, fun ht => ⟨(h2 ht).1, r', rfl⟩, ih⟩
  | some (.inr (n, al)) :: r, ss, h => by
    refine ⟨⟨h.1.1, h.1.2.1, h.1.2.2.1, h.1.2.2.2.1, fun hk => ?_⟩, fit_merge (l := r) h.2⟩
    obtain ⟨r', e⟩ := h.1.2.2.2.2 hk
    exact ⟨mergeE r', by rw [e]; rfl⟩
  | none :: r, ss, h => ⟨h.1, fit_merge (l := r) h.2⟩
/-- The names of what stays, of what is open. -/
def keptS : List (List UInt8) → List Nat → List (List UInt8)
  | n :: ss, k :: st => if k = 0 then n :: keptS ss st else keptS ss st
  | _, _ => []
theorem keptS_len : ∀ (ss : List (List UInt8)) (st : List Nat), (keptS ss st).length ≤ ss.length
  | [], _ => by simp [keptS]
  | n :: ss, [] => by simp [keptS]
  | n :: ss, k :: st => by
    have := keptS_len ss st
    unfold keptS
    split <;> simp <;> omega
theorem keptS_mem : ∀ {ss : List (List UInt8)} {st : List Nat} {m : List UInt8}, m ∈ keptS ss st → m ∈ ss
  | [], _, _, h => by simp [keptS] at h
  | n :: ss, [], _, h => by simp [keptS] at h
  | n :: ss, k :: st, m, h => by
    unfold keptS at h
    split at h
    · rcases List.mem_cons.1 h with h | h
      · simp [h]
      · simp [keptS_mem h]
    · simp [keptS_mem h]
/-- If what stays innermost is raw, it is innermost. -/
theorem keptS_raw {ss : List (List UInt8)} {st : List Nat} (hl : st.length = ss.length) (hr : ∀ n ∈ ss.tail, kindP n ≠ 2) (h : topRaw (keptS ss st)) : topRaw ss ∧ st.headD 0 = 0 ∧ (keptS ss st).headD [] = ss.headD [] := by
  cases ss with
  | nil => exact absurd h (by unfold keptS; decide)
  | cons n ss =>
    cases st with
    | nil => simp at hl
    | cons k st =>
      have hno : ∀ l : List (List UInt8), (∀ m ∈ l, m ∈ ss) → ¬ topRaw l := by
        intro l hm hc
        cases l with
        | nil => exact absurd hc (by decide)
        | cons x y => exact hr x (hm x (by simp)) hc
      by_cases hk : k = 0
      · have e : keptS (n :: ss) (k :: st) = n :: keptS ss st := by simp [keptS, hk]
        rw [e] at h ⊢
        exact ⟨h, hk, rfl⟩
      · have e : keptS (n :: ss) (k :: st) = keptS ss st := by simp [keptS, hk]
        rw [e] at h
        exact absurd h (hno _ (fun m hm => keptS_mem hm))
theorem fit_raw (p : Pol) : ∀ {l : List Ev} {ss : List (List UInt8)} {st : List Nat}, st.length = ss.length → (∀ n ∈ ss.tail, kindP n ≠ 2) → fitEv ss l → fitEv (keptS ss st) (rawE p st l)
  | [], ss, st, hl, _, h => by
    have h' : ss = [] := h
    subst h'
    show keptS [] st = []
    rfl
  | some (.inl t) :: r, ss, st, hl, hr, h => by
    have ih := fit_raw p (l := r) hl hr h.2.2
    unfold rawE
    split
    · exact ih
    · rename_i hk
      refine ⟨h.1, fun ht => ?_, ih⟩
      obtain ⟨h1, h2, h3⟩ := keptS_raw hl hr ht
      obtain ⟨g1, r', e⟩ := h.2.1 h1
      rw [h3]
      refine ⟨g1, rawE p st.tail r', ?_⟩
      rw [e]
      show (if st.headD 0 = 0 then none :: rawE p st.tail r' else _) = _
      rw [if_pos h2]
  | some (.inr (n, al)) :: r, ss, st, hl, hr, h => by
    obtain ⟨⟨h1, h2, h3, h4, h5⟩, h6⟩ := h
    have hr' : ∀ m ∈ (n :: ss).tail, kindP m ≠ 2 := by
      intro m hm
      cases ss with
      | nil => simp at hm
      | cons a b =>
        rcases List.mem_cons.1 hm with h | h
        · rw [h]
          exact h4
        · exact hr m h
    have hlk := keptS_len ss st
    have ih : ∀ k : Nat, fitEv (keptS (n :: ss) (k :: st)) (rawE p (k :: st) r) := fun k => fit_raw p (l := r) (by simp [hl]) hr' h6
    unfold rawE
    split
    · exact ih 2
    · split
      · refine ⟨⟨h1, ?_, by omega, fun hc => h4 (keptS_raw hl hr hc).1, fun hk => ?_⟩, ih 0⟩
        · unfold attrsOkP at h2 ⊢
          simp only [Bool.and_eq_true, decide_eq_true_eq] at h2 ⊢
          refine ⟨?_, ?_⟩
          · rw [List.all_eq_true] at h2 ⊢
            exact fun a ha => h2.1 a ((List.mem_filter.1 ha).1)
          · exact (List.Sublist.map Prod.fst List.filter_sublist).nodup h2.2
        · obtain ⟨r', e⟩ := h5 hk
          exact ⟨rawE p st r', by rw [e]; rfl⟩
      · split
        · exact ih 2
        · exact ih 1
  | none :: r, ss, st, hl, hr, h => by
    obtain ⟨h1, h2⟩ := h
    cases ss with
    | nil => exact absurd rfl h1
    | cons n ss =>
      cases st with
      | nil => simp at hl
      | cons k st =>
        have hr' : ∀ m ∈ ss.tail, kindP m ≠ 2 := fun m hm => hr m (List.mem_of_mem_tail hm)
        have ih := fit_raw p (l := r) (ss := ss) (st := st) (by simpa using hl) hr' h2
        unfold rawE
        by_cases hk : k = 0
        · have e : keptS (n :: ss) (k :: st) = n :: keptS ss st := by simp [keptS, hk]
          have e2 : (k :: st).headD 0 = 0 := hk
          rw [e, if_pos e2]
          exact ⟨by simp, ih⟩
        · have e : keptS (n :: ss) (k :: st) = keptS ss st := by simp [keptS, hk]
          have e2 : ¬ (k :: st).headD 0 = 0 := hk
          rw [e, if_neg e2]
          exact ih
theorem fit_filt (p : Pol) {l : List Ev} (h : fitEv [] l) : fitEv [] (filtE p l) := fit_merge (fit_raw p (ss := []) (st := []) rfl (by simp) h)
/-- What is read may be written, and no two texts stand side by side in it. -/
theorem items_fit : ∀ (I : List Item) (o : St), stableL o I → (runI o I).2 = [] → fitEv o.2.reverse (I.flatMap itemEv) ∧ noAdj (I.flatMap itemEv) ∧ (∀ E0 t0, o.1 = E0 ++ [evText t0] → ¬ startsText (I.flatMap itemEv))
  | [], o, _, hend => by
    have h0 : o.2 = [] := hend
    exact ⟨by rw [h0]; rfl, trivial, fun _ _ _ h => h⟩
  | .inl t :: r, o, h, hend => by
    obtain ⟨⟨h1, h2, h3, h4⟩, hr⟩ := h
    obtain ⟨i1, i2, i3⟩ := items_fit r _ hr hend
    have hnr := raw_top h4
    have e1 : (Sum.inl t :: r : List Item).flatMap itemEv = evText t :: r.flatMap itemEv := rfl
    have e2 : (stepI o (iText t)).2 = o.2 := rfl
    rw [e2] at i1
    rw [e1]
    refine ⟨⟨h1, fun hc => absurd hc hnr, i1⟩, ⟨i3 o.1 t rfl, i2⟩, fun E0 t0 e => ?_⟩
    exfalso
    rw [e] at h3
    exact addText_last E0 t0 t h3
  | .inr (.inl (n, al, tx)) :: r, o, h, hend => by
    obtain ⟨⟨h1, h2, h3, h4, h5, h6, h7⟩, hr⟩ := h
    obtain ⟨i1, i2, i3⟩ := items_fit r _ hr hend
    have hnr := raw_top h6
    have hl : o.2.reverse.length < 12 := by simpa using h7
    by_cases hk1 : kindP n = 1
    · have htx : tx = [] := h4 (by omega)
      subst htx
      have e1 : (Sum.inr (Sum.inl (n, al, [])) :: r : List Item).flatMap itemEv = evOpen n al :: none :: r.flatMap itemEv := by simp [itemEv, hk1]
      have e2 : (stepI o (iStart n al [])).2 = o.2 := by show (if kindP n = 1 then _ else _) = _; rw [if_pos hk1]
      rw [e2] at i1
      rw [e1]
      exact ⟨⟨⟨h1, h2, hl, hnr, fun _ => ⟨_, rfl⟩⟩, by simp, i1⟩, i2, fun _ _ _ h => h⟩
    · have e2 : (stepI o (iStart n al tx)).2.reverse = n :: o.2.reverse := by
        show (if kindP n = 1 then o.2 else o.2 ++ [n]).reverse = _
        rw [if_neg hk1]
        simp
      rw [e2] at i1
      by_cases htx : tx = []
      · subst htx
        have e1 : (Sum.inr (Sum.inl (n, al, [])) :: r : List Item).flatMap itemEv = evOpen n al :: r.flatMap itemEv := by simp [itemEv, hk1]
        rw [e1]
        exact ⟨⟨⟨h1, h2, hl, hnr, fun e => absurd e hk1⟩, i1⟩, i2, fun _ _ _ h => h⟩
      · have hk2 : kindP n = 2 := Classical.byContradiction fun hc => htx (h4 hc)
        have e1 : (Sum.inr (Sum.inl (n, al, tx)) :: r : List Item).flatMap itemEv = evOpen n al :: evText tx :: r.flatMap itemEv := by simp [itemEv, hk1, htx]
        have htop : topKind (stepI o (iStart n al tx)).2 = 2 := by
          show topKind (if kindP n = 1 then o.2 else o.2 ++ [n]) = 2
          rw [if_neg hk1, topKind_snoc, hk2]
        have hnext : ∃ r', r.flatMap itemEv = none :: r' := by
          cases r with
          | nil =>
            exfalso
            have h0 : (stepI o (iStart n al tx)).2 = [] := hend
            rw [h0] at htop
            simp [topKind] at htop
          | cons j r2 =>
            match j, hr with
            | .inl t, hr => exact absurd htop hr.1.2.2.2
            | .inr (.inl (n2, al2, tx2)), hr => exact absurd htop hr.1.2.2.2.2.2.1
            | .inr (.inr n2), hr => exact ⟨r2.flatMap itemEv, rfl⟩
        rw [e1]
        refine ⟨⟨⟨h1, h2, hl, hnr, fun e => absurd e hk1⟩, htx, fun _ => ⟨h5, hnext⟩, i1⟩, ⟨?_, i2⟩, fun _ _ _ h => h⟩
        obtain ⟨r', e⟩ := hnext
        rw [e]
        exact fun h => h
  | .inr (.inr n) :: r, o, h, hend => by
    obtain ⟨⟨h1, h2, st', hst⟩, hr⟩ := h
    obtain ⟨i1, i2, i3⟩ := items_fit r _ hr hend
    have e1 : (Sum.inr (Sum.inr n) :: r : List Item).flatMap itemEv = none :: r.flatMap itemEv := rfl
    have e2 : (stepI o (iEnd n)).2 = st' := by show o.2.dropLast = _; rw [hst]; simp
    rw [e2] at i1
    have e3 : o.2.reverse = n :: st'.reverse := by rw [hst]; simp
    rw [e1, e3]
    exact ⟨⟨by simp, i1⟩, i2, fun _ _ _ h => h⟩
theorem read_fit (r : List UInt8) : fitEv [] (readP r) ∧ noAdj (readP r) := by
  obtain ⟨I, h1, h2, h3⟩ := read_good r
  obtain ⟨i1, i2, _⟩ := items_fit I ([], []) h1 h2
  rw [h3]
  exact ⟨i1, i2⟩
end Go.Proofs.YtlpmjpmefdpcmaaGreatDoor
/- How much is read in what was written: it grows by rows and cells alone. No function of the program in it. -/
namespace Go.Proofs.YtlpmjpmefdpcmaaGreatDoor
open Go.RowKit Scrub Go.Shelf
def nameW (a b c : Nat) (n : List UInt8) : Nat := if n = [116, 114] then 3 * c else if n = [116, 100] then 3 * b else a * (n.length + 1)
/-- How much there is: a each for texts and elements, b for a td, c for a tr. -/
def evW (a b c : Nat) : List Ev → Nat
  | [] => 0
  | some (.inl t) :: r => a * (t.length + 1) + evW a b c r
  | some (.inr (n, al)) :: r => a * bulkA al + nameW a b c n + evW a b c r
  | none :: r => evW a b c r
theorem evW_append (a b c : Nat) : ∀ x y : List Ev, evW a b c (x ++ y) = evW a b c x + evW a b c y
  | [], y => by simp [evW]
  | some (.inl t) :: r, y => by
    have := evW_append a b c r y
    simp only [List.cons_append, evW]
    omega
  | none :: r, y => by
    have := evW_append a b c r y
    simp only [List.cons_append, evW]
    omega
  | some (.inr x) :: r, y => by
    have := evW_append a b c r y
    obtain ⟨n, al⟩ := x
    simp only [List.cons_append, evW]
    omega
theorem evW_none (a b c n : Nat) : evW a b c (List.replicate n none) = 0 := by
  induction n with
  | zero => rfl
  | succ n ih => simp [List.replicate_succ, evW, ih]
theorem closeE_w (a b c : Nat) (E : List Ev) (st : List (List UInt8)) (p : Nat) : evW a b c (closeE E st p) = evW a b c E := by
  rw [closeE, evW_append, evW_none]
  rfl
theorem pushP_w (a b c : Nat) (E : List Ev) (st : List (List UInt8)) (n : List UInt8) (al : List (List UInt8 × List UInt8)) : evW a b c (pushP E st n al).1 ≤ evW a b c E + (a * bulkA al + nameW a b c n) := by
  unfold pushP
  split
  · rw [evW_append]
    simp [evW]
  · simp only
    omega
theorem rowP_w (a b c : Nat) (E : List Ev) (st : List (List UInt8)) (al : List (List UInt8 × List UInt8)) : evW a b c (rowP E st al).1 ≤ evW a b c E + (a * bulkA al + 3 * c) := by
  unfold rowP
  split
  · simp only
    omega
  · have := pushP_w a b c (closeE E st (lastIdx (fun m => m == [116, 97, 98, 108, 101]) st + 1).toNat) (st.take (lastIdx (fun m => m == [116, 97, 98, 108, 101]) st + 1).toNat) [116, 114] al
    rw [closeE_w] at this
    have e : nameW a b c [116, 114] = 3 * c := by simp [nameW]
    rw [e] at this
    exact this
theorem cellP_w (a b c : Nat) (E : List Ev) (st : List (List UInt8)) (al : List (List UInt8 × List UInt8)) : evW a b c (cellP E st al).1 ≤ evW a b c E + (a * bulkA al + 3 * b + 3 * c) := by
  unfold cellP
  split
  · simp only
    omega
  · have h1 := pushP_w a b c (cellAhead E st).1 (cellAhead E st).2 [116, 100] al
    have h2 : evW a b c (cellAhead E st).1 ≤ evW a b c E + 3 * c := by
      unfold cellAhead
      split
      · simp only
        rw [closeE_w]
        omega
      · have := rowP_w a b c E st []
        simp [bulkA] at this
        exact this
    have e : nameW a b c [116, 100] = 3 * b := by simp [nameW]
    rw [e] at h1
    omega
theorem openP_w (a b c : Nat) (E : List Ev) (st : List (List UInt8)) : evW a b c (openP E st).1 ≤ evW a b c E + (3 * b + 3 * c) := by
  unfold openP
  split
  · have := cellP_w a b c E st []
    simp [bulkA] at this
    omega
  · simp only
    omega
theorem addText_w (a b c : Nat) (E : List Ev) (t : List UInt8) : evW a b c (addText E t) ≤ evW a b c E + a * (t.length + 1) := by
  rcases addText_cases E t with ⟨E0, t0, h1, h2⟩ | h
  · rw [h2, h1, evW_append, evW_append]
    simp only [evW, List.length_append, Nat.mul_add]
    omega
  · rw [h, evW_append]
    simp [evW]
theorem paraK_w (a b c : Nat) (k : Int) (o : St) : evW a b c (paraK k o).1 = evW a b c o.1 := by
  unfold paraK
  split
  · unfold paraP
    split
    · exact closeE_w _ _ _ _ _ _
    · rfl
  · rfl
theorem itemK_w (a b c : Nat) (n : List UInt8) (o : St) : evW a b c (itemK n o).1 = evW a b c o.1 := by
  unfold itemK
  split
  · unfold itemP
    split
    · exact closeE_w _ _ _ _ _ _
    · rfl
  · rfl
theorem otherP_w (a b c : Nat) (E : List Ev) (st : List (List UInt8)) (n : List UInt8) (al : List (List UInt8 × List UInt8)) (tx : List UInt8) : evW a b c (otherP E st n al tx).1 ≤ evW a b c E + (a * bulkA al + nameW a b c n + (3 * b + 3 * c)) + (if tx = [] then 0 else a * (tx.length + 1) + (3 * b + 3 * c)) := by
  have h1 := openP_w a b c E st
  unfold otherP
  have e : evW a b c (itemK n (paraK (kindP n) (openP E st))).1 = evW a b c (openP E st).1 := by rw [itemK_w, paraK_w]
  generalize itemK n (paraK (kindP n) (openP E st)) = o3 at e
  rw [tailP_eq]
  split
  · have h2 := pushP_w a b c o3.1 o3.2 n al
    have h3 : evW a b c (putT (pushP o3.1 o3.2 n al) tx).1 ≤ evW a b c (pushP o3.1 o3.2 n al).1 + (if tx = [] then 0 else a * (tx.length + 1) + (3 * b + 3 * c)) := by
      unfold putT
      split
      · omega
      · have h4 := openP_w a b c (pushP o3.1 o3.2 n al).1 (pushP o3.1 o3.2 n al).2
        have h5 := addText_w a b c (openP (pushP o3.1 o3.2 n al).1 (pushP o3.1 o3.2 n al).2).1 tx
        simp only
        omega
    have h6 : evW a b c (voidK (kindP n) (putT (pushP o3.1 o3.2 n al) tx)).1 = evW a b c (putT (pushP o3.1 o3.2 n al) tx).1 := by
      unfold voidK
      split
      · exact closeE_w _ _ _ _ _ _
      · rfl
    rw [h6]
    omega
  · simp only
    omega
theorem mulW {a b c A m : Nat} (hA : a + 2 * b + 2 * c ≤ A) (hm : 2 ≤ m) : a * m + (3 * b + 3 * c) ≤ A * m := by
  have h1 := Nat.mul_le_mul_right m hA
  have h2 : a + 2 * b + 2 * c = a + (2 * b + 2 * c) := by omega
  rw [h2, Nat.add_mul] at h1
  have h3 := Nat.mul_le_mul_left (2 * b + 2 * c) hm
  omega
theorem startT_w {a b c A B C : Nat} (hA : a + 2 * b + 2 * c ≤ A) (hB : b + c ≤ B) (hC : c ≤ C) (o : St) (n : List UInt8) (al : List (List UInt8 × List UInt8)) (tx : List UInt8) (hn : n ≠ []) (_ht : tx ≠ [] → kindP n = 2) :
    evW a b c (startT o.1 o.2 n al tx).1 ≤ evW a b c o.1 + (A * bulkA al + nameW A B C n + (if tx = [] then 0 else A * (tx.length + 1))) := by
  have hal : a * bulkA al ≤ A * bulkA al := Nat.mul_le_mul_right _ (by omega)
  have htx : (if tx = [] then 0 else a * (tx.length + 1) + (3 * b + 3 * c)) ≤ (if tx = [] then 0 else A * (tx.length + 1)) := by
    split
    · omega
    · rename_i h
      exact mulW hA (by have := List.length_pos_iff.2 h; omega)
  unfold startT
  split
  · rename_i h
    have := rowP_w a b c o.1 o.2 al
    have e : nameW A B C n = 3 * C := by simp [nameW, h]
    rw [e]
    omega
  · rename_i h0
    split
    · rename_i h
      have := cellP_w a b c o.1 o.2 al
      have e : nameW A B C n = 3 * B := by simp [nameW, h]
      rw [e]
      omega
    · rename_i h1
      have h7 := otherP_w a b c o.1 o.2 n al tx
      have e : nameW A B C n = A * (n.length + 1) := by simp [nameW, h0, h1]
      have e2 : nameW a b c n = a * (n.length + 1) := by simp [nameW, h0, h1]
      have h8 := mulW hA (m := n.length + 1) (by have := List.length_pos_iff.2 hn; omega)
      rw [e]
      rw [e2] at h7
      omega
theorem kind_nil1 : kindP [] ≠ 1 := by decide
/-- How what is written begins, ahead of which a text may stand. -/
theorem wEv_begins {ss : List (List UInt8)} {r : List Ev} (hf : fitEv ss r) (hs : ¬ startsText r) (hn : ∀ n ∈ ss, isNameP n = true) (hk : kindP (ss.headD []) ≠ 1) : wEv ss r = [] ∨ beginsP (wEv ss r) ≠ 0 := by
  match r, hf, hs with
  | [], _, _ => exact .inl rfl
  | some (.inl t) :: r, _, hs => exact absurd trivial hs
  | some (.inr (n, al)) :: r, hf, _ =>
    right
    obtain ⟨c, t, rfl, g1, _, _⟩ := isName_cons hf.1.1
    have hr : wEv ss (some (.inr (c :: t, al)) :: r) = 60 :: c :: (t ++ (al.flatMap attrW ++ 62 :: wEv ((c :: t) :: ss) r)) := by simp [wEv, startW]
    rw [hr, begins_start c _ g1]
    decide
  | none :: r, hf, _ =>
    right
    cases ss with
    | nil => exact absurd rfl hf.1
    | cons n ss =>
      obtain ⟨c, t, rfl, g1, _, _⟩ := isName_cons (hn n (by simp))
      have hk' : ¬ kindP (c :: t) = 1 := hk
      have hr : wEv ((c :: t) :: ss) (none :: r) = 60 :: 47 :: c :: (t ++ 62 :: wEv ss r) := by
        show (if kindP (c :: t) = 1 then [] else endW (c :: t)) ++ wEv ss r = _
        rw [if_neg hk']
        simp [endW]
      rw [hr, begins_end c _ g1]
      decide
theorem read_w {a b c A B C : Nat} (hA : a + 2 * b + 2 * c ≤ A) (hB : b + c ≤ B) (hC : c ≤ C) : ∀ (k : Nat) (ev : List Ev) (ss : List (List UInt8)) (o : St), ev.length ≤ k → fitEv ss ev → noAdj ev → (∀ n ∈ ss, isNameP n = true) → (kindP (ss.headD []) ≠ 1 ∧ ¬ topRaw ss ∨ ∃ r', ev = none :: r') → (∀ n ∈ ss.tail, kindP n ≠ 1 ∧ kindP n ≠ 2) →
    evW a b c (readFrom (wEv ss ev) o).1 ≤ evW a b c o.1 + evW A B C ev
  | _, [], ss, o, _, _, _, _, _, _ => by
    show evW a b c (readFrom [] o).1 ≤ _
    rw [readFrom_none nextP_nil o]
    omega
  | 0, _ :: _, _, _, hl, _, _, _, _, _ => by simp at hl
  | k + 1, some (.inl t) :: r, ss, o, hl, hf, hna, hnm, hh, htl => by
    rcases hh with ⟨hk1, hnr⟩ | ⟨r', e⟩
    · obtain ⟨h1, h2, h3⟩ := hf
      have hb := wEv_begins h3 hna.1 hnm hk1
      have hn := next_text t (wEv ss r) h1 hb
      have e : wEv ss (some (.inl t) :: r) = escP [38, 60, 62] t ++ wEv ss r := by
        show (if topRaw ss then t else _) ++ _ = _
        rw [if_neg hnr]
      rw [e, readFrom_some hn]
      have ih := read_w hA hB hC k r ss (stepT o 0 [] [] t) (by simpa using hl) h3 hna.2 hnm (.inl ⟨hk1, hnr⟩) htl
      have hs : evW a b c (stepT o 0 [] [] t).1 ≤ evW a b c o.1 + A * (t.length + 1) := by
        show evW a b c (addText (openP o.1 o.2).1 t) ≤ _
        have g1 := openP_w a b c o.1 o.2
        have g2 := addText_w a b c (openP o.1 o.2).1 t
        have g3 := mulW hA (m := t.length + 1) (by have := List.length_pos_iff.2 h1; omega)
        omega
      show _ ≤ evW a b c o.1 + (A * (t.length + 1) + evW A B C r)
      omega
    · cases e
  | k + 1, some (.inr (n, al)) :: r, ss, o, hl, hf, hna, hnm, hh, htl => by
    rcases hh with ⟨hk1, hnr⟩ | ⟨r', e⟩
    · obtain ⟨⟨h1, h2, h3, h4, h5⟩, h6⟩ := hf
      have hne : n ≠ [] := by
        intro e
        rw [e] at h1
        exact absurd h1 (by decide)
      have hnm' : ∀ m ∈ n :: ss, isNameP m = true := by
        intro m hm
        rcases List.mem_cons.1 hm with h | h
        · rw [h]
          exact h1
        · exact hnm m h
      have htl' : ∀ m ∈ (n :: ss).tail, kindP m ≠ 1 ∧ kindP m ≠ 2 := by
        intro m hm
        cases ss with
        | nil => simp at hm
        | cons x y =>
          rcases List.mem_cons.1 hm with h | h
          · rw [h]
            exact ⟨hk1, hnr⟩
          · exact htl m h
      have e : wEv ss (some (.inr (n, al)) :: r) = startW n al ++ wEv (n :: ss) r := rfl
      have hn := next_start n al (wEv (n :: ss) r) h1 h2
      have ew : evW A B C (some (.inr (n, al)) :: r) = A * bulkA al + nameW A B C n + evW A B C r := rfl
      rw [e, ew]
      by_cases hk2 : kindP n = 2
      · rw [if_pos hk2] at hn
        have hk1' : ¬ kindP n = 1 := by omega
        have htr : topRaw (n :: ss) := hk2
        match r, h6, hna, hn, hl with
        | [], h6, _, _, _ => cases h6
        | none :: r2, h6, hna, hn, hl =>
          have e2 : wEv (n :: ss) (none :: r2) = [] ++ (endW n ++ wEv ss r2) := by
            show (if kindP n = 1 then [] else endW n) ++ wEv ss r2 = _
            rw [if_neg hk1']
            rfl
          rw [e2, raw_written n h1 (wEv ss r2) [] rfl] at hn
          rw [e2, readFrom_some hn]
          have ih := read_w hA hB hC k (none :: r2) (n :: ss) (stepT o 1 n al []) (by simp at hl ⊢; omega) h6 hna hnm' (.inr ⟨_, rfl⟩) htl'
          rw [e2] at ih
          have hs := startT_w hA hB hC o n al [] hne (fun h => absurd rfl h)
          have hs' : evW a b c (stepT o 1 n al []).1 ≤ evW a b c o.1 + (A * bulkA al + nameW A B C n + 0) := hs
          rw [List.nil_append] at ih
          show evW a b c (readFrom (endW n ++ wEv ss r2) (stepT o 1 n al [])).1 ≤ _
          omega
        | some (.inl t) :: r2, h6, hna, hn, hl =>
          obtain ⟨g1, g2, g3⟩ := h6
          obtain ⟨g4, r3, g5⟩ := g2 htr
          subst g5
          have g4' : holdsEndP n t = false := g4
          have e2 : wEv (n :: ss) (some (.inl t) :: none :: r3) = t ++ (endW n ++ wEv ss r3) := by
            show (if topRaw (n :: ss) then t else _) ++ ((if kindP n = 1 then [] else endW n) ++ wEv ss r3) = _
            rw [if_pos htr, if_neg hk1']
          have e3 : wEv (n :: ss) (none :: r3) = endW n ++ wEv ss r3 := by
            show (if kindP n = 1 then [] else endW n) ++ wEv ss r3 = _
            rw [if_neg hk1']
          rw [e2, raw_written n h1 (wEv ss r3) t g4'] at hn
          rw [e2, readFrom_some hn]
          have ih := read_w hA hB hC k (none :: r3) (n :: ss) (stepT o 1 n al t) (by simp at hl ⊢; omega) g3 hna.2 hnm' (.inr ⟨_, rfl⟩) htl'
          rw [e3] at ih
          have hs := startT_w hA hB hC o n al t hne (fun _ => hk2)
          rw [if_neg g1] at hs
          have hs' : evW a b c (stepT o 1 n al t).1 ≤ evW a b c o.1 + (A * bulkA al + nameW A B C n + A * (t.length + 1)) := hs
          show evW a b c (readFrom (endW n ++ wEv ss r3) (stepT o 1 n al t)).1 ≤ _ + (_ + (A * (t.length + 1) + evW A B C (none :: r3)))
          omega
        | some (.inr (n2, al2)) :: r2, h6, _, _, _ => exact absurd htr h6.1.2.2.2.1
      · rw [if_neg hk2] at hn
        rw [readFrom_some hn]
        have hh' : kindP ((n :: ss).headD []) ≠ 1 ∧ ¬ topRaw (n :: ss) ∨ ∃ r', r = none :: r' := by
          by_cases hk : kindP n = 1
          · exact .inr (h5 hk)
          · exact .inl ⟨hk, hk2⟩
        have ih := read_w hA hB hC k r (n :: ss) (stepT o 1 n al []) (by simpa using hl) h6 hna hnm' hh' htl'
        have hs := startT_w hA hB hC o n al [] hne (fun h => absurd rfl h)
        have hs' : evW a b c (stepT o 1 n al []).1 ≤ evW a b c o.1 + (A * bulkA al + nameW A B C n + 0) := hs
        omega
    · cases e
  | k + 1, none :: r, ss, o, hl, hf, hna, hnm, hh, htl => by
    cases ss with
    | nil => exact absurd rfl hf.1
    | cons n ss =>
      have hf' : fitEv ss r := hf.2
      have hnm' : ∀ m ∈ ss, isNameP m = true := fun m hm => hnm m (by simp [hm])
      have htl' : ∀ m ∈ ss.tail, kindP m ≠ 1 ∧ kindP m ≠ 2 := fun m hm => htl m (List.mem_of_mem_tail hm)
      have hh' : kindP (ss.headD []) ≠ 1 ∧ ¬ topRaw ss ∨ ∃ r', r = none :: r' := by
        left
        cases ss with
        | nil => exact ⟨by decide, by decide⟩
        | cons x y => exact ⟨(htl x (by simp)).1, (htl x (by simp)).2⟩
      have ih := fun o' => read_w hA hB hC k r ss o' (by simpa using hl) hf' hna hnm' hh' htl'
      have ew : evW A B C (none :: r) = evW A B C r := rfl
      rw [ew]
      by_cases hk : kindP n = 1
      · have e : wEv (n :: ss) (none :: r) = wEv ss r := by
          show (if kindP n = 1 then [] else endW n) ++ wEv ss r = _
          rw [if_pos hk]
          rfl
        rw [e]
        exact ih o
      · have e : wEv (n :: ss) (none :: r) = endW n ++ wEv ss r := by
          show (if kindP n = 1 then [] else endW n) ++ wEv ss r = _
          rw [if_neg hk]
        have hn := next_end n (wEv ss r) (hnm n (by simp))
        rw [e, readFrom_some hn]
        have := ih (stepT o 2 n [] [])
        have hs : evW a b c (stepT o 2 n [] []).1 = evW a b c o.1 := by
          show evW a b c (endE o.1 o.2 n).1 = _
          unfold endE
          split
          · rfl
          · exact closeE_w _ _ _ _ _ _
        omega
/-- What is read in what was written. -/
theorem read_grow {a b c A B C : Nat} (hA : a + 2 * b + 2 * c ≤ A) (hB : b + c ≤ B) (hC : c ≤ C) {ev : List Ev} (hf : fitEv [] ev) (hna : noAdj ev) : evW a b c (readP (wEv [] ev)) ≤ evW A B C ev := by
  unfold readP
  rw [closeE_w]
  have := read_w hA hB hC ev.length ev [] ([], []) (Nat.le_refl _) hf hna (by simp) (.inl ⟨by decide, by decide⟩) (by simp)
  simpa [evW] using this
theorem bulkA_filter (q : List UInt8 × List UInt8 → Bool) : ∀ al : List (List UInt8 × List UInt8), bulkA (al.filter q) ≤ bulkA al
  | [] => Nat.le_refl _
  | x :: t => by
    have ih := bulkA_filter q t
    rw [List.filter_cons]
    split
    · show x.1.length + x.2.length + 1 + bulkA (t.filter q) ≤ x.1.length + x.2.length + 1 + bulkA t
      omega
    · show _ ≤ x.1.length + x.2.length + 1 + bulkA t
      omega
theorem raw_w (a b c : Nat) (p : Pol) : ∀ (l : List Ev) (st : List Nat), evW a b c (rawE p st l) ≤ evW a b c l
  | [], _ => Nat.le_refl _
  | some (.inl t) :: r, st => by
    have ih := raw_w a b c p r st
    unfold rawE
    split
    · show _ ≤ _ + evW a b c r
      omega
    · show _ + evW a b c (rawE p st r) ≤ _ + evW a b c r
      omega
  | some (.inr (n, al)) :: r, st => by
    have ih := fun st => raw_w a b c p r st
    unfold rawE
    split
    · show _ ≤ _ + evW a b c r
      have := ih (2 :: st)
      omega
    · split
      · show a * bulkA (al.filter (letsAP p)) + nameW a b c n + evW a b c (rawE p (0 :: st) r) ≤ a * bulkA al + nameW a b c n + evW a b c r
        have := ih (0 :: st)
        have := Nat.mul_le_mul_left a (bulkA_filter (letsAP p) al)
        omega
      · split
        · show _ ≤ _ + evW a b c r
          have := ih (2 :: st)
          omega
        · show _ ≤ _ + evW a b c r
          have := ih (1 :: st)
          omega
  | none :: r, st => by
    have ih := raw_w a b c p r st.tail
    unfold rawE
    split
    · exact ih
    · exact ih
theorem merge_w (a b c : Nat) : ∀ l : List Ev, evW a b c (mergeE l) ≤ evW a b c l
  | [] => Nat.le_refl _
  | some (.inl t) :: r => by
    have ih := merge_w a b c r
    show evW a b c (glueT t (mergeE r)) ≤ a * (t.length + 1) + evW a b c r
    revert ih
    match mergeE r with
    | some (.inl u) :: r' =>
      intro ih
      have ih' : a * (u.length + 1) + evW a b c r' ≤ evW a b c r := ih
      show a * ((t ++ u).length + 1) + evW a b c r' ≤ _
      rw [List.length_append]
      simp only [Nat.mul_add] at ih' ⊢
      omega
    | [] =>
      intro ih
      show a * (t.length + 1) + 0 ≤ _
      omega
    | some (.inr y) :: r' =>
      intro ih
      show a * (t.length + 1) + evW a b c (some (.inr y) :: r') ≤ _
      omega
    | none :: r' =>
      intro ih
      show a * (t.length + 1) + evW a b c (none :: r') ≤ _
      omega
  | some (.inr (n, al)) :: r => by
    have ih := merge_w a b c r
    show a * bulkA al + nameW a b c n + evW a b c (mergeE r) ≤ a * bulkA al + nameW a b c n + evW a b c r
    omega
  | none :: r => merge_w a b c r
theorem filt_w (a b c : Nat) (p : Pol) (l : List Ev) : evW a b c (filtE p l) ≤ evW a b c l := Nat.le_trans (merge_w a b c _) (raw_w a b c p l [])
theorem evBulk_w {a b c : Nat} (ha : 1 ≤ a) (hb : 1 ≤ b) (hc : 1 ≤ c) : ∀ l : List Ev, evBulk l ≤ evW a b c l
  | [] => Nat.le_refl _
  | some (.inl t) :: r => by
    have ih := evBulk_w ha hb hc r
    show t.length + 1 + evBulk r ≤ a * (t.length + 1) + evW a b c r
    have := Nat.mul_le_mul_right (t.length + 1) ha
    omega
  | some (.inr (n, al)) :: r => by
    have ih := evBulk_w ha hb hc r
    show n.length + bulkA al + 1 + evBulk r ≤ a * bulkA al + nameW a b c n + evW a b c r
    have h1 := Nat.mul_le_mul_right (bulkA al) ha
    have h2 : n.length + 1 ≤ nameW a b c n := by
      unfold nameW
      split
      · rename_i h
        rw [h]
        simp
        omega
      · split
        · rename_i h
          rw [h]
          simp
          omega
        · have := Nat.mul_le_mul_right (n.length + 1) ha
          omega
    omega
  | none :: r => evBulk_w ha hb hc r
theorem evW_bulk {a b c M : Nat} (ha : a ≤ M) (hb : b ≤ M) (hc : c ≤ M) : ∀ l : List Ev, evW a b c l ≤ M * evBulk l
  | [] => Nat.zero_le _
  | some (.inl t) :: r => by
    have ih := evW_bulk ha hb hc r
    show a * (t.length + 1) + evW a b c r ≤ M * (t.length + 1 + evBulk r)
    have := Nat.mul_le_mul_right (t.length + 1) ha
    rw [Nat.mul_add M (t.length + 1)]
    omega
  | some (.inr (n, al)) :: r => by
    have ih := evW_bulk ha hb hc r
    show a * bulkA al + nameW a b c n + evW a b c r ≤ M * (n.length + bulkA al + 1 + evBulk r)
    have h1 := Nat.mul_le_mul_right (bulkA al) ha
    have e : n.length + bulkA al + 1 + evBulk r = bulkA al + (n.length + 1) + evBulk r := by omega
    have h2 : nameW a b c n ≤ M * (n.length + 1) := by
      unfold nameW
      split
      · rename_i h
        rw [h]
        simp
        omega
      · split
        · rename_i h
          rw [h]
          simp
          omega
        · exact Nat.mul_le_mul_right (n.length + 1) ha
    rw [e, Nat.mul_add, Nat.mul_add]
    omega
  | none :: r => evW_bulk ha hb hc r
/-- How much may be in it, k rounds ahead of the last. -/
def aW : Nat → Nat
  | 0 => 1
  | k + 1 => aW k + 2 * (k + 1) + 2
/-- A round: what was read of what a round wrote. -/
theorem round_w (k : Nat) (p : Pol) {l : List Ev} (hf : fitEv [] l) : evW (aW k) (k + 1) 1 (readP (wEv [] (filtE p l))) ≤ evW (aW (k + 1)) (k + 2) 1 l :=
  Nat.le_trans (read_grow (A := aW (k + 1)) (B := k + 2) (C := 1) (by unfold aW; cases k <;> simp [aW]) (by omega) (by omega) (fit_filt p hf) (noAdj_merge _)) (filt_w _ _ _ p l)
theorem first_w (s : List UInt8) (h : s.length ≤ 600) : evW (aW 8) 9 1 (readP s) ≤ 1068000 := by
  have h1 := evW_bulk (a := aW 8) (b := 9) (c := 1) (M := 89) (by decide) (by omega) (by omega) (readP s)
  have h2 := readP_bulk s
  have h3 : 89 * evBulk (readP s) ≤ 89 * 12000 := Nat.mul_le_mul_left 89 (by omega)
  omega
theorem aW_pos (k : Nat) : 1 ≤ aW k := by cases k <;> simp [aW] <;> omega
end Go.Proofs.YtlpmjpmefdpcmaaGreatDoor
/- Cleaning, on events; what it keeps. No function of the program in it. -/
namespace Go.Proofs.YtlpmjpmefdpcmaaGreatDoor
open Go.RowKit Scrub Go.Shelf
def rawN {d : Nat} (p : Pol) (K : GF d → List Ev) (n : GN d) : List Ev :=
  if n.1 = [] then [evText n.2.2.2] else if p.1.contains n.1 then evOpen n.1 (n.2.1.filter (letsAP p)) :: (K n.2.2.1 ++ [none]) else if kindP n.1 = 2 then [] else K n.2.2.1
/-- What is left of a tree, texts not made one yet. -/
def rawF (p : Pol) : (d : Nat) → GF d → List Ev
  | 0, _ => []
  | d + 1, f => (gnodes d f).flatMap (rawN p (rawF p d))
theorem rawE_F (p : Pol) : ∀ (d : Nat) (f : GF d) (st : List Nat) (R : List Ev), rawE p st (evF d f ++ R) = (if st.headD 0 = 2 then [] else rawF p d f) ++ rawE p st R
  | 0, _, st, R => by
    show rawE p st R = (if st.headD 0 = 2 then [] else []) ++ rawE p st R
    split <;> rfl
  | d + 1, f, st, R => by
    have ih := rawE_F p d
    have e : evF (d + 1) f = (gnodes d f).flatMap (evN (evF d)) := rfl
    have e2 : rawF p (d + 1) f = (gnodes d f).flatMap (rawN p (rawF p d)) := rfl
    rw [e, e2]
    generalize gnodes d f = l
    induction l with
    | nil =>
      show rawE p st R = (if st.headD 0 = 2 then [] else []) ++ rawE p st R
      split <;> rfl
    | cons x y ihl =>
      rw [List.flatMap_cons, List.append_assoc, List.flatMap_cons]
      by_cases hx : x.1 = []
      · have hev : evN (evF d) x = [evText x.2.2.2] := by simp [evN, hx]
        have hrw : rawN p (rawF p d) x = [evText x.2.2.2] := by simp [rawN, hx]
        rw [hev, hrw]
        show (if st.headD 0 = 2 then rawE p st (y.flatMap (evN (evF d)) ++ R) else evText x.2.2.2 :: rawE p st (y.flatMap (evN (evF d)) ++ R)) = _
        rw [ihl]
        split <;> simp
      · have hev : evN (evF d) x ++ (y.flatMap (evN (evF d)) ++ R) = evOpen x.1 x.2.1 :: (evF d x.2.2.1 ++ none :: (y.flatMap (evN (evF d)) ++ R)) := by simp [evN, hx]
        rw [hev]
        show (if st.headD 0 = 2 then rawE p (2 :: st) (evF d x.2.2.1 ++ none :: (y.flatMap (evN (evF d)) ++ R))
          else if p.1.contains x.1 then evOpen x.1 (x.2.1.filter (letsAP p)) :: rawE p (0 :: st) (evF d x.2.2.1 ++ none :: (y.flatMap (evN (evF d)) ++ R))
          else if kindP x.1 = 2 then rawE p (2 :: st) (evF d x.2.2.1 ++ none :: (y.flatMap (evN (evF d)) ++ R)) else rawE p (1 :: st) (evF d x.2.2.1 ++ none :: (y.flatMap (evN (evF d)) ++ R))) = _
        have k2 : rawE p (2 :: st) (evF d x.2.2.1 ++ none :: (y.flatMap (evN (evF d)) ++ R)) = rawE p st (y.flatMap (evN (evF d)) ++ R) := by rw [ih]; rfl
        have k0 : rawE p (0 :: st) (evF d x.2.2.1 ++ none :: (y.flatMap (evN (evF d)) ++ R)) = rawF p d x.2.2.1 ++ none :: rawE p st (y.flatMap (evN (evF d)) ++ R) := by rw [ih]; rfl
        have k1 : rawE p (1 :: st) (evF d x.2.2.1 ++ none :: (y.flatMap (evN (evF d)) ++ R)) = rawF p d x.2.2.1 ++ rawE p st (y.flatMap (evN (evF d)) ++ R) := by rw [ih]; rfl
        have hN : rawN p (rawF p d) x = if p.1.contains x.1 then evOpen x.1 (x.2.1.filter (letsAP p)) :: (rawF p d x.2.2.1 ++ [none]) else if kindP x.1 = 2 then [] else rawF p d x.2.2.1 := by rw [rawN, if_neg hx]
        rw [k0, k1, k2, ihl, hN]
        generalize y.flatMap (rawN p (rawF p d)) = Y
        generalize rawE p st R = Z
        generalize rawF p d x.2.2.1 = K
        by_cases h2 : st.headD 0 = 2
        · simp only [if_pos h2]
        · simp only [if_neg h2]
          split
          · simp
          · split <;> simp
theorem rawE_tree (p : Pol) (d : Nat) (f : GF d) : rawE p [] (evF d f) = rawF p d f := by
  have := rawE_F p d f [] []
  simpa [rawE] using this
theorem filtE_tree (p : Pol) (d : Nat) (f : GF d) : filtE p (evF d f) = mergeE (rawF p d f) := by rw [filtE, rawE_tree]
theorem SameF.ev : ∀ {d1 d2 : Nat} {f : GF d1} {g : GF d2}, SameF d1 d2 f g → evF d1 f = evF d2 g
  | 0, d2, f, g, h => (evF_nil (d := d2) h).symm
  | d1 + 1, 0, f, g, h => evF_nil (d := d1 + 1) h
  | d1 + 1, d2 + 1, f, g, h => by
    have ih : ∀ {f : GF d1} {g : GF d2}, SameF d1 d2 f g → evF d1 f = evF d2 g := SameF.ev
    have h' : SameL d1 d2 (SameF d1 d2) (gnodes d1 f) (gnodes d2 g) := h
    show (gnodes d1 f).flatMap (evN (evF d1)) = (gnodes d2 g).flatMap (evN (evF d2))
    generalize gnodes d1 f = l at h'
    generalize gnodes d2 g = m at h'
    induction l generalizing m with
    | nil =>
      cases m with
      | nil => rfl
      | cons y m => exact h'.elim
    | cons x l ihl =>
      cases m with
      | nil => exact h'.elim
      | cons y m =>
        obtain ⟨⟨h1, h2, h3, h4⟩, h5⟩ := h'
        rw [List.flatMap_cons, List.flatMap_cons, ihl m h5]
        congr 1
        unfold evN
        rw [h1, h2, h3, ih h4]
/-- A tree whose events may be written is written so. -/
theorem fit_write {d : Nat} {f : GF d} (hn : niceF d f) (hf : fitEv [] (evF d f)) : writeF d f = wEv [] (evF d f) ∧ checkF d f = 0 := by
  obtain ⟨t1, t2, _, t4⟩ := tree_ev d f [] [] hn (by simp) (by decide) (by rw [List.append_nil]; exact fit_ok hf)
  rw [List.append_nil] at t4
  refine ⟨?_, ?_⟩
  · rw [t4]
    show _ = _ ++ []
    simp
  · rw [checkF, if_neg (by simp at t2; omega), t1]
    rfl
/-- The same events? -/
def sameEv (a b : List Ev) : Bool := @decide (a = b) (@instDecidableEqList _ (fun x y => inferInstanceAs (Decidable (x = y))) a b)
theorem sameEv_iff (a b : List Ev) : sameEv a b = true ↔ a = b := by
  unfold sameEv
  exact ⟨fun h => @of_decide_eq_true _ (_) h, fun h => @decide_eq_true _ (_) h⟩
/-- The rounds. -/
def roundsP (p : Pol) : Nat → List Ev → List UInt8
  | 0, _ => []
  | k + 1, l => if sameEv (readP (wEv [] (filtE p l))) (filtE p l) = true then wEv [] (filtE p l) else roundsP p k (readP (wEv [] (filtE p l)))
def cleanP (p : Pol) (s : List UInt8) : List UInt8 := roundsP p 8 (readP s)
theorem readP_nil : readP [] = [] := by
  unfold readP
  rw [readFrom_none nextP_nil]
  rfl
theorem rounds_or (p : Pol) : ∀ (k : Nat) (l : List Ev), fitEv [] l → roundsP p k l = [] ∨ ∃ l0, fitEv [] l0 ∧ roundsP p k l = wEv [] (filtE p l0) ∧ readP (wEv [] (filtE p l0)) = filtE p l0
  | 0, _, _ => .inl rfl
  | k + 1, l, hl => by
    unfold roundsP
    split
    · rename_i h
      exact .inr ⟨l, hl, rfl, (sameEv_iff _ _).1 h⟩
    · exact rounds_or p k _ (read_fit _).1
/-- What Clean answers: nothing, or what is read as it was left. -/
theorem clean_or (p : Pol) (s : List UInt8) : cleanP p s = [] ∨ ∃ l0, fitEv [] l0 ∧ cleanP p s = wEv [] (filtE p l0) ∧ readP (cleanP p s) = filtE p l0 := by
  rcases rounds_or p 8 (readP s) (read_fit s).1 with h | ⟨l0, h1, h2, h3⟩
  · exact .inl h
  · refine .inr ⟨l0, h1, h2, ?_⟩
    have e : cleanP p s = wEv [] (filtE p l0) := h2
    rw [e, h3]
theorem rounds_fix (p : Pol) (k : Nat) {l : List Ev} (h1 : filtE p l = l) (h2 : readP (wEv [] l) = l) : roundsP p (k + 1) l = wEv [] l := by
  unfold roundsP
  rw [h1, if_pos ((sameEv_iff _ _).2 h2)]
/-- What is clean stays clean. -/
theorem clean_stays (p : Pol) (s : List UInt8) : cleanP p (cleanP p s) = cleanP p s := by
  rcases clean_or p s with h | ⟨l0, _, h2, h3⟩
  · rw [h, cleanP, readP_nil]
    exact rounds_fix p 7 rfl readP_nil
  · conv => lhs; rw [cleanP, h3]
    have h4 : readP (wEv [] (filtE p l0)) = filtE p l0 := by rw [← h2]; exact h3
    rw [rounds_fix p 7 (filt_filt p l0) h4, h2]
/-- What is read in it is the policy's, and written it is the same. -/
theorem clean_in (p : Pol) (s : List UInt8) : allIn p (readP (cleanP p s)) ∧ wEv [] (readP (cleanP p s)) = cleanP p s := by
  rcases clean_or p s with h | ⟨l0, _, h2, h3⟩
  · rw [h, readP_nil]
    exact ⟨trivial, rfl⟩
  · rw [h3]
    exact ⟨filt_in p l0, h2.symm⟩
/-- What is read, written and read again. -/
theorem read_back (s : List UInt8) : readP (wEv [] (readP s)) = readP s := by
  obtain ⟨I, h1, h2, h3, h4⟩ := again_read s
  obtain ⟨_, i2⟩ := items_ev I ([], []) h1 h2
  have i2' : wEv [] (I.flatMap itemEv) = writeI I := i2
  rw [h3, i2', h4, h3]
/-- What is right, and let by, is left as it is. -/
theorem clean_kept (p : Pol) (s : List UInt8) (h : allIn p (readP s)) : cleanP p s = wEv [] (readP s) := rounds_fix p 7 (filt_allIn h (read_fit s).2) (read_back s)
/-- Texts alone. -/
def allText : List Ev → Prop
  | [] => True
  | some (.inl _) :: r => allText r
  | _ :: _ => False
theorem allText_append : ∀ {a b : List Ev}, allText a → allText b → allText (a ++ b)
  | [], _, _, h => h
  | some (.inl _t) :: r, _b, h1, h2 => allText_append (a := r) h1 h2
  | some (.inr _x) :: _r, _, h1, _ => h1.elim
  | none :: _r, _, h1, _ => h1.elim
theorem rawF_none : ∀ (d : Nat) (f : GF d), allText (rawF ([], []) d f)
  | 0, _ => trivial
  | d + 1, f => by
    have ih := rawF_none d
    show allText ((gnodes d f).flatMap (rawN ([], []) (rawF ([], []) d)))
    generalize gnodes d f = l
    induction l with
    | nil => trivial
    | cons x y ihl =>
      rw [List.flatMap_cons]
      refine allText_append ?_ ihl
      unfold rawN
      split
      · trivial
      · rw [if_neg (by simp)]
        split
        · trivial
        · exact ih _
theorem merge_text : ∀ {l : List Ev}, allText l → mergeE l = [] ∨ ∃ t, mergeE l = [evText t]
  | [], _ => .inl rfl
  | some (.inl t) :: r, h => by
    right
    show ∃ u, glueT t (mergeE r) = [evText u]
    rcases merge_text (l := r) h with e | ⟨u, e⟩
    · exact ⟨t, by rw [e]; rfl⟩
    · exact ⟨t ++ u, by rw [e]; rfl⟩
  | some (.inr x) :: r, h => h.elim
  | none :: r, h => h.elim
end Go.Proofs.YtlpmjpmefdpcmaaGreatDoor
