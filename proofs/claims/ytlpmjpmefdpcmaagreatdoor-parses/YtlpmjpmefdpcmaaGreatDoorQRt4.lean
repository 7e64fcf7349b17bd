import Derived.Test.YtlpmjpmefdpcmaaGreatDoorQLies
/- What is written is read: signs, names, ends. No program in it. -/
namespace Scrub
open Go
theorem sign1_amp' (r : List UInt8) : sign1 (38 :: 97 :: 109 :: 112 :: 59 :: r) = (38, 5) := by simp [sign1, List.isPrefixOf]
theorem sign1_lt' (r : List UInt8) : sign1 (38 :: 108 :: 116 :: 59 :: r) = (60, 4) := by simp [sign1, List.isPrefixOf]
theorem sign1_gt' (r : List UInt8) : sign1 (38 :: 103 :: 116 :: 59 :: r) = (62, 4) := by simp [sign1, List.isPrefixOf]
theorem sign1_quot' (r : List UInt8) : sign1 (38 :: 113 :: 117 :: 111 :: 116 :: 59 :: r) = (34, 6) := by simp [sign1, List.isPrefixOf]
theorem sign1_other (c : UInt8) (r : List UInt8) (h : c ≠ 38) : sign1 (c :: r) = (c, 1) := by
  have hb : ((38 : UInt8) == c) = false := by simpa using fun e => h e.symm
  simp [sign1, List.isPrefixOf, hb]
theorem signs_step (p r : List UInt8) (c : UInt8) (hp : p ≠ []) (h : sign1 (p ++ r) = (c, p.length)) : signs (p ++ r) = c :: signs r := by
  have hne : p ++ r ≠ [] := by simp [hp]
  rw [signs_cons (p ++ r) hne, h]
  simp
theorem signs_esc (these : List UInt8) (h38 : these.contains 38 = true) (hs : ∀ c ∈ these, c = 38 ∨ c = 60 ∨ c = 62 ∨ c = 34) : ∀ s : List UInt8, signs (escP these s) = s
  | [] => rfl
  | c :: t => by
    have ih := signs_esc these h38 hs t
    have e : escP these (c :: t) = (if these.contains c then signOfP c else [c]) ++ escP these t := by simp [escP]
    rw [e]
    by_cases hc : these.contains c = true
    · rw [if_pos hc]
      have hm : c ∈ these := by simpa using hc
      rcases hs c hm with rfl | rfl | rfl | rfl
      · show signs ([38, 97, 109, 112, 59] ++ escP these t) = _
        rw [signs_step _ _ 38 (by simp) (sign1_amp' _), ih]
      · show signs ([38, 108, 116, 59] ++ escP these t) = _
        rw [signs_step _ _ 60 (by simp) (sign1_lt' _), ih]
      · show signs ([38, 103, 116, 59] ++ escP these t) = _
        rw [signs_step _ _ 62 (by simp) (sign1_gt' _), ih]
      · show signs ([38, 113, 117, 111, 116, 59] ++ escP these t) = _
        rw [signs_step _ _ 34 (by simp) (sign1_quot' _), ih]
    · rw [if_neg hc]
      have hne : c ≠ 38 := fun e => hc (by rw [e]; exact h38)
      rw [signs_step [c] _ c (by simp) (sign1_other c _ hne), ih]
theorem signs_text (s : List UInt8) : signs (escP [38, 60, 62] s) = s := signs_esc _ rfl (by intro c hc; simp at hc; rcases hc with h | h | h <;> simp [h]) s
theorem signs_value (s : List UInt8) : signs (escP [38, 60, 34] s) = s := signs_esc _ rfl (by intro c hc; simp at hc; rcases hc with h | h | h <;> simp [h]) s
theorem esc_no (these : List UInt8) (x : UInt8) (hx : these.contains x = true) (hx2 : ∀ c : UInt8, x ∉ signOfP c ∨ these.contains c = false) : ∀ s : List UInt8, x ∉ escP these s
  | [] => by simp [escP]
  | c :: t => by
    have ih := esc_no these x hx hx2 t
    have e : escP these (c :: t) = (if these.contains c then signOfP c else [c]) ++ escP these t := by simp [escP]
    rw [e]
    intro hm
    rcases List.mem_append.1 hm with hm | hm
    · split at hm
      · rename_i hc
        rcases hx2 c with h | h
        · exact h hm
        · rw [hc] at h; cases h
      · rename_i hc
        simp at hm
        subst hm
        exact hc hx
    · exact ih hm
theorem signOfP_no60 (c : UInt8) (h : [38, 60, 62].contains c = true) : (60 : UInt8) ∉ signOfP c := by
  simp at h
  rcases h with rfl | rfl | rfl <;> decide
theorem signOfP_no34 (c : UInt8) (h : [38, 60, 34].contains c = true) : (34 : UInt8) ∉ signOfP c := by
  simp at h
  rcases h with rfl | rfl | rfl <;> decide
theorem esc_no60 (s : List UInt8) : (60 : UInt8) ∉ escP [38, 60, 62] s := esc_no _ 60 rfl (fun c => by
  cases hc : [38, 60, 62].contains c with
  | true => exact .inl (signOfP_no60 c hc)
  | false => exact .inr rfl) s
theorem esc_no34 (s : List UInt8) : (34 : UInt8) ∉ escP [38, 60, 34] s := esc_no _ 34 rfl (fun c => by
  cases hc : [38, 60, 34].contains c with
  | true => exact .inl (signOfP_no34 c hc)
  | false => exact .inr rfl) s
theorem esc_ne (these : List UInt8) {s : List UInt8} (h : s ≠ []) : escP these s ≠ [] := by
  cases s with
  | nil => exact absurd rfl h
  | cons c t =>
    have e : escP these (c :: t) = (if these.contains c then signOfP c else [c]) ++ escP these t := by simp [escP]
    rw [e]
    intro hc
    have := (List.append_eq_nil_iff.1 hc).1
    split at this
    · unfold signOfP at this
      repeat' split at this
      all_goals simp at this
    · simp at this
theorem begins_not60 {c : UInt8} {t : List UInt8} (h : c ≠ 60) : beginsP (c :: t) = 0 := by
  unfold beginsP
  rw [if_pos]
  intro e
  exact h (UInt8.toNat_inj.1 (by simpa using e))
/-- The bytes run up to where something begins. -/
theorem textP_run : ∀ (p r : List UInt8), (60 : UInt8) ∉ p → (r = [] ∨ beginsP r ≠ 0) → textP (p ++ r) = (p, r)
  | [], r, _, h => by
    show runP _ r = _
    rcases h with rfl | h
    · rfl
    · cases r with
      | nil => rfl
      | cons c t => simp [runP, h]
  | c :: p, r, hn, h => by
    have hc : c ≠ 60 := fun e => hn (by simp [e])
    have ih := textP_run p r (fun hm => hn (by simp [hm])) h
    show runP _ (c :: (p ++ r)) = _
    unfold textP at ih
    simp [runP, begins_not60 hc, ih]
theorem begins_start (c : UInt8) (r : List UInt8) (h : letB c = true) : beginsP (60 :: c :: r) = 1 := by
  unfold beginsP
  rw [if_neg (by simp), if_neg, if_pos ⟨by simp, by simpa using h⟩]
  intro hp
  have : c = 33 := by
    simp [List.isPrefixOf] at hp
    exact hp.1.symm
  subst this
  simp [letB] at h
theorem begins_end (c : UInt8) (r : List UInt8) (h : letB c = true) : beginsP (60 :: 47 :: c :: r) = 2 := by
  unfold beginsP
  rw [if_neg (by simp), if_neg (by simp [List.isPrefixOf]), if_neg (by simp [letB]), if_pos ⟨by simp, by simp, by simpa using h⟩]
theorem takeWhile_run (p : UInt8 → Bool) (l r : List UInt8) (h : l.all p = true) (hr : r = [] ∨ p (r.headD 0) = false) : (l ++ r).takeWhile p = l ∧ (l ++ r).dropWhile p = r := by
  induction l with
  | nil =>
    rcases hr with rfl | hr
    · simp
    · cases r with
      | nil => simp
      | cons c t => simp at hr; simp [hr]
  | cons a t ih =>
    rw [List.all_cons, Bool.and_eq_true] at h
    obtain ⟨h1, h2⟩ := ih h.2
    simp [h.1, h1, h2]
theorem index_run (r : List UInt8) (x : UInt8) : ∀ p : List UInt8, x ∉ p → Lib.index (p ++ x :: r) [x] = (p.length : Int)
  | [], _ => by
    show Lib.index (x :: r) [x] = 0
    unfold Lib.index
    simp [List.isPrefixOf]
  | c :: p, h => by
    have ih := index_run r x p (fun hm => h (by simp [hm]))
    have hc : (x == c) = false := by simpa using fun e => h (by simp [e])
    show Lib.index (c :: (p ++ x :: r)) [x] = _
    unfold Lib.index
    rw [ih]
    have h1 : List.isPrefixOf [x] (c :: (p ++ x :: r)) = false := by simp [List.isPrefixOf, hc]
    rw [h1]
    have h2 : ((p.length : Int) == -1) = false := by rw [beq_eq_false_iff_ne]; omega
    rw [h2]
    simp
theorem cut_run (p r : List UInt8) (x : UInt8) (h : x ∉ p) : Lib.cut (p ++ x :: r) [x] = (p, r, true) := by
  unfold Lib.cut
  rw [index_run r x p h, if_pos (by omega)]
  simp
end Scrub
/- What is written is read: attributes, starts, ends. No program in it. -/
namespace Scrub
open Go
theorem isAttrName_cons {an : List UInt8} (h : isAttrNameP an = true) : ∃ c t, an = c :: t ∧ endsRawB c = false ∧ small (c :: t) = c :: t ∧ t.all (fun c => !endsAttrB c) = true := by
  cases an with
  | nil => simp [isAttrNameP] at h
  | cons c t =>
    simp only [isAttrNameP, Bool.and_eq_true, List.headD_cons, List.drop_one, List.tail_cons] at h
    exact ⟨c, t, rfl, by simpa using h.1.1.2, by simpa using h.1.2, h.2⟩
theorem isName_cons {n : List UInt8} (h : isNameP n = true) : ∃ c t, n = c :: t ∧ letB c = true ∧ small n = n ∧ n.all nameB = true := by
  cases n with
  | nil => simp [isNameP] at h
  | cons c t =>
    simp only [isNameP, Bool.and_eq_true, List.headD_cons] at h
    exact ⟨c, t, rfl, h.1.1.2, by simpa using h.1.2, h.2⟩
theorem attrName_written (c : UInt8) (t r : List UInt8) (hs : small (c :: t) = c :: t) (ht : t.all (fun c => !endsAttrB c) = true) : attrNameP (c :: (t ++ 61 :: r)) = (c :: t, 61 :: r) := by
  unfold attrNameP
  obtain ⟨h1, h2⟩ := takeWhile_run (fun c => !endsAttrB c) t (61 :: r) ht (.inr (by simp [endsAttrB]))
  simp only [List.take_succ_cons, List.take_zero, List.drop_succ_cons, List.drop_zero]
  rw [h1, h2]
  simp [hs]
theorem value_written (v r : List UInt8) : valueP (34 :: (escP [38, 60, 34] v ++ 34 :: r)) = (v, true, r) := by
  have hd : (34 :: (escP [38, 60, 34] v ++ 34 :: r) : List UInt8).dropWhile blankB = 34 :: (escP [38, 60, 34] v ++ 34 :: r) := by simp [blankB]
  rw [valueP_quoted hd (.inl (by simp [List.isPrefixOf]))]
  have e : Lib.cut (List.drop 1 (34 :: (escP [38, 60, 34] v ++ 34 :: r))) (List.take 1 (34 :: (escP [38, 60, 34] v ++ 34 :: r))) = (escP [38, 60, 34] v, r, true) := cut_run _ _ 34 (esc_no34 v)
  rw [e]
  simp [signs_value]
theorem withP_fresh (acc : List (List UInt8 × List UInt8)) (a : List UInt8 × List UInt8) (h : a.1 ∉ acc.map Prod.fst) : withP acc a = acc ++ [a] := by
  unfold withP
  rw [if_neg]
  intro hc
  rw [List.any_eq_true] at hc
  obtain ⟨x, hx, he⟩ := hc
  exact h (by simp at he; rw [← he]; exact List.mem_map_of_mem hx)
theorem attrs_written : ∀ (al acc : List (List UInt8 × List UInt8)) (R : List UInt8), al.all (fun a => isAttrNameP a.1) = true → (acc.map Prod.fst ++ al.map Prod.fst).Nodup → attrsP (al.flatMap attrW ++ 62 :: R) acc = some (acc ++ al, R)
  | [], acc, R, _, _ => by
    have e : (62 :: R : List UInt8).dropWhile blankSlashB = 62 :: R := by simp [blankSlashB, blankB]
    show attrsP (62 :: R) acc = _
    rw [attrsP_close e (by simp) (by simp)]
    simp
  | a :: t, acc, R, h, hn => by
    rw [List.all_cons, Bool.and_eq_true] at h
    obtain ⟨c, u, hc, h1, h2, h3⟩ := isAttrName_cons h.1
    have hr : (a :: t).flatMap attrW ++ 62 :: R = 32 :: (c :: (u ++ 61 :: (34 :: (escP [38, 60, 34] a.2 ++ 34 :: (t.flatMap attrW ++ 62 :: R))))) := by simp [attrW, hc]
    rw [hr]
    have hcb : blankSlashB c = false ∧ c.toNat ≠ 62 := by
      unfold endsRawB at h1
      simp at h1
      exact h1
    have e1 : (32 :: (c :: (u ++ 61 :: (34 :: (escP [38, 60, 34] a.2 ++ 34 :: (t.flatMap attrW ++ 62 :: R))))) : List UInt8).dropWhile blankSlashB = c :: (u ++ 61 :: (34 :: (escP [38, 60, 34] a.2 ++ 34 :: (t.flatMap attrW ++ 62 :: R)))) := by
      rw [List.dropWhile_cons_of_pos (by simp [blankSlashB, blankB]), List.dropWhile_cons_of_neg (by simp [hcb.1])]
    have hnm := attrName_written c u (34 :: (escP [38, 60, 34] a.2 ++ 34 :: (t.flatMap attrW ++ 62 :: R))) h2 h3
    have e3 : (attrNameP (c :: (u ++ 61 :: (34 :: (escP [38, 60, 34] a.2 ++ 34 :: (t.flatMap attrW ++ 62 :: R)))))).2.dropWhile blankB = 61 :: (34 :: (escP [38, 60, 34] a.2 ++ 34 :: (t.flatMap attrW ++ 62 :: R))) := by
      rw [hnm]
      simp [blankB]
    have hv := value_written a.2 (t.flatMap attrW ++ 62 :: R)
    rw [attrsP_value e1 (by simp) (by simpa using hcb.2) e3 (by simp [List.isPrefixOf]) (by rw [List.drop_succ_cons, List.drop_zero, hv]), hnm, List.drop_succ_cons, List.drop_zero, hv]
    simp only
    have hfr : a.1 ∉ acc.map Prod.fst := by
      intro hm
      rw [List.nodup_append] at hn
      exact hn.2.2 a.1 hm a.1 (by simp) rfl
    rw [← hc, withP_fresh acc (a.1, a.2) hfr]
    have ih := attrs_written t (acc ++ [a]) R h.2 (by simpa using hn)
    rw [ih]
    simp
theorem name_end (R : List UInt8) (al : List (List UInt8 × List UInt8)) : (al.flatMap attrW ++ 62 :: R) = [] ∨ nameB ((al.flatMap attrW ++ 62 :: R).headD 0) = false := by
  right
  cases al with
  | nil => simp [nameB, letB]
  | cons a t => simp [attrW, nameB, letB]
/-- A start that was written, with what follows it. -/
theorem start_written (n : List UInt8) (al : List (List UInt8 × List UInt8)) (R : List UInt8) (hn : isNameP n = true) (ha : attrsOkP al = true) :
    startP (startW n al ++ R) = if kindP n = 2 then some (n, al, (rawP n R).1, (rawP n R).2) else some (n, al, [], R) := by
  obtain ⟨c, t, rfl, h1, h2, h3⟩ := isName_cons hn
  have hr : startW (c :: t) al ++ R = 60 :: (c :: t ++ (al.flatMap attrW ++ 62 :: R)) := by simp [startW]
  rw [hr]
  obtain ⟨w1, w2⟩ := takeWhile_run nameB (c :: t) (al.flatMap attrW ++ 62 :: R) h3 (name_end R al)
  simp only [attrsOkP, Bool.and_eq_true, decide_eq_true_eq] at ha
  have haw := attrs_written al [] R ha.1 (by simpa using ha.2)
  unfold startP
  simp only [List.drop_succ_cons, List.drop_zero]
  rw [w2, w1, haw, h2]
  rfl
theorem next_start (n : List UInt8) (al : List (List UInt8 × List UInt8)) (R : List UInt8) (hn : isNameP n = true) (ha : attrsOkP al = true) :
    nextP (startW n al ++ R) = if kindP n = 2 then some ((1, n, al, (rawP n R).1), (rawP n R).2) else some ((1, n, al, []), R) := by
  have hs := start_written n al R hn ha
  obtain ⟨c, t, rfl, h1, h2, h3⟩ := isName_cons hn
  have hr : startW (c :: t) al ++ R = 60 :: c :: (t ++ (al.flatMap attrW ++ 62 :: R)) := by simp [startW]
  rw [hr] at hs ⊢
  rw [nextP_start (by simp) (begins_start c _ h1), hs]
  split
  · rename_i h
    split at h <;> cases h
  · rename_i nm al' tx rest h
    split at h
    · injection h with h
      simp only [Prod.mk.injEq] at h
      obtain ⟨rfl, rfl, rfl, rfl⟩ := h
      rename_i hk
      rw [if_pos hk]
    · injection h with h
      simp only [Prod.mk.injEq] at h
      obtain ⟨rfl, rfl, rfl, rfl⟩ := h
      rename_i hk
      rw [if_neg hk]
theorem next_end (n R : List UInt8) (hn : isNameP n = true) : nextP (endW n ++ R) = some ((2, n, [], []), R) := by
  obtain ⟨c, t, rfl, h1, h2, h3⟩ := isName_cons hn
  have hr : endW (c :: t) ++ R = 60 :: 47 :: c :: (t ++ 62 :: R) := by simp [endW]
  rw [hr, nextP_end (by simp) (begins_end c _ h1)]
  obtain ⟨w1, w2⟩ := takeWhile_run nameB (c :: t) (62 :: R) h3 (.inr (by simp [nameB, letB]))
  have he : endP (60 :: 47 :: c :: (t ++ 62 :: R)) = (true, c :: t, R) := by
    unfold endP
    show ((Lib.cut ((c :: t ++ 62 :: R).dropWhile nameB) [62]).2.2, small ((c :: t ++ 62 :: R).takeWhile nameB), (Lib.cut ((c :: t ++ 62 :: R).dropWhile nameB) [62]).2.1) = _
    rw [w1, w2, h2]
    have := cut_run [] R 62 (by simp)
    simp only [List.nil_append] at this
    rw [this]
  rw [he]
  rfl
theorem next_text (t R : List UInt8) (ht : t ≠ []) (hR : R = [] ∨ beginsP R ≠ 0) : nextP (escP [38, 60, 62] t ++ R) = some ((0, [], [], t), R) := by
  have hne := esc_ne [38, 60, 62] ht
  have h60 := esc_no60 t
  have hb : beginsP (escP [38, 60, 62] t ++ R) = 0 := by
    cases he : escP [38, 60, 62] t with
    | nil => exact absurd he hne
    | cons c u =>
      rw [he] at h60
      exact begins_not60 (fun e => h60 (by simp [e]))
  rw [nextP_text (by simp [hne]) hb, textP_run _ R h60 hR]
  simp [signs_text]
/-- A raw text ends at its own end, where nothing in it ends it. -/
theorem endsRaw_app (x y name : List UInt8) (hx : x ≠ []) (h : endsRawP x name = false) (hname : name.all nameB = true) : endsRawP (x ++ 60 :: y) name = false := by
  cases hc : endsRawP (x ++ 60 :: y) name with
  | false => rfl
  | true =>
    exfalso
    simp only [endsRawP, Bool.and_eq_true, decide_eq_true_eq] at hc
    obtain ⟨⟨⟨c1, c2⟩, c3⟩, c4⟩ := hc
    by_cases hl : name.length + 3 ≤ x.length
    · have hd : (x ++ 60 :: y).drop 2 = x.drop 2 ++ 60 :: y := List.drop_append_of_le_length (by omega)
      rw [hd] at c3 c4
      have hlt : name.length < (x.drop 2).length := by rw [List.length_drop]; omega
      rw [List.take_append_of_le_length (by omega)] at c3
      rw [List.getD_eq_getElem?_getD, List.getElem?_append_left hlt, ← List.getD_eq_getElem?_getD] at c4
      have c1' : List.isPrefixOf [60, 47] x = true := by
        match x, hl with
        | a :: b :: t, _ => simpa [List.isPrefixOf] using c1
        | [a], hl => simp at hl
        | [], hl => simp at hl
      rw [endsRawP, c1', decide_eq_true hlt, c3, c4] at h
      cases h
    · match x, hx, hl with
      | [a], _, _ =>
        simp [List.isPrefixOf] at c1
      | a :: b :: t, _, hl =>
        have hd : (a :: b :: t ++ 60 :: y).drop 2 = t ++ 60 :: y := rfl
        rw [hd] at c3 c4
        have htl : t.length ≤ name.length := by simp at hl; omega
        by_cases he : t.length = name.length
        · rw [← he, List.getD_eq_getElem?_getD, List.getElem?_append_right (by omega)] at c4
          simp [endsRawB, blankSlashB, blankB] at c4
        · have hlt : t.length < name.length := by omega
          have c3' : small ((t ++ 60 :: y).take name.length) = name := by simpa using c3
          have hg := congrArg (fun l => l[t.length]?) c3'
          simp only [small, List.getElem?_map, List.getElem?_take] at hg
          rw [if_pos hlt, List.getElem?_append_right (by omega)] at hg
          simp only [Nat.sub_self, List.getElem?_cons_zero, Option.map_some] at hg
          rw [List.getElem?_eq_getElem hlt] at hg
          injection hg with hg
          have := (List.all_eq_true.1 hname) _ (List.getElem_mem hlt)
          rw [← hg] at this
          revert this
          decide
theorem raw_written (name : List UInt8) (hname : isNameP name = true) (R : List UInt8) : ∀ tx : List UInt8, holdsEndP name tx = false → rawP name (tx ++ (endW name ++ R)) = (tx, endW name ++ R)
  | [], _ => by
    obtain ⟨c, t, rfl, h1, h2, h3⟩ := isName_cons hname
    show runP _ (60 :: 47 :: (c :: t ++ [62]) ++ R) = _
    have he : endsRawP (60 :: 47 :: (c :: t ++ [62]) ++ R) (c :: t) = true := by
      have hr : (60 :: 47 :: (c :: t ++ [62]) ++ R : List UInt8) = 60 :: 47 :: (c :: t ++ 62 :: R) := by simp
      rw [hr]
      unfold endsRawP
      simp only [List.drop_succ_cons, List.drop_zero, Bool.and_eq_true, decide_eq_true_eq]
      refine ⟨⟨⟨by simp [List.isPrefixOf], by simp⟩, ?_⟩, ?_⟩
      · rw [List.take_left' rfl, h2]
        simp
      · rw [List.getD_eq_getElem?_getD, List.getElem?_append_right (by simp)]
        simp [endsRawB]
    show runP _ (60 :: (47 :: (c :: t ++ [62]) ++ R)) = _
    unfold runP
    rw [if_pos (show endsRawP (60 :: (47 :: (c :: t ++ [62]) ++ R)) (c :: t) = true from he)]
    rfl
  | x :: tx, h => by
    simp only [holdsEndP, Bool.or_eq_false_iff] at h
    have ih := raw_written name hname R tx h.2
    have h1 : endsRawP (x :: tx ++ (endW name ++ R)) name = false := by
      obtain ⟨c, t, rfl, g1, g2, g3⟩ := isName_cons hname
      have hr : endW (c :: t) ++ R = 60 :: (47 :: (c :: t ++ [62]) ++ R) := by simp [endW]
      rw [hr]
      exact endsRaw_app (x :: tx) _ _ (by simp) h.1 g3
    show runP _ (x :: (tx ++ (endW name ++ R))) = _
    unfold runP
    have h1' : ¬ endsRawP (x :: (tx ++ (endW name ++ R))) name = true := by rw [show endsRawP (x :: (tx ++ (endW name ++ R))) name = false from h1]; simp
    rw [if_neg h1']
    unfold rawP at ih
    rw [ih]
end Scrub
/- What a token holds may be written. No program in it. -/
namespace Scrub
open Go
theorem mem_takeWhile' {p : UInt8 → Bool} {l : List UInt8} {x : UInt8} (h : x ∈ l.takeWhile p) : p x = true := by
  induction l with
  | nil => simp at h
  | cons a t ih =>
    rw [List.takeWhile_cons] at h
    split at h
    · rename_i ha
      rcases List.mem_cons.1 h with rfl | h
      · exact ha
      · exact ih h
    · simp at h
theorem dropWhile_head {p : UInt8 → Bool} {l : List UInt8} {c : UInt8} {t : List UInt8} (h : l.dropWhile p = c :: t) : p c = false := by
  induction l with
  | nil => simp at h
  | cons a u ih =>
    rw [List.dropWhile_cons] at h
    split at h
    · exact ih h
    · rename_i ha
      injection h with h1 _
      subst h1
      simpa using ha
theorem smallB_cases (c : UInt8) : (smallB c = c ∧ ¬ (65 ≤ c.toNat ∧ c.toNat ≤ 90)) ∨ ((smallB c).toNat = c.toNat + 32 ∧ 65 ≤ c.toNat ∧ c.toNat ≤ 90) := by
  by_cases h : 65 ≤ c.toNat ∧ c.toNat ≤ 90
  · right
    have := smallB_in c h.1 h.2
    omega
  · exact .inl ⟨smallB_out c h, h⟩
theorem smallB_idem (c : UInt8) : smallB (smallB c) = smallB c := by
  rcases smallB_cases c with ⟨h, _⟩ | ⟨h, h1, h2⟩
  · rw [h]; exact h
  · exact smallB_out _ (by omega)
theorem small_idem (l : List UInt8) : small (small l) = small l := by
  unfold small
  rw [List.map_map]
  congr 1
  funext c
  exact smallB_idem c
theorem letB_small {c : UInt8} (h : letB c = true) : letB (smallB c) = true := by
  rcases smallB_cases c with ⟨e, _⟩ | ⟨e, h1, h2⟩
  · rw [e]; exact h
  · unfold letB
    rw [e]
    simp
    omega
theorem nameB_small {c : UInt8} (h : nameB c = true) : nameB (smallB c) = true := by
  rcases smallB_cases c with ⟨e, _⟩ | ⟨e, h1, h2⟩
  · rw [e]; exact h
  · unfold nameB letB
    rw [e]
    simp
    omega
theorem endsRawB_small {c : UInt8} (h : endsRawB c = false) : endsRawB (smallB c) = false := by
  rcases smallB_cases c with ⟨e, _⟩ | ⟨e, h1, h2⟩
  · rw [e]; exact h
  · unfold endsRawB blankSlashB blankB
    rw [e]
    simp
    omega
theorem endsAttrB_small {c : UInt8} (h : endsAttrB c = false) : endsAttrB (smallB c) = false := by
  rcases smallB_cases c with ⟨e, _⟩ | ⟨e, h1, h2⟩
  · rw [e]; exact h
  · unfold endsAttrB blankSlashB blankB
    rw [e]
    simp
    omega
theorem isName_read (d : UInt8) (t : List UInt8) (hd : letB d = true) : isNameP (small ((d :: t).takeWhile nameB)) = true := by
  have hn : (d :: t).takeWhile nameB = d :: t.takeWhile nameB := by simp [nameB_of_let hd]
  rw [hn]
  unfold isNameP
  simp only [Bool.and_eq_true]
  refine ⟨⟨⟨by simp [small], ?_⟩, by simp [small_idem]⟩, ?_⟩
  · simpa [small] using letB_small hd
  · rw [List.all_eq_true]
    intro x hx
    simp only [small, List.mem_map, List.mem_cons] at hx
    obtain ⟨y, hy, rfl⟩ := hx
    rcases hy with rfl | hy
    · exact nameB_small (nameB_of_let hd)
    · exact nameB_small (mem_takeWhile' hy)
theorem isAttr_read (c : UInt8) (t : List UInt8) (h1 : blankSlashB c = false) (h2 : c.toNat ≠ 62) : isAttrNameP (attrNameP (c :: t)).1 = true := by
  show isAttrNameP (small ([c] ++ t.takeWhile (fun c => !endsAttrB c))) = true
  unfold isAttrNameP
  simp only [Bool.and_eq_true]
  refine ⟨⟨⟨by simp [small], ?_⟩, by simp [small_idem]⟩, ?_⟩
  · have : endsRawB c = false := by unfold endsRawB; simp [h1, h2]
    have := endsRawB_small this
    simpa [small] using this
  · rw [List.all_eq_true]
    intro x hx
    have hx' : x ∈ small (t.takeWhile (fun c => !endsAttrB c)) := by simpa [small] using hx
    simp only [small, List.mem_map] at hx'
    obtain ⟨y, hy, rfl⟩ := hx'
    have := mem_takeWhile' hy
    have := endsAttrB_small (c := y) (by simpa using this)
    simp [this]
theorem attrsOk_with {acc : List (List UInt8 × List UInt8)} {a : List UInt8 × List UInt8} (h : attrsOkP acc = true) (ha : isAttrNameP a.1 = true) : attrsOkP (withP acc a) = true := by
  unfold withP
  split
  · exact h
  · rename_i hn
    simp only [attrsOkP, Bool.and_eq_true, decide_eq_true_eq] at h ⊢
    refine ⟨by simp [List.all_append, h.1, ha], ?_⟩
    rw [List.map_append, List.nodup_append]
    refine ⟨h.2, by simp, fun x hx y hy e => hn ?_⟩
    simp at hy
    subst hy
    subst e
    obtain ⟨z, hz, hze⟩ := List.mem_map.1 hx
    rw [List.any_eq_true]
    exact ⟨z, hz, by simp [hze]⟩
theorem attrsF_ok : ∀ (f : Nat) (r : List UInt8) (al al' : List (List UInt8 × List UInt8)) (r' : List UInt8), attrsF f r al = some (al', r') → attrsOkP al = true → attrsOkP al' = true
  | 0, _, _, _, _, h, _ => by simp [attrsF] at h
  | f + 1, r, al, al', r', h, hal => by
    unfold attrsF at h
    split at h
    · cases h
    · rename_i he
      split at h
      · injection h with h
        injection h with h _
        rw [← h]
        exact hal
      · rename_i h62
        have hnm : isAttrNameP (attrNameP (r.dropWhile blankSlashB)).1 = true := by
          cases hd : r.dropWhile blankSlashB with
          | nil => rw [hd] at he; simp at he
          | cons c t =>
            rw [hd] at h62
            exact isAttr_read c t (dropWhile_head hd) (by simpa using h62)
        split at h
        · split at h
          · exact attrsF_ok f _ _ _ _ h (attrsOk_with hal hnm)
          · cases h
        · exact attrsF_ok f _ _ _ _ h (attrsOk_with hal hnm)
theorem raw_no_end (name : List UInt8) : ∀ r : List UInt8, holdsEndP name (rawP name r).1 = false
  | [] => rfl
  | c :: t => by
    have ih := raw_no_end name t
    unfold rawP at ih ⊢
    unfold runP
    split
    · rfl
    · rename_i hn
      have hn' : endsRawP (c :: t) name = false := by simpa using hn
      simp only [holdsEndP, ih, Bool.or_false]
      -- were the end in the text alone, it would be in the markup
      cases hc : endsRawP (c :: (runP (fun x => endsRawP x name) t).1) name with
      | false => rfl
      | true =>
        exfalso
        have hsp := runP_split (fun x => endsRawP x name) t
        have : endsRawP (c :: t) name = true := by
          rw [← hsp]
          generalize (runP (fun x => endsRawP x name) t).1 = u at hc
          generalize (runP (fun x => endsRawP x name) t).2 = v
          have he : (c :: (u ++ v)) = (c :: u) ++ v := rfl
          rw [he]
          generalize c :: u = x at hc
          simp only [endsRawP, Bool.and_eq_true, decide_eq_true_eq] at hc ⊢
          obtain ⟨⟨⟨c1, c2⟩, c3⟩, c4⟩ := hc
          have hl : name.length + 2 < x.length := by rw [List.length_drop] at c2; omega
          have hd : (x ++ v).drop 2 = x.drop 2 ++ v := List.drop_append_of_le_length (by omega)
          rw [hd]
          refine ⟨⟨⟨?_, by rw [List.length_append]; omega⟩, ?_⟩, ?_⟩
          · match x, hl with
            | a :: b :: y, _ => simpa [List.isPrefixOf] using c1
            | [a], hl => simp at hl
            | [], hl => simp at hl
          · rw [List.take_append_of_le_length (by omega)]
            exact c3
          · rw [List.getD_eq_getElem?_getD, List.getElem?_append_left c2, ← List.getD_eq_getElem?_getD]
            exact c4
        rw [this] at hn'
        cases hn'
/-- Behind a raw text stands its end, or nothing. -/
theorem raw_rest (name : List UInt8) : ∀ r : List UInt8, (rawP name r).2 = [] ∨ endsRawP (rawP name r).2 name = true
  | [] => .inl rfl
  | c :: t => by
    have ih := raw_rest name t
    unfold rawP at ih ⊢
    unfold runP
    split
    · rename_i h; exact .inr h
    · exact ih
theorem let_of_small {d : UInt8} (h : letB (smallB d) = true) : letB d = true := by
  rcases smallB_cases d with ⟨e, _⟩ | ⟨e, h1, h2⟩
  · rw [e] at h; exact h
  · unfold letB
    simp
    omega
theorem name_of_small {d : UInt8} (h : nameB (smallB d) = true) : nameB d = true := by
  rcases smallB_cases d with ⟨e, _⟩ | ⟨e, h1, h2⟩
  · rw [e] at h; exact h
  · unfold nameB letB
    simp
    omega
theorem ends_next {name r : List UInt8} (hn : isNameP name = true) (h : endsRawP r name = true) : nextP r = none ∨ ∃ rest, nextP r = some ((2, name, [], []), rest) := by
  obtain ⟨c, t, hct, g1, g2, g3⟩ := isName_cons hn
  simp only [endsRawP, Bool.and_eq_true, decide_eq_true_eq] at h
  obtain ⟨⟨⟨c1, c2⟩, c3⟩, c4⟩ := h
  obtain ⟨u, rfl⟩ : ∃ u, r = 60 :: 47 :: u := by
    match r, c1 with
    | a :: b :: u, c1 =>
      simp [List.isPrefixOf] at c1
      exact ⟨u, by rw [← c1.1, ← c1.2]⟩
    | [a], c1 => simp [List.isPrefixOf] at c1
    | [], c1 => simp [List.isPrefixOf] at c1
  simp only [List.drop_succ_cons, List.drop_zero] at c2 c3 c4
  have c3' : small (u.take name.length) = name := by simpa using c3
  -- u = v ++ e :: w
  have hu : u = u.take name.length ++ u[name.length] :: u.drop (name.length + 1) := by
    rw [← List.drop_eq_getElem_cons c2, List.take_append_drop]
  have he : endsRawB u[name.length] = true := by
    rw [List.getD_eq_getElem?_getD, List.getElem?_eq_getElem c2] at c4
    simpa using c4
  generalize u[name.length] = e at hu he
  generalize u.drop (name.length + 1) = w at hu
  generalize u.take name.length = v at hu c3'
  subst hu
  have hvn : v.all nameB = true := by
    rw [List.all_eq_true]
    intro x hx
    refine name_of_small ?_
    have : smallB x ∈ name := by rw [← c3']; exact List.mem_map_of_mem hx
    exact (List.all_eq_true.1 g3) _ this
  have hen : nameB e = false := by
    unfold endsRawB blankSlashB blankB at he
    unfold nameB letB
    simp at he ⊢
    omega
  obtain ⟨w1, w2⟩ := takeWhile_run nameB v (e :: w) hvn (.inr (by simpa using hen))
  have hv0 : ∃ d v', v = d :: v' ∧ letB d = true := by
    cases v with
    | nil => rw [← c3'] at hct; simp [small] at hct
    | cons d v' =>
      refine ⟨d, v', rfl, let_of_small ?_⟩
      rw [← c3'] at hct
      simp only [small, List.map_cons] at hct
      injection hct with h1 _
      rw [h1]
      exact g1
  obtain ⟨d, v', rfl, hd⟩ := hv0
  have hb : beginsP (60 :: 47 :: (d :: v' ++ e :: w)) = 2 := begins_end d _ hd
  rw [nextP_end (by simp) hb]
  have hep : (endP (60 :: 47 :: (d :: v' ++ e :: w))).2.1 = name := by
    show small ((d :: v' ++ e :: w).takeWhile nameB) = name
    rw [w1, c3']
  cases hf : (endP (60 :: 47 :: (d :: v' ++ e :: w))).1 with
  | true =>
    right
    rw [if_pos rfl, hep]
    exact ⟨_, rfl⟩
  | false =>
    left
    rw [if_neg (by simp)]
    have hr : (endP (60 :: 47 :: (d :: v' ++ e :: w))).2.2 = [] := by
      have hf' : (Lib.cut ((d :: v' ++ e :: w).dropWhile nameB) [62]).2.2 = false := hf
      show (Lib.cut ((d :: v' ++ e :: w).dropWhile nameB) [62]).2.1 = []
      unfold Lib.cut at hf' ⊢
      split at hf'
      · simp at hf'
      · rename_i h0
        rw [if_neg h0]
    rw [hr]
    rfl
/-- What a token holds. -/
structure TokGood (s : Int) (nm : List UInt8) (al : List (List UInt8 × List UInt8)) (tx rest : List UInt8) : Prop where
  name : s ≠ 0 → isNameP nm = true
  attrs : attrsOkP al = true
  text : s = 1 → kindP nm ≠ 2 → tx = []
  raw : s = 1 → holdsEndP nm tx = false
  next : s = 1 → kindP nm = 2 → rest = [] ∨ endsRawP rest nm = true
theorem startP_good {r nm : List UInt8} {al : List (List UInt8 × List UInt8)} {tx rest : List UInt8} (hb : beginsP r = 1) (h : startP r = some (nm, al, tx, rest)) : TokGood 1 nm al tx rest := by
  obtain ⟨c, d, t, rfl, hd⟩ := begins_name hb
  unfold startP at h
  split at h
  · cases h
  · rename_i al' r3 ha
    have hal := attrsF_ok _ _ _ _ _ ha rfl
    have hnm := isName_read d t hd
    split at h
    · rename_i hk
      injection h with h
      simp only [Prod.mk.injEq] at h
      obtain ⟨rfl, rfl, rfl, rfl⟩ := h
      exact ⟨fun _ => hnm, hal, fun _ hk2 => absurd hk hk2, fun _ => raw_no_end _ _, fun _ _ => raw_rest _ _⟩
    · rename_i hk
      injection h with h
      simp only [Prod.mk.injEq] at h
      obtain ⟨rfl, rfl, rfl, rfl⟩ := h
      exact ⟨fun _ => hnm, hal, fun _ _ => rfl, fun _ => rfl, fun _ hk2 => absurd hk2 hk⟩
theorem nextF_good : ∀ (f : Nat) (r : List UInt8) (s : Int) (nm : List UInt8) (al : List (List UInt8 × List UInt8)) (tx rest : List UInt8), nextF f r = some ((s, nm, al, tx), rest) → TokGood s nm al tx rest
  | 0, _, _, _, _, _, _, h => by simp [nextF] at h
  | f + 1, r, s, nm, al, tx, rest, h => by
    unfold nextF at h
    split at h
    · cases h
    · split at h
      · exact nextF_good f _ _ _ _ _ _ h
      · split at h
        · rename_i hb
          split at h
          · injection h with h
            simp only [Prod.mk.injEq] at h
            obtain ⟨⟨rfl, rfl, rfl, rfl⟩, rfl⟩ := h
            obtain ⟨c, e, d, t, rfl, hd⟩ := begins_endname hb
            exact ⟨fun _ => isName_read d t hd, rfl, fun h => by omega, fun h => by omega, fun h => by omega⟩
          · exact nextF_good f _ _ _ _ _ _ h
        · split at h
          · rename_i hb
            split at h
            · cases h
            · rename_i nm' al' tx' rest' hs
              injection h with h
              simp only [Prod.mk.injEq] at h
              obtain ⟨⟨rfl, rfl, rfl, rfl⟩, rfl⟩ := h
              exact startP_good hb hs
          · injection h with h
            simp only [Prod.mk.injEq] at h
            obtain ⟨⟨rfl, rfl, rfl, rfl⟩, rfl⟩ := h
            exact ⟨fun h => absurd rfl h, rfl, fun h => by omega, fun h => by omega, fun h => by omega⟩
theorem nextP_good {r : List UInt8} {s : Int} {nm : List UInt8} {al : List (List UInt8 × List UInt8)} {tx rest : List UInt8} (h : nextP r = some ((s, nm, al, tx), rest)) : TokGood s nm al tx rest := nextF_good _ _ _ _ _ _ _ h
end Scrub
