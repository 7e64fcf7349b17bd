/- The plain mathematics of reading markup: bytes, signs, tokens. No program in it. -/
namespace Scrub
def letB (c : UInt8) : Bool := (decide (97 ≤ c.toNat) && decide (c.toNat ≤ 122)) || (decide (65 ≤ c.toNat) && decide (c.toNat ≤ 90))
def nameB (c : UInt8) : Bool := letB c || (decide (48 ≤ c.toNat) && decide (c.toNat ≤ 57))
def blankB (c : UInt8) : Bool := decide (c.toNat = 9) || decide (c.toNat = 10) || decide (c.toNat = 13) || decide (c.toNat = 32)
def blankSlashB (c : UInt8) : Bool := blankB c || decide (c.toNat = 47)
def endsValueB (c : UInt8) : Bool := blankB c || decide (c.toNat = 62)
def endsRawB (c : UInt8) : Bool := blankSlashB c || decide (c.toNat = 62)
def endsAttrB (c : UInt8) : Bool := blankSlashB c || decide (c.toNat = 61) || decide (c.toNat = 62)
def smallB (c : UInt8) : UInt8 := if 65 ≤ c.toNat ∧ c.toNat ≤ 90 then UInt8.ofNat (c.toNat + 32) else c
theorem smallB_in (c : UInt8) (h0 : 65 ≤ c.toNat) (h1 : c.toNat ≤ 90) : ((smallB c).toNat : Int) = (c.toNat : Int) - 65 + 97 := by
  unfold smallB
  rw [if_pos ⟨h0, h1⟩]
  simp
  omega
theorem smallB_out (c : UInt8) (h : ¬ (65 ≤ c.toNat ∧ c.toNat ≤ 90)) : smallB c = c := by
  unfold smallB
  rw [if_neg h]
def small (l : List UInt8) : List UInt8 := l.map smallB
/-- What stands first, with a sign read, and how many bytes it takes. -/
def sign1 (l : List UInt8) : UInt8 × Nat :=
  if List.isPrefixOf [38, 97, 109, 112, 59] l then (38, 5)
  else if List.isPrefixOf [38, 108, 116, 59] l then (60, 4)
  else if List.isPrefixOf [38, 103, 116, 59] l then (62, 4)
  else if List.isPrefixOf [38, 113, 117, 111, 116, 59] l then (34, 6)
  else (l.headD 0, 1)
def signsF : Nat → List UInt8 → List UInt8
  | 0, _ => []
  | _ + 1, [] => []
  | n + 1, c :: t => (sign1 (c :: t)).1 :: signsF n ((c :: t).drop (sign1 (c :: t)).2)
/-- Signs are read. -/
def signs (l : List UInt8) : List UInt8 := signsF l.length l
theorem isPrefixOf_len {p l : List UInt8} (h : List.isPrefixOf p l = true) : p.length ≤ l.length := by
  have := List.isPrefixOf_iff_prefix.1 h
  exact this.length_le
theorem sign1_pos (l : List UInt8) : 1 ≤ (sign1 l).2 := by
  unfold sign1
  repeat' split
  all_goals simp
theorem sign1_le (l : List UInt8) (h : l ≠ []) : (sign1 l).2 ≤ l.length := by
  have h1 : 1 ≤ l.length := by cases l <;> simp_all
  unfold sign1
  repeat' split
  all_goals first | exact h1 | (rename_i hp; exact isPrefixOf_len hp)
theorem signsF_more : ∀ (n m : Nat) (l : List UInt8), l.length ≤ n → l.length ≤ m → signsF n l = signsF m l
  | 0, 0, _, _, _ => rfl
  | 0, m + 1, l, h, _ => by
    have : l = [] := List.eq_nil_of_length_eq_zero (by omega)
    subst this
    rfl
  | n + 1, 0, l, _, h => by
    have : l = [] := List.eq_nil_of_length_eq_zero (by omega)
    subst this
    rfl
  | n + 1, m + 1, [], _, _ => rfl
  | n + 1, m + 1, c :: t, h, h' => by
    have hp := sign1_pos (c :: t)
    unfold signsF
    rw [signsF_more n m _ (by simp at h ⊢; omega) (by simp at h' ⊢; omega)]
theorem signs_cons (l : List UInt8) (h : l ≠ []) : signs l = (sign1 l).1 :: signs (l.drop (sign1 l).2) := by
  cases l with
  | nil => exact absurd rfl h
  | cons c t =>
    have hp := sign1_pos (c :: t)
    show signsF (t.length + 1) (c :: t) = _
    unfold signsF
    rw [signs, signsF_more t.length _ _ (by simp; omega) (Nat.le_refl _)]
theorem signs_nil : signs [] = [] := rfl
theorem signs_length : ∀ (n : Nat) (l : List UInt8), l.length ≤ n → (signs l).length ≤ l.length
  | 0, l, h => by
    have : l = [] := List.eq_nil_of_length_eq_zero (by omega)
    subst this
    simp [signs_nil]
  | n + 1, l, h => by
    by_cases hl : l = []
    · subst hl; simp [signs_nil]
    · have hp := sign1_pos l
      have hq := sign1_le l hl
      rw [signs_cons l hl]
      have := signs_length n (l.drop (sign1 l).2) (by simp; omega)
      simp at this ⊢
      omega
/-- The first k signs do not stand here. -/
def NoSign (k : Nat) (l : List UInt8) : Prop :=
  (0 < k → List.isPrefixOf [38, 97, 109, 112, 59] l = false) ∧ (1 < k → List.isPrefixOf [38, 108, 116, 59] l = false) ∧
  (2 < k → List.isPrefixOf [38, 103, 116, 59] l = false) ∧ (3 < k → List.isPrefixOf [38, 113, 117, 111, 116, 59] l = false)
theorem NoSign.zero (l : List UInt8) : NoSign 0 l := ⟨by simp, by simp, by simp, by simp⟩
theorem NoSign.s1 {l : List UInt8} (_ : NoSign 0 l) (h : List.isPrefixOf [38, 97, 109, 112, 59] l = false) : NoSign 1 l := ⟨fun _ => h, by simp, by simp, by simp⟩
theorem NoSign.s2 {l : List UInt8} (n : NoSign 1 l) (h : List.isPrefixOf [38, 108, 116, 59] l = false) : NoSign 2 l := ⟨fun _ => n.1 (by decide), fun _ => h, by simp, by simp⟩
theorem NoSign.s3 {l : List UInt8} (n : NoSign 2 l) (h : List.isPrefixOf [38, 103, 116, 59] l = false) : NoSign 3 l := ⟨fun _ => n.1 (by decide), fun _ => n.2.1 (by decide), fun _ => h, by simp⟩
theorem NoSign.s4 {l : List UInt8} (n : NoSign 3 l) (h : List.isPrefixOf [38, 113, 117, 111, 116, 59] l = false) : NoSign 4 l := ⟨fun _ => n.1 (by decide), fun _ => n.2.1 (by decide), fun _ => n.2.2.1 (by decide), fun _ => h⟩
theorem sign1_amp {l : List UInt8} (h : List.isPrefixOf [38, 97, 109, 112, 59] l = true) : sign1 l = (38, 5) := by unfold sign1; rw [if_pos h]
theorem sign1_lt {l : List UInt8} (n : NoSign 1 l) (h : List.isPrefixOf [38, 108, 116, 59] l = true) : sign1 l = (60, 4) := by
  unfold sign1; rw [n.1 (by decide), if_neg (by decide), if_pos h]
theorem sign1_gt {l : List UInt8} (n : NoSign 2 l) (h : List.isPrefixOf [38, 103, 116, 59] l = true) : sign1 l = (62, 4) := by
  unfold sign1; rw [n.1 (by decide), n.2.1 (by decide), if_neg (by decide), if_neg (by decide), if_pos h]
theorem sign1_quot {l : List UInt8} (n : NoSign 3 l) (h : List.isPrefixOf [38, 113, 117, 111, 116, 59] l = true) : sign1 l = (34, 6) := by
  unfold sign1; rw [n.1 (by decide), n.2.1 (by decide), n.2.2.1 (by decide), if_neg (by decide), if_neg (by decide), if_neg (by decide), if_pos h]
theorem sign1_none {l : List UInt8} (n : NoSign 4 l) : sign1 l = (l.headD 0, 1) := by
  unfold sign1; rw [n.1 (by decide), n.2.1 (by decide), n.2.2.1 (by decide), n.2.2.2 (by decide)]; simp
/-- The first k bytes have become small. -/
def smallRow (l : List UInt8) (k : Nat) : List UInt8 := (l.take k).map smallB ++ l.drop k
theorem smallRow_zero (l : List UInt8) : smallRow l 0 = l := by simp [smallRow]
theorem smallRow_length (l : List UInt8) (k : Nat) (h : k ≤ l.length) : (smallRow l k).length = l.length := by simp [smallRow, List.length_take]; omega
theorem smallRow_get (l : List UInt8) (k : Nat) (h : k < l.length) (h' : k < (smallRow l k).length) : (smallRow l k)[k] = l[k] := by
  apply Option.some.inj
  rw [← List.getElem?_eq_getElem h', ← List.getElem?_eq_getElem h]
  show ((l.take k).map smallB ++ l.drop k)[k]? = _
  rw [List.getElem?_append_right (by simp [List.length_take]; omega)]
  simp [List.length_take, Nat.min_eq_left (Nat.le_of_lt h)]
theorem smallRow_set (l : List UInt8) (k : Nat) (h : k < l.length) : (smallRow l k).set k (smallB l[k]) = smallRow l (k + 1) := by
  unfold smallRow
  rw [List.set_append_right _ _ (by simp [List.length_take]; omega)]
  have e : k - ((l.take k).map smallB).length = 0 := by simp [List.length_take]; omega
  rw [e, List.drop_eq_getElem_cons h, List.set_cons_zero, List.take_succ_eq_append_getElem h, List.map_append]
  simp
theorem smallRow_all (l : List UInt8) (k : Nat) (h : l.length ≤ k) : smallRow l k = small l := by simp [smallRow, small, List.take_of_length_le h, List.drop_eq_nil_of_le h]
/-- A run over the bytes that are such: from k0 to k all were. -/
def PassInv (p : UInt8 → Bool) (l : List UInt8) (k0 k : Nat) : Prop :=
  k0 ≤ k ∧ (l.drop k0).takeWhile p = (l.drop k0).take (k - k0) ++ (l.drop k).takeWhile p ∧ (l.drop k0).dropWhile p = (l.drop k).dropWhile p
theorem PassInv.start (p : UInt8 → Bool) (l : List UInt8) (k : Nat) : PassInv p l k k := ⟨Nat.le_refl _, by simp, rfl⟩
theorem PassInv.step {p : UInt8 → Bool} {l : List UInt8} {k0 k : Nat} (h : PassInv p l k0 k) (hk : k < l.length) (hp : p l[k] = true) : PassInv p l k0 (k + 1) := by
  obtain ⟨h0, h1, h2⟩ := h
  have hd : l.drop k = l[k] :: l.drop (k + 1) := List.drop_eq_getElem_cons hk
  refine ⟨by omega, ?_, ?_⟩
  · rw [h1, hd, List.takeWhile_cons_of_pos hp]
    have e : k + 1 - k0 = (k - k0) + 1 := by omega
    have hlt : k - k0 < (l.drop k0).length := by simp; omega
    have hg : (l.drop k0)[k - k0] = l[k] := by simp [Nat.add_sub_cancel' h0]
    rw [e, List.take_succ_eq_append_getElem hlt, hg]
    simp
  · rw [h2, hd, List.dropWhile_cons_of_pos hp]
theorem PassInv.stop {p : UInt8 → Bool} {l : List UInt8} {k0 k : Nat} (h : PassInv p l k0 k) (hs : ∀ hk : k < l.length, p l[k] = false) :
    (l.drop k0).takeWhile p = (l.drop k0).take (k - k0) ∧ (l.drop k0).dropWhile p = l.drop k := by
  obtain ⟨h0, h1, h2⟩ := h
  rw [h1, h2]
  by_cases hk : k < l.length
  · have hd : l.drop k = l[k] :: l.drop (k + 1) := List.drop_eq_getElem_cons hk
    have hp := hs hk
    rw [hd, List.takeWhile_cons_of_neg (by simp [hp]), List.dropWhile_cons_of_neg (by simp [hp])]
    simp
  · have : l.drop k = [] := List.drop_eq_nil_of_le (by omega)
    rw [this]
    simp
theorem takeWhile_eq_take (p : UInt8 → Bool) (l : List UInt8) : l.takeWhile p = l.take (l.length - (l.dropWhile p).length) := by
  have h := List.takeWhile_append_dropWhile (p := p) (l := l)
  have hl : l.length = (l.takeWhile p).length + (l.dropWhile p).length := by
    have := congrArg List.length h
    rw [List.length_append] at this
    omega
  have hn : l.length - (l.dropWhile p).length = (l.takeWhile p).length := by omega
  rw [hn]
  generalize l.takeWhile p = a at *
  generalize l.dropWhile p = b at *
  subst h
  simp
theorem dropWhile_le (p : UInt8 → Bool) (l : List UInt8) : (l.dropWhile p).length ≤ l.length := by
  have h := congrArg List.length (List.takeWhile_append_dropWhile (p := p) (l := l))
  rw [List.length_append] at h
  omega
theorem takeWhile_le (p : UInt8 → Bool) (l : List UInt8) : (l.takeWhile p).length ≤ l.length := by
  have h := congrArg List.length (List.takeWhile_append_dropWhile (p := p) (l := l))
  rw [List.length_append] at h
  omega
theorem dropWhile_suffix (p : UInt8 → Bool) (l : List UInt8) : l.dropWhile p = l.drop (l.length - (l.dropWhile p).length) := by
  have h := List.takeWhile_append_dropWhile (p := p) (l := l)
  have hl : l.length = (l.takeWhile p).length + (l.dropWhile p).length := by
    have := congrArg List.length h
    rw [List.length_append] at this
    omega
  have hn : l.length - (l.dropWhile p).length = (l.takeWhile p).length := by omega
  rw [hn]
  generalize l.takeWhile p = a at *
  generalize l.dropWhile p = b at *
  subst h
  simp
/-- An attribute's name: the next byte, and what stands behind it ahead of what ends it. -/
def attrNameP (r : List UInt8) : List UInt8 × List UInt8 :=
  (small (r.take 1 ++ (r.drop 1).takeWhile (fun c => !endsAttrB c)), (r.drop 1).dropWhile (fun c => !endsAttrB c))
theorem attrNameP_cut {r : List UInt8} (h : r ≠ []) : (attrNameP r).1 = small (r.take (r.length - (attrNameP r).2.length)) := by
  cases r with
  | nil => exact absurd rfl h
  | cons c t =>
    show small ([c] ++ t.takeWhile (fun c => !endsAttrB c)) = _
    rw [takeWhile_eq_take]
    have hd := dropWhile_le (fun c => !endsAttrB c) t
    show _ = small (List.take (t.length + 1 - (t.dropWhile (fun c => !endsAttrB c)).length) (c :: t))
    have e : t.length + 1 - (t.dropWhile (fun c => !endsAttrB c)).length = (t.length - (t.dropWhile (fun c => !endsAttrB c)).length) + 1 := by omega
    rw [e, List.take_succ_cons]
    rfl
theorem attrNameP_lt {r : List UInt8} (h : r ≠ []) : (attrNameP r).2.length < r.length := by
  cases r with
  | nil => exact absurd rfl h
  | cons c t =>
    have hd := dropWhile_le (fun c => !endsAttrB c) t
    show (t.dropWhile (fun c => !endsAttrB c)).length < t.length + 1
    omega
theorem prefix61 {m : ByteArray} {k : Nat} (h : k < m.size) : List.isPrefixOf [61] (m.data.toList.drop k) = decide (m[k].toNat = 61) := by
  rw [List.drop_eq_getElem_cons (by simpa using h)]
  show (61 == m.data.toList[k] && List.isPrefixOf [] _) = _
  have e : m.data.toList[k] = m[k] := rfl
  rw [e]
  rw [Bool.eq_iff_iff]
  simp
  constructor
  · intro h; rw [← h]; rfl
  · intro h; exact UInt8.toNat_inj.1 (by rw [h]; rfl)
/-- What begins here: -1 a comment, 0 a byte of text, 1 a start, 2 an end. -/
def beginsP (l : List UInt8) : Int :=
  if (l.headD 0).toNat ≠ 60 then 0
  else if List.isPrefixOf [60, 33, 45, 45] l then -1
  else if 1 < l.length ∧ letB (l.getD 1 0) = true then 1
  else if 2 < l.length ∧ (l.getD 1 0).toNat = 47 ∧ letB (l.getD 2 0) = true then 2
  else 0
theorem headD_of {t : ByteArray} (h : 0 < t.size) : t.data.toList.headD 0 = t[0] := by
  cases hh : t.data.toList with
  | nil =>
    have : t.data.toList.length = 0 := by rw [hh]; rfl
    have h2 : t.data.toList.length = t.size := by simp
    omega
  | cons a r =>
    have : t.data.toList[0]? = some a := by rw [hh]; rfl
    have h2 : t.data.toList[0]? = some t[0] := by
      rw [List.getElem?_eq_getElem (by simpa using h)]
      rfl
    rw [this] at h2
    exact Option.some.inj h2
theorem getD_of {t : ByteArray} {i : Nat} (h : i < t.size) : t.data.toList.getD i 0 = t[i] := by
  rw [List.getD_eq_getElem?_getD, List.getElem?_eq_getElem (by simpa using h)]
  rfl
/-- The ways through it. -/
theorem begins_w1 {t : ByteArray} (h : 0 < t.size) (h1 : ((t[0].toNat : Int) != 60) = true) : 0 = beginsP t.data.toList := by
  unfold beginsP
  rw [headD_of h, if_pos (by simp at h1; omega)]
theorem begins_w2 {t : ByteArray} (h : 0 < t.size) (h1 : ((t[0].toNat : Int) != 60) = false) (h2 : List.isPrefixOf [60, 33, 45, 45] t.data.toList = true) : -1 = beginsP t.data.toList := by
  unfold beginsP
  rw [headD_of h, if_neg (by simp at h1 ⊢; omega), if_pos h2]
theorem begins_in {t : ByteArray} (h : 0 < t.size) (h1 : ((t[0].toNat : Int) != 60) = false) (h2 : List.isPrefixOf [60, 33, 45, 45] t.data.toList = false) :
    beginsP t.data.toList = if 1 < t.data.toList.length ∧ letB (t.data.toList.getD 1 0) = true then 1
      else if 2 < t.data.toList.length ∧ (t.data.toList.getD 1 0).toNat = 47 ∧ letB (t.data.toList.getD 2 0) = true then 2 else 0 := by
  unfold beginsP
  rw [headD_of h, if_neg (by simp at h1 ⊢; omega), h2, if_neg (by decide)]
theorem len_of (t : ByteArray) : t.data.toList.length = t.size := by simp
theorem begins_w3 {t : ByteArray} (h : 0 < t.size) (h1 : ((t[0].toNat : Int) != 60) = false) (h2 : List.isPrefixOf [60, 33, 45, 45] t.data.toList = false) (h3 : 1 < t.size) (h4 : letB t[1] = true) : 1 = beginsP t.data.toList := by
  rw [begins_in h h1 h2, len_of, getD_of h3, if_pos ⟨h3, h4⟩]
theorem begins_w4 {t : ByteArray} (h : 0 < t.size) (h1 : ((t[0].toNat : Int) != 60) = false) (h2 : List.isPrefixOf [60, 33, 45, 45] t.data.toList = false) (h3 : 1 < t.size) (h4 : letB t[1] = false) (h5 : 2 < t.size) :
    beginsP t.data.toList = if t[1].toNat = 47 ∧ letB t[2] = true then 2 else 0 := by
  rw [begins_in h h1 h2, len_of, getD_of h3, getD_of h5, if_neg (by simp [h4])]
  by_cases hc : t[1].toNat = 47 ∧ letB t[2] = true
  · rw [if_pos ⟨h5, hc⟩, if_pos hc]
  · rw [if_neg (fun x => hc x.2), if_neg hc]
theorem begins_w5 {t : ByteArray} (h : 0 < t.size) (h1 : ((t[0].toNat : Int) != 60) = false) (h2 : List.isPrefixOf [60, 33, 45, 45] t.data.toList = false) (h3 : ∀ h3 : 1 < t.size, letB t[1] = false) (h5 : t.size ≤ 2) : 0 = beginsP t.data.toList := by
  rw [begins_in h h1 h2, len_of, if_neg, if_neg (fun x => by omega)]
  rintro ⟨x, y⟩
  rw [getD_of x, h3 x] at y
  cases y
end Scrub
