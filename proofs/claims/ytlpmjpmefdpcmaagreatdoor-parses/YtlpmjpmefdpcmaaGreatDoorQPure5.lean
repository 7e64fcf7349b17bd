import Derived.Lib.IndexMore
import Derived.Test.YtlpmjpmefdpcmaaGreatDoorProg
import Derived.WalkKit
import Derived.WalkSpells
import Derived.Deep.QuietTactic
import Derived.BigQuiet
/- The plain mathematics of reading markup: bytes, signs, tokens. No program in it. -/
namespace Scrub
def letB (c : UInt8) : Bool := (decide (97 ≤ c.toNat) && decide (c.toNat ≤ 122)) || (decide (65 ≤ c.toNat) && decide (c.toNat ≤ 90))
def nameB (c : UInt8) : Bool := letB c || (decide (48 ≤ c.toNat) && decide (c.toNat ≤ 57))
def blankB (c : UInt8) : Bool := decide (c.toNat = 9) || decide (c.toNat = 10) || decide (c.toNat = 13) || decide (c.toNat = 32)
def blankSlashB (c : UInt8) : Bool := blankB c || decide (c.toNat = 47)
def endsValueB (c : UInt8) : Bool := blankB c || decide (c.toNat = 62)
def endsRawB (c : UInt8) : Bool := blankSlashB c || decide (c.toNat = 62)
def endsAttrB (c : UInt8) : Bool := blankSlashB c || decide (c.toNat = 61) || decide (c.toNat = 62)
def smallB (c : UInt8) : UInt8 := if 65 ≤ c.toNat ∧ c.toNat ≤ 90 then UInt8.ofNat (c.toNat + 32) else c
theorem smallB_in (c : UInt8) (h0 : 65 ≤ c.toNat) (h1 : c.toNat ≤ 90) : ((smallB c).toNat : Int) = (c.toNat : Int) - 65 + 97 := by
  unfold smallB
  rw [if_pos ⟨h0, h1⟩]
  simp
  omega
theorem smallB_out (c : UInt8) (h : ¬ (65 ≤ c.toNat ∧ c.toNat ≤ 90)) : smallB c = c := by
  unfold smallB
  rw [if_neg h]
def small (l : List UInt8) : List UInt8 := l.map smallB
/-- What stands first, with a sign read, and how many bytes it takes. -/
def sign1 (l : List UInt8) : UInt8 × Nat :=
  if List.isPrefixOf [38, 97, 109, 112, 59] l then (38, 5)
  else if List.isPrefixOf [38, 108, 116, 59] l then (60, 4)
  else if List.isPrefixOf [38, 103, 116, 59] l then (62, 4)
  else if List.isPrefixOf [38, 113, 117, 111, 116, 59] l then (34, 6)
  else (l.headD 0, 1)
def signsF : Nat → List UInt8 → List UInt8
  | 0, _ => []
  | _ + 1, [] => []
  | n + 1, c :: t => (sign1 (c :: t)).1 :: signsF n ((c :: t).drop (sign1 (c :: t)).2)
/-- Signs are read. -/
def signs (l : List UInt8) : List UInt8 := signsF l.length l
theorem isPrefixOf_len {p l : List UInt8} (h : List.isPrefixOf p l = true) : p.length ≤ l.length := by
  have := List.isPrefixOf_iff_prefix.1 h
  exact this.length_le
theorem sign1_pos (l : List UInt8) : 1 ≤ (sign1 l).2 := by
  unfold sign1
  repeat' split
  all_goals simp
theorem sign1_le (l : List UInt8) (h : l ≠ []) : (sign1 l).2 ≤ l.length := by
  have h1 : 1 ≤ l.length := by cases l <;> simp_all
  unfold sign1
  repeat' split
  all_goals first | exact h1 | (rename_i hp; exact isPrefixOf_len hp)
theorem signsF_more : ∀ (n m : Nat) (l : List UInt8), l.length ≤ n → l.length ≤ m → signsF n l = signsF m l
  | 0, 0, _, _, _ => rfl
  | 0, m + 1, l, h, _ => by
    have : l = [] := List.eq_nil_of_length_eq_zero (by omega)
    subst this
    rfl
  | n + 1, 0, l, _, h => by
    have : l = [] := List.eq_nil_of_length_eq_zero (by omega)
    subst this
    rfl
  | n + 1, m + 1, [], _, _ => rfl
  | n + 1, m + 1, c :: t, h, h' => by
    have hp := sign1_pos (c :: t)
    unfold signsF
    rw [signsF_more n m _ (by simp at h ⊢; omega) (by simp at h' ⊢; omega)]
theorem signs_cons (l : List UInt8) (h : l ≠ []) : signs l = (sign1 l).1 :: signs (l.drop (sign1 l).2) := by
  cases l with
  | nil => exact absurd rfl h
  | cons c t =>
    have hp := sign1_pos (c :: t)
    show signsF (t.length + 1) (c :: t) = _
    unfold signsF
    rw [signs, signsF_more t.length _ _ (by simp; omega) (Nat.le_refl _)]
theorem signs_nil : signs [] = [] := rfl
theorem signs_length : ∀ (n : Nat) (l : List UInt8), l.length ≤ n → (signs l).length ≤ l.length
  | 0, l, h => by
    have : l = [] := List.eq_nil_of_length_eq_zero (by omega)
    subst this
    simp [signs_nil]
  | n + 1, l, h => by
    by_cases hl : l = []
    · subst hl; simp [signs_nil]
    · have hp := sign1_pos l
      have hq := sign1_le l hl
      rw [signs_cons l hl]
      have := signs_length n (l.drop (sign1 l).2) (by simp; omega)
      simp at this ⊢
      omega
/-- The first k signs do not stand here. -/
def NoSign (k : Nat) (l : List UInt8) : Prop :=
  (0 < k → List.isPrefixOf [38, 97, 109, 112, 59] l = false) ∧ (1 < k → List.isPrefixOf [38, 108, 116, 59] l = false) ∧
  (2 < k → List.isPrefixOf [38, 103, 116, 59] l = false) ∧ (3 < k → List.isPrefixOf [38, 113, 117, 111, 116, 59] l = false)
theorem NoSign.zero (l : List UInt8) : NoSign 0 l := ⟨by simp, by simp, by simp, by simp⟩
theorem NoSign.s1 {l : List UInt8} (_ : NoSign 0 l) (h : List.isPrefixOf [38, 97, 109, 112, 59] l = false) : NoSign 1 l := ⟨fun _ => h, by simp, by simp, by simp⟩
theorem NoSign.s2 {l : List UInt8} (n : NoSign 1 l) (h : List.isPrefixOf [38, 108, 116, 59] l = false) : NoSign 2 l := ⟨fun _ => n.1 (by decide), fun _ => h, by simp, by simp⟩
theorem NoSign.s3 {l : List UInt8} (n : NoSign 2 l) (h : List.isPrefixOf [38, 103, 116, 59] l = false) : NoSign 3 l := ⟨fun _ => n.1 (by decide), fun _ => n.2.1 (by decide), fun _ => h, by simp⟩
theorem NoSign.s4 {l : List UInt8} (n : NoSign 3 l) (h : List.isPrefixOf [38, 113, 117, 111, 116, 59] l = false) : NoSign 4 l := ⟨fun _ => n.1 (by decide), fun _ => n.2.1 (by decide), fun _ => n.2.2.1 (by decide), fun _ => h⟩
theorem sign1_amp {l : List UInt8} (h : List.isPrefixOf [38, 97, 109, 112, 59] l = true) : sign1 l = (38, 5) := by unfold sign1; rw [if_pos h]
theorem sign1_lt {l : List UInt8} (n : NoSign 1 l) (h : List.isPrefixOf [38, 108, 116, 59] l = true) : sign1 l = (60, 4) := by
  unfold sign1; rw [n.1 (by decide), if_neg (by decide), if_pos h]
theorem sign1_gt {l : List UInt8} (n : NoSign 2 l) (h : List.isPrefixOf [38, 103, 116, 59] l = true) : sign1 l = (62, 4) := by
  unfold sign1; rw [n.1 (by decide), n.2.1 (by decide), if_neg (by decide), if_neg (by decide), if_pos h]
theorem sign1_quot {l : List UInt8} (n : NoSign 3 l) (h : List.isPrefixOf [38, 113, 117, 111, 116, 59] l = true) : sign1 l = (34, 6) := by
  unfold sign1; rw [n.1 (by decide), n.2.1 (by decide), n.2.2.1 (by decide), if_neg (by decide), if_neg (by decide), if_neg (by decide), if_pos h]
theorem sign1_none {l : List UInt8} (n : NoSign 4 l) : sign1 l = (l.headD 0, 1) := by
  unfold sign1; rw [n.1 (by decide), n.2.1 (by decide), n.2.2.1 (by decide), n.2.2.2 (by decide)]; simp
/-- The first k bytes have become small. -/
def smallRow (l : List UInt8) (k : Nat) : List UInt8 := (l.take k).map smallB ++ l.drop k
theorem smallRow_zero (l : List UInt8) : smallRow l 0 = l := by simp [smallRow]
theorem smallRow_length (l : List UInt8) (k : Nat) (h : k ≤ l.length) : (smallRow l k).length = l.length := by simp [smallRow, List.length_take]; omega
theorem smallRow_get (l : List UInt8) (k : Nat) (h : k < l.length) (h' : k < (smallRow l k).length) : (smallRow l k)[k] = l[k] := by
  apply Option.some.inj
  rw [← List.getElem?_eq_getElem h', ← List.getElem?_eq_getElem h]
  show ((l.take k).map smallB ++ l.drop k)[k]? = _
  rw [List.getElem?_append_right (by simp [List.length_take]; omega)]
  simp [List.length_take, Nat.min_eq_left (Nat.le_of_lt h)]
theorem smallRow_set (l : List UInt8) (k : Nat) (h : k < l.length) : (smallRow l k).set k (smallB l[k]) = smallRow l (k + 1) := by
  unfold smallRow
  rw [List.set_append_right _ _ (by simp [List.length_take]; omega)]
  have e : k - ((l.take k).map smallB).length = 0 := by simp [List.length_take]; omega
  rw [e, List.drop_eq_getElem_cons h, List.set_cons_zero, List.take_succ_eq_append_getElem h, List.map_append]
  simp
theorem smallRow_all (l : List UInt8) (k : Nat) (h : l.length ≤ k) : smallRow l k = small l := by simp [smallRow, small, List.take_of_length_le h, List.drop_eq_nil_of_le h]
/-- A run over the bytes that are such: from k0 to k all were. -/
def PassInv (p : UInt8 → Bool) (l : List UInt8) (k0 k : Nat) : Prop :=
  k0 ≤ k ∧ (l.drop k0).takeWhile p = (l.drop k0).take (k - k0) ++ (l.drop k).takeWhile p ∧ (l.drop k0).dropWhile p = (l.drop k).dropWhile p
theorem PassInv.start (p : UInt8 → Bool) (l : List UInt8) (k : Nat) : PassInv p l k k := ⟨Nat.le_refl _, by simp, rfl⟩
theorem PassInv.step {p : UInt8 → Bool} {l : List UInt8} {k0 k : Nat} (h : PassInv p l k0 k) (hk : k < l.length) (hp : p l[k] = true) : PassInv p l k0 (k + 1) := by
  obtain ⟨h0, h1, h2⟩ := h
  have hd : l.drop k = l[k] :: l.drop (k + 1) := List.drop_eq_getElem_cons hk
  refine ⟨by omega, ?_, ?_⟩
  · rw [h1, hd, List.takeWhile_cons_of_pos hp]
    have e : k + 1 - k0 = (k - k0) + 1 := by omega
    have hlt : k - k0 < (l.drop k0).length := by simp; omega
    have hg : (l.drop k0)[k - k0] = l[k] := by simp [Nat.add_sub_cancel' h0]
    rw [e, List.take_succ_eq_append_getElem hlt, hg]
    simp
  · rw [h2, hd, List.dropWhile_cons_of_pos hp]
theorem PassInv.stop {p : UInt8 → Bool} {l : List UInt8} {k0 k : Nat} (h : PassInv p l k0 k) (hs : ∀ hk : k < l.length, p l[k] = false) :
    (l.drop k0).takeWhile p = (l.drop k0).take (k - k0) ∧ (l.drop k0).dropWhile p = l.drop k := by
  obtain ⟨h0, h1, h2⟩ := h
  rw [h1, h2]
  by_cases hk : k < l.length
  · have hd : l.drop k = l[k] :: l.drop (k + 1) := List.drop_eq_getElem_cons hk
    have hp := hs hk
    rw [hd, List.takeWhile_cons_of_neg (by simp [hp]), List.dropWhile_cons_of_neg (by simp [hp])]
    simp
  · have : l.drop k = [] := List.drop_eq_nil_of_le (by omega)
    rw [this]
    simp
theorem takeWhile_eq_take (p : UInt8 → Bool) (l : List UInt8) : l.takeWhile p = l.take (l.length - (l.dropWhile p).length) := by
  have h := List.takeWhile_append_dropWhile (p := p) (l := l)
  have hl : l.length = (l.takeWhile p).length + (l.dropWhile p).length := by
    have := congrArg List.length h
    rw [List.length_append] at this
    omega
  have hn : l.length - (l.dropWhile p).length = (l.takeWhile p).length := by omega
  rw [hn]
  generalize l.takeWhile p = a at *
  generalize l.dropWhile p = b at *
  subst h
  simp
theorem dropWhile_le (p : UInt8 → Bool) (l : List UInt8) : (l.dropWhile p).length ≤ l.length := by
  have h := congrArg List.length (List.takeWhile_append_dropWhile (p := p) (l := l))
  rw [List.length_append] at h
  omega
theorem takeWhile_le (p : UInt8 → Bool) (l : List UInt8) : (l.takeWhile p).length ≤ l.length := by
  have h := congrArg List.length (List.takeWhile_append_dropWhile (p := p) (l := l))
  rw [List.length_append] at h
  omega
theorem dropWhile_suffix (p : UInt8 → Bool) (l : List UInt8) : l.dropWhile p = l.drop (l.length - (l.dropWhile p).length) := by
  have h := List.takeWhile_append_dropWhile (p := p) (l := l)
  have hl : l.length = (l.takeWhile p).length + (l.dropWhile p).length := by
    have := congrArg List.length h
    rw [List.length_append] at this
    omega
  have hn : l.length - (l.dropWhile p).length = (l.takeWhile p).length := by omega
  rw [hn]
  generalize l.takeWhile p = a at *
  generalize l.dropWhile p = b at *
  subst h
  simp
/-- An attribute's name: the next byte, and what stands behind it ahead of what ends it. -/
def attrNameP (r : List UInt8) : List UInt8 × List UInt8 :=
  (small (r.take 1 ++ (r.drop 1).takeWhile (fun c => !endsAttrB c)), (r.drop 1).dropWhile (fun c => !endsAttrB c))
theorem attrNameP_cut {r : List UInt8} (h : r ≠ []) : (attrNameP r).1 = small (r.take (r.length - (attrNameP r).2.length)) := by
  cases r with
  | nil => exact absurd rfl h
  | cons c t =>
    show small ([c] ++ t.takeWhile (fun c => !endsAttrB c)) = _
    rw [takeWhile_eq_take]
    have hd := dropWhile_le (fun c => !endsAttrB c) t
    show _ = small (List.take (t.length + 1 - (t.dropWhile (fun c => !endsAttrB c)).length) (c :: t))
    have e : t.length + 1 - (t.dropWhile (fun c => !endsAttrB c)).length = (t.length - (t.dropWhile (fun c => !endsAttrB c)).length) + 1 := by omega
    rw [e, List.take_succ_cons]
    rfl
theorem attrNameP_lt {r : List UInt8} (h : r ≠ []) : (attrNameP r).2.length < r.length := by
  cases r with
  | nil => exact absurd rfl h
  | cons c t =>
    have hd := dropWhile_le (fun c => !endsAttrB c) t
    show (t.dropWhile (fun c => !endsAttrB c)).length < t.length + 1
    omega
theorem prefix61 {m : ByteArray} {k : Nat} (h : k < m.size) : List.isPrefixOf [61] (m.data.toList.drop k) = decide (m[k].toNat = 61) := by
  rw [List.drop_eq_getElem_cons (by simpa using h)]
  show (61 == m.data.toList[k] && List.isPrefixOf [] _) = _
  have e : m.data.toList[k] = m[k] := rfl
  rw [e]
  rw [Bool.eq_iff_iff]
  simp
  constructor
  · intro h; rw [← h]; rfl
  · intro h; exact UInt8.toNat_inj.1 (by rw [h]; rfl)
/-- What begins here: -1 a comment, 0 a byte of text, 1 a start, 2 an end. -/
def beginsP (l : List UInt8) : Int :=
  if (l.headD 0).toNat ≠ 60 then 0
  else if List.isPrefixOf [60, 33, 45, 45] l then -1
  else if 1 < l.length ∧ letB (l.getD 1 0) = true then 1
  else if 2 < l.length ∧ (l.getD 1 0).toNat = 47 ∧ letB (l.getD 2 0) = true then 2
  else 0
theorem headD_of {t : ByteArray} (h : 0 < t.size) : t.data.toList.headD 0 = t[0] := by
  cases hh : t.data.toList with
  | nil =>
    have : t.data.toList.length = 0 := by rw [hh]; rfl
    have h2 : t.data.toList.length = t.size := by simp
    omega
  | cons a r =>
    have : t.data.toList[0]? = some a := by rw [hh]; rfl
    have h2 : t.data.toList[0]? = some t[0] := by
      rw [List.getElem?_eq_getElem (by simpa using h)]
      rfl
    rw [this] at h2
    exact Option.some.inj h2
theorem getD_of {t : ByteArray} {i : Nat} (h : i < t.size) : t.data.toList.getD i 0 = t[i] := by
  rw [List.getD_eq_getElem?_getD, List.getElem?_eq_getElem (by simpa using h)]
  rfl
/-- The ways through it. -/
theorem begins_w1 {t : ByteArray} (h : 0 < t.size) (h1 : ((t[0].toNat : Int) != 60) = true) : 0 = beginsP t.data.toList := by
  unfold beginsP
  rw [headD_of h, if_pos (by simp at h1; omega)]
theorem begins_w2 {t : ByteArray} (h : 0 < t.size) (h1 : ((t[0].toNat : Int) != 60) = false) (h2 : List.isPrefixOf [60, 33, 45, 45] t.data.toList = true) : -1 = beginsP t.data.toList := by
  unfold beginsP
  rw [headD_of h, if_neg (by simp at h1 ⊢; omega), if_pos h2]
theorem begins_in {t : ByteArray} (h : 0 < t.size) (h1 : ((t[0].toNat : Int) != 60) = false) (h2 : List.isPrefixOf [60, 33, 45, 45] t.data.toList = false) :
    beginsP t.data.toList = if 1 < t.data.toList.length ∧ letB (t.data.toList.getD 1 0) = true then 1
      else if 2 < t.data.toList.length ∧ (t.data.toList.getD 1 0).toNat = 47 ∧ letB (t.data.toList.getD 2 0) = true then 2 else 0 := by
  unfold beginsP
  rw [headD_of h, if_neg (by simp at h1 ⊢; omega), h2, if_neg (by decide)]
theorem len_of (t : ByteArray) : t.data.toList.length = t.size := by simp
theorem begins_w3 {t : ByteArray} (h : 0 < t.size) (h1 : ((t[0].toNat : Int) != 60) = false) (h2 : List.isPrefixOf [60, 33, 45, 45] t.data.toList = false) (h3 : 1 < t.size) (h4 : letB t[1] = true) : 1 = beginsP t.data.toList := by
  rw [begins_in h h1 h2, len_of, getD_of h3, if_pos ⟨h3, h4⟩]
theorem begins_w4 {t : ByteArray} (h : 0 < t.size) (h1 : ((t[0].toNat : Int) != 60) = false) (h2 : List.isPrefixOf [60, 33, 45, 45] t.data.toList = false) (h3 : 1 < t.size) (h4 : letB t[1] = false) (h5 : 2 < t.size) :
    beginsP t.data.toList = if t[1].toNat = 47 ∧ letB t[2] = true then 2 else 0 := by
  rw [begins_in h h1 h2, len_of, getD_of h3, getD_of h5, if_neg (by simp [h4])]
  by_cases hc : t[1].toNat = 47 ∧ letB t[2] = true
  · rw [if_pos ⟨h5, hc⟩, if_pos hc]
  · rw [if_neg (fun x => hc x.2), if_neg hc]
theorem begins_w5 {t : ByteArray} (h : 0 < t.size) (h1 : ((t[0].toNat : Int) != 60) = false) (h2 : List.isPrefixOf [60, 33, 45, 45] t.data.toList = false) (h3 : ∀ h3 : 1 < t.size, letB t[1] = false) (h5 : t.size ≤ 2) : 0 = beginsP t.data.toList := by
  rw [begins_in h h1 h2, len_of, if_neg, if_neg (fun x => by omega)]
  rintro ⟨x, y⟩
  rw [getD_of x, h3 x] at y
  cases y
end Scrub
/- The plain mathematics of reading markup: values, attributes, raw texts, tokens. No program in it. -/
namespace Scrub
open Go
/-- A value, signs read; whether it is whole; what is left. -/
def valueP (r : List UInt8) : List UInt8 × Bool × List UInt8 :=
  if List.isPrefixOf [34] (r.dropWhile blankB) = true ∨ List.isPrefixOf [39] (r.dropWhile blankB) = true then
    (signs (Lib.cut ((r.dropWhile blankB).drop 1) ((r.dropWhile blankB).take 1)).1, (Lib.cut ((r.dropWhile blankB).drop 1) ((r.dropWhile blankB).take 1)).2.2, (Lib.cut ((r.dropWhile blankB).drop 1) ((r.dropWhile blankB).take 1)).2.1)
  else (signs ((r.dropWhile blankB).takeWhile (fun c => !endsValueB c)), true, (r.dropWhile blankB).dropWhile (fun c => !endsValueB c))
theorem valueP_quoted {r r1 : List UInt8} (e : r.dropWhile blankB = r1) (h : List.isPrefixOf [34] r1 = true ∨ List.isPrefixOf [39] r1 = true) :
    valueP r = (signs (Lib.cut (r1.drop 1) (r1.take 1)).1, (Lib.cut (r1.drop 1) (r1.take 1)).2.2, (Lib.cut (r1.drop 1) (r1.take 1)).2.1) := by
  unfold valueP
  rw [e, if_pos h]
theorem valueP_bare {r r1 : List UInt8} (e : r.dropWhile blankB = r1) (h : List.isPrefixOf [34] r1 = false) (h' : List.isPrefixOf [39] r1 = false) :
    valueP r = (signs (r1.takeWhile (fun c => !endsValueB c)), true, r1.dropWhile (fun c => !endsValueB c)) := by
  unfold valueP
  rw [e, if_neg (by simp [h, h'])]
/-- Does what ends a raw element stand here? -/
def endsRawP (l name : List UInt8) : Bool :=
  List.isPrefixOf [60, 47] l && decide (name.length < (l.drop 2).length) && (small ((l.drop 2).take name.length) == name) && endsRawB ((l.drop 2).getD name.length 0)
/-- The bytes ahead of the first place where it stops, and what is left. -/
def runP (stop : List UInt8 → Bool) : List UInt8 → List UInt8 × List UInt8
  | [] => ([], [])
  | c :: t => if stop (c :: t) then ([], c :: t) else (c :: (runP stop t).1, (runP stop t).2)
/-- A raw element's text, and what is left. -/
def rawP (name l : List UInt8) : List UInt8 × List UInt8 := runP (fun x => endsRawP x name) l
/-- Bytes of text that stand side by side, and what is left. -/
def textP (l : List UInt8) : List UInt8 × List UInt8 := runP (fun x => beginsP x != 0) l
/-- An end: is it whole; its name; what is left. -/
def endP (r : List UInt8) : Bool × List UInt8 × List UInt8 :=
  ((Lib.cut ((r.drop 2).dropWhile nameB) [62]).2.2, small ((r.drop 2).takeWhile nameB), (Lib.cut ((r.drop 2).dropWhile nameB) [62]).2.1)
/-- From k0 to k it did not stop. -/
def RunInv (stop : List UInt8 → Bool) (l : List UInt8) (k0 k : Nat) : Prop :=
  (runP stop (l.drop k0)).1 = (l.drop k0).take (k - k0) ++ (runP stop (l.drop k)).1 ∧ (runP stop (l.drop k0)).2 = (runP stop (l.drop k)).2
theorem RunInv.start (stop : List UInt8 → Bool) (l : List UInt8) (k : Nat) : RunInv stop l k k := ⟨by simp, rfl⟩
theorem RunInv.step {stop : List UInt8 → Bool} {l : List UInt8} {k0 k : Nat} (h : RunInv stop l k0 k) (h0 : k0 ≤ k) (hk : k < l.length) (hp : stop (l.drop k) = false) : RunInv stop l k0 (k + 1) := by
  obtain ⟨h1, h2⟩ := h
  have hd : l.drop k = l[k] :: l.drop (k + 1) := List.drop_eq_getElem_cons hk
  have hr : runP stop (l.drop k) = (l[k] :: (runP stop (l.drop (k + 1))).1, (runP stop (l.drop (k + 1))).2) := by
    rw [hd] at hp ⊢
    rw [runP, hp]
    rfl
  refine ⟨?_, ?_⟩
  · rw [h1, hr]
    have e : k + 1 - k0 = (k - k0) + 1 := by omega
    have hlt : k - k0 < (l.drop k0).length := by simp; omega
    have hg : (l.drop k0)[k - k0] = l[k] := by simp [Nat.add_sub_cancel' h0]
    rw [e, List.take_succ_eq_append_getElem hlt, hg]
    simp
  · rw [h2, hr]
theorem RunInv.stop {stop : List UInt8 → Bool} {l : List UInt8} {k0 k : Nat} (h : RunInv stop l k0 k) (hs : l.length ≤ k ∨ stop (l.drop k) = true) :
    (runP stop (l.drop k0)).1 = (l.drop k0).take (k - k0) ∧ (runP stop (l.drop k0)).2 = l.drop k := by
  obtain ⟨h1, h2⟩ := h
  rw [h1, h2]
  by_cases hk : k < l.length
  · have hd : l.drop k = l[k] :: l.drop (k + 1) := List.drop_eq_getElem_cons hk
    have hp : stop (l.drop k) = true := by
      rcases hs with hs | hs
      · omega
      · exact hs
    have hr : runP stop (l.drop k) = ([], l.drop k) := by
      rw [hd] at hp ⊢
      rw [runP, hp]
      rfl
    rw [hr]
    simp
  · have : l.drop k = [] := List.drop_eq_nil_of_le (by omega)
    rw [this]
    simp [runP]
end Scrub
namespace Go.Proofs.YtlpmjpmefdpcmaaGreatDoor
open Go.RowKit Scrub
theorem ret_bool {a b : Bool} (h : a = b) : Ending.returned (.bool a) = .returned (.bool b) := by rw [h]
theorem ret_int {k : IntKind} {a b : Int} (h : a = b) : Ending.returned (.int k a) = .returned (.int k b) := by rw [h]
set_option maxHeartbeats 400000 in
theorem isLetter_any (c : UInt8) (w : World) :
    Calls Tryz.prog 176 #[.int .u8 (c.toNat : Int)] w fun e w' => e = .returned (.bool (letB c)) ∧ w' = w := by
  have hc := c.toNat_lt
  go_enter Tryz.func176, Tryz.ntmps176
  go_wp2
  all_goals
    go_ret
    refine ⟨ret_bool ?_, rfl⟩
    unfold letB
    rw [Bool.eq_iff_iff]
    simp [*]
    try omega
set_option maxHeartbeats 400000 in
theorem isBlank_any (c : UInt8) (w : World) :
    Calls Tryz.prog 183 #[.int .u8 (c.toNat : Int)] w fun e w' => e = .returned (.bool (blankB c)) ∧ w' = w := by
  have hc := c.toNat_lt
  go_enter Tryz.func183, Tryz.ntmps183
  go_wp2
  all_goals
    go_ret
    refine ⟨ret_bool ?_, rfl⟩
    unfold blankB
    rw [Bool.eq_iff_iff]
    simp [*]
    try omega
set_option maxHeartbeats 400000 in
theorem isNameByte_any (c : UInt8) (w : World) :
    Calls Tryz.prog 180 #[.int .u8 (c.toNat : Int)] w fun e w' => e = .returned (.bool (nameB c)) ∧ w' = w := by
  have hc := c.toNat_lt
  go_enter Tryz.func180, Tryz.ntmps180
  go_wp2_with (first | (go_at_call 176; refine (isLetter_any _ _).mono ?_; rintro e w' ⟨rfl, rfl⟩))
  all_goals
    go_ret
    refine ⟨ret_bool ?_, rfl⟩
    unfold nameB
    rw [Bool.eq_iff_iff]
    simp [*]
    try omega
set_option maxHeartbeats 400000 in
theorem isBlankOrSlash_any (c : UInt8) (w : World) :
    Calls Tryz.prog 181 #[.int .u8 (c.toNat : Int)] w fun e w' => e = .returned (.bool (blankSlashB c)) ∧ w' = w := by
  have hc := c.toNat_lt
  go_enter Tryz.func181, Tryz.ntmps181
  go_wp2_with (first | (go_at_call 183; refine (isBlank_any _ _).mono ?_; rintro e w' ⟨rfl, rfl⟩))
  all_goals
    go_ret
    refine ⟨ret_bool ?_, rfl⟩
    unfold blankSlashB
    rw [Bool.eq_iff_iff]
    simp [*]
    try omega
set_option maxHeartbeats 400000 in
theorem endsValue_any (c : UInt8) (w : World) :
    Calls Tryz.prog 217 #[.int .u8 (c.toNat : Int)] w fun e w' => e = .returned (.bool (endsValueB c)) ∧ w' = w := by
  have hc := c.toNat_lt
  go_enter Tryz.func217, Tryz.ntmps217
  go_wp2_with (first | (go_at_call 183; refine (isBlank_any _ _).mono ?_; rintro e w' ⟨rfl, rfl⟩))
  all_goals
    go_ret
    refine ⟨ret_bool ?_, rfl⟩
    unfold endsValueB
    rw [Bool.eq_iff_iff]
    simp [*]
    try omega
set_option maxHeartbeats 400000 in
theorem endsName_any (c : UInt8) (w : World) :
    Calls Tryz.prog 222 #[.int .u8 (c.toNat : Int)] w fun e w' => e = .returned (.bool (endsRawB c)) ∧ w' = w := by
  have hc := c.toNat_lt
  go_enter Tryz.func222, Tryz.ntmps222
  go_wp2_with (first | (go_at_call 181; refine (isBlankOrSlash_any _ _).mono ?_; rintro e w' ⟨rfl, rfl⟩))
  all_goals
    go_ret
    refine ⟨ret_bool ?_, rfl⟩
    unfold endsRawB
    rw [Bool.eq_iff_iff]
    simp [*]
    try omega
set_option maxHeartbeats 400000 in
theorem endsAttrName_any (c : UInt8) (w : World) :
    Calls Tryz.prog 215 #[.int .u8 (c.toNat : Int)] w fun e w' => e = .returned (.bool (endsAttrB c)) ∧ w' = w := by
  have hc := c.toNat_lt
  go_enter Tryz.func215, Tryz.ntmps215
  go_wp2_with (first | (go_at_call 222; refine (endsName_any _ _).mono ?_; rintro e w' ⟨rfl, rfl⟩))
  all_goals
    go_ret
    refine ⟨ret_bool ?_, rfl⟩
    unfold endsAttrB
    rename_i hh
    rw [Bool.eq_iff_iff]
    simp [endsRawB] at hh ⊢
    cases hb : blankSlashB c <;> simp [hb] at hh ⊢ <;> omega
set_option maxHeartbeats 400000 in
theorem smallByte_any (c : UInt8) (w : World) :
    Calls Tryz.prog 213 #[.int .u8 (c.toNat : Int)] w fun e w' => e = .returned (.int .u8 ((smallB c).toNat : Int)) ∧ w' = w := by
  have hc := c.toNat_lt
  go_enter Tryz.func213, Tryz.ntmps213
  go_wp2
  all_goals
    go_ret
    refine ⟨ret_int ?_, rfl⟩
  · rw [smallB_in c (by omega) (by omega)]
  · rw [smallB_out c (by omega)]
  · rw [smallB_out c (by omega)]
end Go.Proofs.YtlpmjpmefdpcmaaGreatDoor
/- Worlds: what a call leaves as it was (Kept), the reader in memory (Rd). No program in it. -/
namespace Scrub
open Go Go.RowKit
/-- All blocks that were there, but those of S, are as they were. -/
structure Kept (S : List Nat) (w w' : World) : Prop where
  os : w'.os = w.os
  tape : w'.tape = w.tape
  output : w'.output = w.output
  size : w.heap.size ≤ w'.heap.size
  block : ∀ k, k < w.heap.size → k ∉ S → w'.heap[k]? = w.heap[k]?
theorem Kept.refl (S : List Nat) (w : World) : Kept S w w := ⟨rfl, rfl, rfl, Nat.le_refl _, fun _ _ _ => rfl⟩
theorem Kept.trans {S : List Nat} {a b c : World} (h : Kept S a b) (k : Kept S b c) : Kept S a c :=
  ⟨k.os.trans h.os, k.tape.trans h.tape, k.output.trans h.output, Nat.le_trans h.size k.size,
    fun i hi hs => (k.block i (Nat.lt_of_lt_of_le hi h.size) hs).trans (h.block i hi hs)⟩
/-- What the second step turns may be new besides. -/
theorem Kept.trans_new {S S' : List Nat} {a b c : World} (h : Kept S a b) (k : Kept S' b c) (hs : ∀ i, i ∈ S' → i ∈ S ∨ a.heap.size ≤ i) : Kept S a c :=
  ⟨k.os.trans h.os, k.tape.trans h.tape, k.output.trans h.output, Nat.le_trans h.size k.size,
    fun i hi hn => (k.block i (Nat.lt_of_lt_of_le hi h.size) (fun e => by
      rcases hs i e with h1 | h1
      · exact hn h1
      · omega)).trans (h.block i hi hn)⟩
theorem Kept.mono {S S' : List Nat} {a b : World} (h : Kept S a b) (hs : ∀ i, i ∈ S → i ∈ S') : Kept S' a b :=
  ⟨h.os, h.tape, h.output, h.size, fun i hi hn => h.block i hi (fun e => hn (hs i e))⟩
theorem Kept.drewN {S : List Nat} {a b : World} (h : Kept S a b) (n : Nat) : Kept S a (b.drewN n) := by
  refine h.trans ⟨?_, ?_, ?_, ?_, ?_⟩ <;> simp [World.drewN]
theorem Kept.drew {S : List Nat} {a b : World} (h : Kept S a b) : Kept S a b.drew := ⟨h.os, h.tape, h.output, h.size, h.block⟩
theorem Kept.alloc {S : List Nat} {a b : World} (h : Kept S a b) (o : Obj) : Kept S a (b.alloc o) :=
  h.trans ⟨rfl, rfl, rfl, by simp, fun k hk _ => Below.heap_alloc _ _ _ (by omega)⟩
theorem Kept.setCell {S : List Nat} {a b : World} (h : Kept S a b) {p : Addr} (hp : p.block ∈ S ∨ a.heap.size ≤ p.block) (u : Value) : Kept S a (b.setCell p u) :=
  ⟨h.os, h.tape, h.output, by have := h.size; simpa [World.setCell] using this, fun k hk hn => by
    have : k ≠ p.block := by
      intro e
      rcases hp with h1 | h1
      · exact hn (e ▸ h1)
      · omega
    rw [Below.heap_setCell _ _ _ _ this]
    exact h.block k hk hn⟩
theorem Kept.below {a b : World} (h : Below a.heap.size a b) (S : List Nat) : Kept S a b := ⟨h.os, h.tape, h.output, h.size, fun k hk _ => h.block k hk⟩
theorem Kept.toBelow {a b : World} (h : Kept [] a b) : Below a.heap.size a b := ⟨h.os, h.tape, h.output, h.size, fun k hk => h.block k hk (by simp)⟩
theorem Kept.grown {S : List Nat} {a b : World} {row : Option Nat} (h : a.grownBy b row) (hr : ∀ k, row = some k → k ∈ S) : Kept S a b :=
  ⟨h.os, h.tape, h.output, h.size, fun k hk hn => h.block k hk (fun e => hn (hr k e.symm))⟩
theorem Kept.cell {S : List Nat} {a b : World} (h : Kept S a b) {p : Addr} (hp : p.block < a.heap.size) (hn : p.block ∉ S) : b.cell? p = a.cell? p :=
  World.cell?_of_block (w := a) (h.block p.block hp hn)
theorem Kept.frozen {S : List Nat} {a b : World} (h : Kept S a b) {p : Addr} (hp : p.block < a.heap.size) (hn : p.block ∉ S) : b.frozen? p = a.frozen? p :=
  World.frozen?_of_block (w := a) (h.block p.block hp hn)
theorem heap_drewN (w : World) (n : Nat) : (w.drewN n).heap = w.heap := by simp [World.drewN]
theorem Kept.trans_below {S : List Nat} {a b c : World} (h : Kept S a b) (k : Below a.heap.size b c) : Kept S a c :=
  ⟨k.os.trans h.os, k.tape.trans h.tape, k.output.trans h.output, Nat.le_trans h.size k.size, fun i hi hn => (k.block i hi).trans (h.block i hi hn)⟩
theorem Kept.toGrown {a b : World} (h : Kept [] a b) (row : Option Nat) : a.grownBy b row := ⟨h.os, h.tape, h.output, h.size, fun k hk _ => h.block k hk (by simp)⟩
theorem ownsRow_kept {S : List Nat} {w w' : World} {base : Nat} {e : TypeId} {size : Nat} {v : Value} {n : Nat} {xs : List Value} (h : w.ownsRow base e size v n xs) (hk : Kept S w w') (hn : ∀ k, v.ownBlock = some k → k ∉ S) : w'.ownsRow base e size v n xs := by
  refine ⟨h.1, ?_⟩
  rcases h.2 with h0 | ⟨g, cap, cur, rfl, hb, hgg, rest⟩
  · exact .inl h0
  · refine .inr ⟨g, cap, cur, rfl, hb, ?_, rest⟩
    rw [hk.block g (Array.getElem?_eq_some_iff.1 hgg).1 (hn g rfl)]
    exact hgg
/-- The reader: a block of the markup and of how far it is read. -/
def RdK (w : World) (rb : Nat) (m : ByteArray) (k : Nat) : Prop :=
  (∃ t, w.heap[rb]? = some (.cells #[.string m, .int .i64 (k : Int)] t (0, 0))) ∧ k ≤ m.size
/-- .. r: what is left. -/
def Rd (w : World) (rb : Nat) (m : ByteArray) (r : List UInt8) : Prop := ∃ k, RdK w rb m k ∧ r = m.data.toList.drop k
theorem RdK.drewN {w : World} {rb : Nat} {m : ByteArray} {k : Nat} (h : RdK w rb m k) (n : Nat) : RdK (w.drewN n) rb m k := h
theorem RdK.lt {w : World} {rb : Nat} {m : ByteArray} {k : Nat} (h : RdK w rb m k) : rb < w.heap.size := by
  obtain ⟨⟨t, h1⟩, h2⟩ := h
  exact (Array.getElem?_eq_some_iff.1 h1).1
theorem RdK.kept {w w' : World} {S : List Nat} {rb : Nat} {m : ByteArray} {k : Nat} (h : RdK w rb m k) (hk : Kept S w w') (hn : rb ∉ S) : RdK w' rb m k := by
  have hlt := h.lt
  obtain ⟨⟨t, h1⟩, h2⟩ := h
  exact ⟨⟨t, by rw [hk.block rb hlt hn]; exact h1⟩, h2⟩
theorem RdK.set {w : World} {rb : Nat} {m : ByteArray} {k : Nat} (h : RdK w rb m k) {k' : Nat} (hk : k' ≤ m.size) : RdK (w.setCell ⟨rb, 1, none⟩ (.int .i64 (k' : Int))) rb m k' := by
  obtain ⟨⟨t, h1⟩, h2⟩ := h
  refine ⟨⟨t, ?_⟩, hk⟩
  simp [World.setCell, Array.getElem?_modify, h1]
/-- What the walk asks of it. -/
theorem RdK.cells {w : World} {rb : Nat} {m : ByteArray} {k : Nat} (h : RdK w rb m k) :
    w.cell? ⟨rb, 0, none⟩ = some (.string m) ∧ w.cell? ⟨rb, 1, none⟩ = some (.int .i64 (k : Int)) ∧ w.frozen? ⟨rb, 1, none⟩ = false := by
  obtain ⟨⟨t, h1⟩, h2⟩ := h
  exact ⟨by simp [World.cell?, h1], by simp [World.cell?, h1], by simp [World.frozen?, h1]⟩
/-- The reader set so that just the bytes l' are left. -/
theorem RdK.setRest {w : World} {rb : Nat} {m : ByteArray} {k : Nat} (h : RdK w rb m k) {r l' : List UInt8} (hr : r = m.data.toList.drop k) (hle : l'.length ≤ r.length) (hd : l' = r.drop (r.length - l'.length)) {v : Int} (hv : v = (m.size : Int) - (l'.length : Int)) :
    Rd (w.setCell ⟨rb, 1, none⟩ (.int .i64 v)) rb m l' := by
  have h2 := h.2
  have hrl : r.length = m.size - k := by rw [hr]; simp
  have hv' : v = ((m.size - l'.length : Nat) : Int) := by omega
  subst hv'
  refine ⟨m.size - l'.length, h.set (by omega), ?_⟩
  generalize hn : l'.length = n at *
  rw [hd, hr, List.drop_drop]
  congr 1
  simp
  omega
theorem Rd.drewN {w : World} {rb : Nat} {m : ByteArray} {r : List UInt8} (h : Rd w rb m r) (n : Nat) : Rd (w.drewN n) rb m r := h
theorem Rd.kept {w w' : World} {S : List Nat} {rb : Nat} {m : ByteArray} {r : List UInt8} (h : Rd w rb m r) (hk : Kept S w w') (hn : rb ∉ S) : Rd w' rb m r := by
  obtain ⟨k, h1, h2⟩ := h
  exact ⟨k, h1.kept hk hn, h2⟩
theorem Rd.lt {w : World} {rb : Nat} {m : ByteArray} {r : List UInt8} (h : Rd w rb m r) : rb < w.heap.size := by
  obtain ⟨k, h1, h2⟩ := h
  exact h1.lt
/-- A row of bytes in a block of its own, that may be written. -/
def BytesAt (w : World) (b : Nat) (l : List UInt8) : Prop :=
  ∀ j (h : j < l.length), w.cell? ⟨b, j, none⟩ = some (.int .u8 (l[j].toNat : Int)) ∧ w.frozen? ⟨b, j, none⟩ = false
theorem BytesAt.set {w : World} {b : Nat} {l : List UInt8} (h : BytesAt w b l) (k : Nat) (c : UInt8) (hk : k < l.length) : BytesAt (w.setCell ⟨b, k, none⟩ (.int .u8 (c.toNat : Int))) b (l.set k c) := by
  intro j hj
  have hj' : j < l.length := by simpa using hj
  obtain ⟨h1, h2⟩ := h j hj'
  obtain ⟨k1, k2⟩ := h k hk
  refine ⟨?_, ?_⟩
  · by_cases e : k = j
    · subst e
      rw [World.cell?_setCell_same _ _ _ k1]
      simp
    · rw [World.cell?_setCell_other _ _ _ _ (fun h => e (by injection h))]
      rw [h1]
      simp [e]
  · rw [← h2]
    simp [World.frozen?, World.setCell, Array.getElem?_modify]
    cases w.heap[b]? with
    | none => rfl
    | some o => cases o <;> rfl
/-- '[]byte(s)': a new row, the bytes in it. -/
theorem conv_bytes {P : Program} (w : World) (src dst e : TypeId) (s : ByteArray) (hs : P.underlying src = some .string) (hd : P.underlying dst = some (.slice e)) (he : P.underlying e = some (.int .u8)) :
    ∃ cap w1, (convert src dst (.string s)).run P w = .ok (.slice (some ⟨w.heap.size, 0, none⟩) s.size cap) w1 ∧ Kept [] w w1 ∧ BytesAt w1 w.heap.size s.data.toList := by
  refine ⟨_, _, run_bytes_of_string w src dst e s hs hd he, ((Kept.refl [] w).drew).alloc _, ?_⟩
  intro j hj
  have hj' : j < s.data.size := by simpa using hj
  refine ⟨?_, ?_⟩
  · have := World.cell?_alloc_mark w.drew (bytesRow s (grownCap w s.size 0 e)) e ((bytesRow s (grownCap w s.size 0 e)).size, (bytesRow s (grownCap w s.size 0 e)).size + 1) j
    refine this.trans ?_
    rw [bytesRow_at s _ j hj']
    simp
  · have := World.frozen?_alloc_mark w.drew (bytesRow s (grownCap w s.size 0 e)) e (bytesRow s (grownCap w s.size 0 e)).size ((bytesRow s (grownCap w s.size 0 e)).size + 1) j
    refine this.trans ?_
    have h2 : j < (bytesRow s (grownCap w s.size 0 e)).size := by
      have := bytesRow_at s (grownCap w s.size 0 e) j hj'
      exact (Array.getElem?_eq_some_iff.1 this).1
    simp
    omega
/-- 'string(b)' back. -/
theorem conv_back {P : Program} (w : World) (src dst e : TypeId) (b cap n : Nat) (l : List UInt8) (hl : l.length = n) (hs : P.underlying src = some (.slice e)) (he : P.underlying e = some (.int .u8)) (hd : P.underlying dst = some .string) (h : BytesAt w b l) :
    (convert src dst (.slice (some ⟨b, 0, none⟩) n cap)).run P w = .ok (.string ⟨l.toArray⟩) w := by
  subst hl
  refine run_convert_bytes_back w src dst e ⟨b, 0, none⟩ cap l hs he hd (fun j hj => ?_)
  have hadd : (⟨b, 0, none⟩ : Addr).add j = ⟨b, j, none⟩ := by unfold Addr.add; split <;> simp_all
  rw [hadd]
  exact (h j hj).1
/-- A byte stands next. -/
theorem Rd.cons {w : World} {rb : Nat} {m : ByteArray} {c : UInt8} {l : List UInt8} (h : Rd w rb m (c :: l)) :
    ∃ k, RdK w rb m k ∧ ∃ hk : k < m.size, m[k] = c ∧ l = m.data.toList.drop (k + 1) := by
  obtain ⟨k, hk, hr⟩ := h
  have hlt : k < m.size := by
    have := congrArg List.length hr
    simp at this
    omega
  rw [List.drop_eq_getElem_cons (by simpa using hlt)] at hr
  injection hr with h1 h2
  exact ⟨k, hk, hlt, h1.symm, h2⟩
theorem cells4 {w : World} {b : Nat} {v0 v1 v2 v3 : Value} {t : TypeId} (h : w.heap[b]? = some (.cells #[v0, v1, v2, v3] t (0, 0))) :
    (w.cell? ⟨b, 0, none⟩ = some v0 ∧ w.cell? ⟨b, 1, none⟩ = some v1 ∧ w.cell? ⟨b, 2, none⟩ = some v2 ∧ w.cell? ⟨b, 3, none⟩ = some v3) ∧
    (w.frozen? ⟨b, 0, none⟩ = false ∧ w.frozen? ⟨b, 1, none⟩ = false ∧ w.frozen? ⟨b, 2, none⟩ = false ∧ w.frozen? ⟨b, 3, none⟩ = false) :=
  ⟨⟨by simp [World.cell?, h], by simp [World.cell?, h], by simp [World.cell?, h], by simp [World.cell?, h]⟩, ⟨by simp [World.frozen?, h], by simp [World.frozen?, h], by simp [World.frozen?, h], by simp [World.frozen?, h]⟩⟩
theorem Kept.set4 {S : List Nat} {a b : World} (h : Kept S a b) {k : Nat} (hb : k ∈ S ∨ a.heap.size ≤ k) (v0 v1 v2 v3 : Value) :
    Kept S a ((((b.setCell ⟨k, 0, none⟩ v0).setCell ⟨k, 1, none⟩ v1).setCell ⟨k, 2, none⟩ v2).setCell ⟨k, 3, none⟩ v3) :=
  (((h.setCell (p := ⟨k, 0, none⟩) hb v0).setCell (p := ⟨k, 1, none⟩) hb v1).setCell (p := ⟨k, 2, none⟩) hb v2).setCell (p := ⟨k, 3, none⟩) hb v3
theorem drop_get {m : ByteArray} {k : Nat} (h : k < m.size) : m.data.toList.drop k = m[k] :: m.data.toList.drop (k + 1) := by
  rw [List.drop_eq_getElem_cons (by simpa using h)]
  rfl
end Scrub
/- Slices that a call owns: what append does to them, with the block that comes out. No program in it. -/
namespace Scrub
open Go Go.RowKit
/-- The block of v' is v's own, or a new one. -/
def Moved (w : World) (v v' : Value) : Prop := v'.ownBlock = v.ownBlock ∨ ∃ k, v'.ownBlock = some k ∧ w.heap.size ≤ k
theorem run_append_fp {P : Program} (w : World) (base : Nat) (t ty e : TypeId) (i : TypeInfo) (z : Value) (size bytes : Nat) (ht : P.underlying t = some (.slice e)) (hi : P.info? e = some i) (hz : i.zero = some z)
    (hsize : i.size = size) (hby : i.bytes = bytes) (hzs : z.cells.size = size) (hsz : 0 < size)
    (v : Value) (n : Nat) (xs : List Value) (hown : w.ownsRow base e size v n xs)
    (a : Addr) (m c : Nat) (news : List Value) (hl : news.length = m * size) (hnews : ∀ j u, news[j]? = some u → w.cell? (a.add j) = some u) (h1 : ∀ u ∈ news, u.oneCell' = true)
    (h63 : n + m ≤ maxLen) (hbytes : (n + m) * bytes ≤ 140737488355328) (hbase : base ≤ w.heap.size) :
    ∃ v' w', (Builtin.append_ #[t, t] ty #[v, .slice (some a) m c]).run P w = .ok v' w' ∧ w'.ownsRow base e size v' (n + m) (xs ++ news) ∧ w.grownBy w' v.ownBlock ∧ Moved w v v' := by
  obtain ⟨v', w', hr, h2, h3, h4⟩ := run_append_own (P := P) w base t ty e i z size bytes ht hi hz hsize hby hzs hsz v n xs hown a m c news hl hnews h1 h63 hbytes hbase
  refine ⟨v', w', hr, h2, h3, ?_⟩
  rcases hown.2 with ⟨rfl, rfl⟩ | ⟨g, cap, cur, rfl, hb, hgg, hnc, hcm, hcs, htk⟩
  · have hown' : w.ownsRow w.heap.size e size (.slice none 0 0) 0 xs := ⟨hown.1, .inl ⟨rfl, rfl⟩⟩
    obtain ⟨v2, w2, hr2, k2, _, _⟩ := run_append_own (P := P) w w.heap.size t ty e i z size bytes ht hi hz hsize hby hzs hsz _ 0 xs hown' a m c news hl hnews h1 h63 hbytes (Nat.le_refl _)
    rw [hr] at hr2
    injection hr2 with e1 e2
    subst e1
    rcases k2.2 with ⟨rfl, _⟩ | ⟨g, cap, cur, rfl, hb, _⟩
    · exact .inl rfl
    · exact .inr ⟨g, rfl, hb⟩
  · by_cases hroom : n + m ≤ cap
    · have hfit : n * i.size + news.length ≤ cur.size := by rw [hl, hcs, hsize, ← Nat.add_mul]; exact Nat.mul_le_mul_right _ hroom
      have hr2 := run_append_room (P := P) w t ty e i ht hi g n cap cur hgg a m c news (by rw [hsize]; exact hl) hnews h1 hroom hfit
      rw [hr] at hr2
      injection hr2 with e1 e2
      subst e1
      exact .inl rfl
    · have holds : ∀ j u, xs[j]? = some u → w.cell? ((⟨g, 0, none⟩ : Addr).add j) = some u := hown.cells (g := g) rfl
      have hsmall : n + m ≤ 9223372036854775807 := by simp only [maxLen] at h63; omega
      have hr2 := run_append_grow (P := P) w t ty e i z ht hi hz ⟨g, 0, none⟩ n cap xs (by rw [hsize]; exact hown.1) holds a m c news (by rw [hsize]; exact hl) hnews (by omega) (by omega) (growslice_fits (by omega) (by rw [hby]; exact hbytes))
      rw [hr] at hr2
      injection hr2 with e1 e2
      subst e1
      exact .inr ⟨w.heap.size, rfl, Nat.le_refl _⟩
theorem wp_append_fp {P : Program} (w : World) {o : Oper} {a : Act} {K : Act → World → Prop} {Q : Exit → Act → World → Prop} (s x : Operand) (t : TypeId)
    (ho : o.op = .call { callee := .builtin .append, args := #[s, x], argTypes := #[t, t] })
    (base : Nat) (e : TypeId) (i : TypeInfo) (z : Value) (size bytes : Nat) (ht : P.underlying t = some (.slice e)) (hi : P.info? e = some i) (hz : i.zero = some z)
    (hsize : i.size = size) (hby : i.bytes = bytes) (hzs : z.cells.size = size) (hsz : 0 < size)
    (v : Value) (n : Nat) (xs : List Value) (hs : a.eval s = v) (hown : w.ownsRow base e size v n xs)
    (ad : Addr) (m c : Nat) (news : List Value) (hx : a.eval x = .slice (some ad) m c) (hl : news.length = m * size) (hnews : ∀ j u, news[j]? = some u → w.cell? (ad.add j) = some u) (h1 : ∀ u ∈ news, u.oneCell' = true)
    (h63 : n + m ≤ maxLen) (hbytes : (n + m) * bytes ≤ 140737488355328) (hbase : base ≤ w.heap.size)
    (h : ∀ v' w', w'.ownsRow base e size v' (n + m) (xs ++ news) → w.grownBy w' v.ownBlock → Moved w v v' → K (a.put o.dst v') w') : o.wp P a w K Q := by
  obtain ⟨v', w', hr, h2, h3, h4⟩ := run_append_fp (P := P) w base t o.type e i z size bytes ht hi hz hsize hby hzs hsz v n xs hown ad m c news hl hnews h1 h63 hbytes hbase
  unfold Oper.wp execOp
  simp only [ho, resolve, invoke, builtin, Sem.run_bind, Sem.run_pure, Result.andThen_ok, List.map_toArray, List.map_cons, List.map_nil, hs, hx, hr]
  exact h v' w' h2 h3 h4
theorem wpList_append_fp {P : Program} (w : World) {ops : Array Oper} {rest : List Oper} {o : Oper} {a : Act} {Q : Exit → Act → World → Prop} (hgd : o.guard = none) (s x : Operand) (t : TypeId)
    (ho : o.op = .call { callee := .builtin .append, args := #[s, x], argTypes := #[t, t] })
    (base : Nat) (e : TypeId) (i : TypeInfo) (z : Value) (size bytes : Nat) (ht : P.underlying t = some (.slice e)) (hi : P.info? e = some i) (hz : i.zero = some z)
    (hsize : i.size = size) (hby : i.bytes = bytes) (hzs : z.cells.size = size) (hsz : 0 < size)
    (v : Value) (n : Nat) (xs : List Value) (hs : a.eval s = v) (hown : w.ownsRow base e size v n xs)
    (ad : Addr) (m c : Nat) (news : List Value) (hx : a.eval x = .slice (some ad) m c) (hl : news.length = m * size) (hnews : ∀ j u, news[j]? = some u → w.cell? (ad.add j) = some u) (h1 : ∀ u ∈ news, u.oneCell' = true)
    (h63 : n + m ≤ maxLen) (hbytes : (n + m) * bytes ≤ 140737488355328) (hbase : base ≤ w.heap.size)
    (h : ∀ v' w', w'.ownsRow base e size v' (n + m) (xs ++ news) → w.grownBy w' v.ownBlock → Moved w v v' → wpList P ops Q rest (a.put o.dst v') w') : wpList P ops Q (o :: rest) a w :=
  wpList_plain hgd fun _ hK => wp_append_fp w s x t ho base e i z size bytes ht hi hz hsize hby hzs hsz v n xs hs hown ad m c news hx hl hnews h1 h63 hbytes hbase fun v' w' h2 h3 h4 => hK _ _ (h v' w' h2 h3 h4)
/-- Attributes as cells. -/
def attrCells (al : List (List UInt8 × List UInt8)) : List Value := al.flatMap fun a => [.string ⟨a.1.toArray⟩, .string ⟨a.2.toArray⟩]
theorem attrCells_length (al : List (List UInt8 × List UInt8)) : (attrCells al).length = al.length * 2 := by
  induction al with
  | nil => rfl
  | cons a t ih => simp [attrCells] at ih ⊢; omega
theorem attrCells_snoc (al : List (List UInt8 × List UInt8)) (a : List UInt8 × List UInt8) : attrCells al ++ [.string ⟨a.1.toArray⟩, .string ⟨a.2.toArray⟩] = attrCells (al ++ [a]) := by simp [attrCells]
theorem attrCells_get : ∀ (al : List (List UInt8 × List UInt8)) (i : Nat) (h : i < al.length), (attrCells al)[i * 2]? = some (.string ⟨al[i].1.toArray⟩) ∧ (attrCells al)[i * 2 + 1]? = some (.string ⟨al[i].2.toArray⟩)
  | [], i, h => by simp at h
  | a :: t, 0, _ => by simp [attrCells]
  | a :: t, i + 1, h => by
    have ih := attrCells_get t i (by simpa using h)
    have e : attrCells (a :: t) = [.string ⟨a.1.toArray⟩, .string ⟨a.2.toArray⟩] ++ attrCells t := by simp [attrCells]
    rw [e, List.getElem?_append_right (by simp; omega), List.getElem?_append_right (by simp; omega)]
    have e1 : (i + 1) * 2 - 2 = i * 2 := by omega
    have e2 : (i + 1) * 2 + 1 - 2 = i * 2 + 1 := by omega
    simp only [List.length_cons, List.length_nil]
    exact ⟨by rw [e1]; exact ih.1, by rw [e2]; exact ih.2⟩
/-- One more, if there is none of that name. -/
def withP (al : List (List UInt8 × List UInt8)) (a : List UInt8 × List UInt8) : List (List UInt8 × List UInt8) := if al.any (fun x => x.1 == a.1) then al else al ++ [a]
/-- None of the first k has this name. -/
def NoName (al : List (List UInt8 × List UInt8)) (n : List UInt8) (k : Nat) : Prop := ∀ j (h : j < al.length), j < k → al[j].1 ≠ n
theorem withP_new (al : List (List UInt8 × List UInt8)) (a : List UInt8 × List UInt8) (h : NoName al a.1 al.length) : withP al a = al ++ [a] := by
  unfold withP
  rw [if_neg]
  intro hc
  obtain ⟨y, hy, he⟩ := List.any_eq_true.1 hc
  obtain ⟨j, hj, rfl⟩ := List.getElem_of_mem hy
  exact h j hj hj (by simpa using he)
theorem withP_old (al : List (List UInt8 × List UInt8)) (a : List UInt8 × List UInt8) (k : Nat) (hk : k < al.length) (h : al[k].1 = a.1) : withP al a = al := by
  unfold withP
  rw [if_pos]
  exact List.any_eq_true.2 ⟨al[k], List.getElem_mem hk, by simpa using h⟩
theorem Moved.kept {w w' : World} {v v' : Value} (h : Moved w' v v') (hs : w.heap.size ≤ w'.heap.size) : Moved w v v' := by
  rcases h with h | ⟨k, h1, h2⟩
  · exact .inl h
  · exact .inr ⟨k, h1, Nat.le_trans hs h2⟩
theorem new_cells (w : World) (c : List Value) (t : TypeId) : ∀ j u, c[j]? = some u → (w.alloc (.cells c.toArray t)).cell? ((⟨w.heap.size, 0, none⟩ : Addr).add j) = some u := by
  intro j u hu
  have hadd : (⟨w.heap.size, 0, none⟩ : Addr).add j = ⟨w.heap.size, j, none⟩ := by unfold Addr.add; split <;> simp_all
  rw [hadd]
  have := World.cell?_alloc_mark w c.toArray t (0, 0) j
  refine this.trans ?_
  simpa using hu
theorem Kept.own {a b : World} {v : Value} (h : a.grownBy b v.ownBlock) : Kept v.ownBlock.toList a b := Kept.grown h (fun k hk => by rw [hk]; simp)
theorem ownsRow_form {w : World} {base : Nat} {e : TypeId} {size : Nat} {v : Value} {n : Nat} {xs : List Value} (h : w.ownsRow base e size v n xs) : ∃ a c, v = .slice a n c := by
  rcases h.2 with ⟨rfl, rfl⟩ | ⟨g, cap, cur, rfl, _⟩
  · exact ⟨_, _, rfl⟩
  · exact ⟨_, _, rfl⟩
theorem row_cell {w : World} {base : Nat} {e : TypeId} {size n cap g : Nat} {xs : List Value} (h : w.ownsRow base e size (.slice (some ⟨g, 0, none⟩) n cap) n xs) {j : Nat} {u : Value} (hu : xs[j]? = some u) : w.cell? ⟨g, j, none⟩ = some u := by
  have := h.cells (g := g) rfl j u hu
  have hadd : (⟨g, 0, none⟩ : Addr).add j = ⟨g, j, none⟩ := by unfold Addr.add; split <;> simp_all
  rw [hadd] at this
  exact this
end Scrub
/- The plain mathematics of reading markup: starts, tokens. No program in it. -/
namespace Scrub
open Go
/-- The kinds of elements: 1 void, 2 raw, 3 block, 4 limit, 0 plain. -/
def kindP (n : List UInt8) : Int :=
  if n = [98, 114] ∨ n = [104, 114] ∨ n = [105, 109, 103] then 1
  else if n = [115, 116, 121, 108, 101] ∨ n = [115, 99, 114, 105, 112, 116] then 2
  else if n = [112] ∨ n = [100, 105, 118] ∨ n = [117, 108] ∨ n = [108, 105] ∨ n = [116, 97, 98, 108, 101] then 3
  else if n = [116, 100] then 4 else 0
/-- The attributes of a start, and what is left behind it; none: the markup ends within it. -/
def attrsF : Nat → List UInt8 → List (List UInt8 × List UInt8) → Option (List (List UInt8 × List UInt8) × List UInt8)
  | 0, _, _ => none
  | f + 1, r, al =>
    if (r.dropWhile blankSlashB).isEmpty then none
    else if ((r.dropWhile blankSlashB).headD 0).toNat = 62 then some (al, (r.dropWhile blankSlashB).drop 1)
    else if List.isPrefixOf [61] ((attrNameP (r.dropWhile blankSlashB)).2.dropWhile blankB) then
      if (valueP (((attrNameP (r.dropWhile blankSlashB)).2.dropWhile blankB).drop 1)).2.1 then
        attrsF f (valueP (((attrNameP (r.dropWhile blankSlashB)).2.dropWhile blankB).drop 1)).2.2 (withP al ((attrNameP (r.dropWhile blankSlashB)).1, (valueP (((attrNameP (r.dropWhile blankSlashB)).2.dropWhile blankB).drop 1)).1))
      else none
    else attrsF f ((attrNameP (r.dropWhile blankSlashB)).2.dropWhile blankB) (withP al ((attrNameP (r.dropWhile blankSlashB)).1, []))
def attrsP (r : List UInt8) (al : List (List UInt8 × List UInt8)) : Option (List (List UInt8 × List UInt8) × List UInt8) := attrsF (r.length + 1) r al
theorem cut_snd_le (l sep : List UInt8) : (Lib.cut l sep).2.1.length ≤ l.length := by
  unfold Lib.cut
  split
  · simp
  · simp
theorem valueP_le (r : List UInt8) : (valueP r).2.2.length ≤ r.length := by
  have h0 := dropWhile_le blankB r
  unfold valueP
  split
  · have := cut_snd_le ((r.dropWhile blankB).drop 1) ((r.dropWhile blankB).take 1)
    rw [List.length_drop] at this
    simp only
    omega
  · have := dropWhile_le (fun c => !endsValueB c) (r.dropWhile blankB)
    simp only
    omega
theorem attrsF_more : ∀ (n m : Nat) (r : List UInt8) (al : List (List UInt8 × List UInt8)), r.length < n → r.length < m → attrsF n r al = attrsF m r al
  | 0, _, _, _, h, _ => by omega
  | _ + 1, 0, _, _, _, h => by omega
  | n + 1, m + 1, r, al, hn, hm => by
    unfold attrsF
    have h0 := dropWhile_le blankSlashB r
    split
    · rfl
    · rename_i he
      have hne : r.dropWhile blankSlashB ≠ [] := by
        intro e
        rw [e] at he
        simp at he
      have h1 := attrNameP_lt hne
      have h2 := dropWhile_le blankB (attrNameP (r.dropWhile blankSlashB)).2
      split
      · rfl
      · split
        · split
          · have h3 := valueP_le (((attrNameP (r.dropWhile blankSlashB)).2.dropWhile blankB).drop 1)
            rw [List.length_drop] at h3
            exact attrsF_more n m _ _ (by omega) (by omega)
          · rfl
        · exact attrsF_more n m _ _ (by omega) (by omega)
/-- One round. -/
theorem attrsP_end {r : List UInt8} {al : List (List UInt8 × List UInt8)} {r1 : List UInt8} (e : r.dropWhile blankSlashB = r1) (h : r1 = []) : attrsP r al = none := by
  unfold attrsP attrsF
  rw [e, h]
  rfl
theorem attrsP_close {r : List UInt8} {al : List (List UInt8 × List UInt8)} {r1 : List UInt8} (e : r.dropWhile blankSlashB = r1) (h : r1 ≠ []) (h2 : (r1.headD 0).toNat = 62) : attrsP r al = some (al, r1.drop 1) := by
  unfold attrsP attrsF
  rw [e, if_neg (by cases r1 <;> simp_all), if_pos h2]
theorem attrsP_bare {r : List UInt8} {al : List (List UInt8 × List UInt8)} {r1 r3 : List UInt8} (e : r.dropWhile blankSlashB = r1) (h : r1 ≠ []) (h2 : (r1.headD 0).toNat ≠ 62) (e3 : (attrNameP r1).2.dropWhile blankB = r3) (h3 : List.isPrefixOf [61] r3 = false) :
    attrsP r al = attrsP r3 (withP al ((attrNameP r1).1, [])) := by
  have h0 := dropWhile_le blankSlashB r
  have h1 := attrNameP_lt h
  have h4 := dropWhile_le blankB (attrNameP r1).2
  rw [e] at h0
  rw [e3] at h4
  show attrsF (r.length + 1) r al = attrsF (r3.length + 1) r3 _
  rw [attrsF, e, if_neg (by cases r1 <;> simp_all), if_neg h2, e3, h3, if_neg (by decide)]
  exact attrsF_more _ _ _ _ (by omega) (by omega)
theorem attrsP_value {r : List UInt8} {al : List (List UInt8 × List UInt8)} {r1 r3 : List UInt8} (e : r.dropWhile blankSlashB = r1) (h : r1 ≠ []) (h2 : (r1.headD 0).toNat ≠ 62) (e3 : (attrNameP r1).2.dropWhile blankB = r3) (h3 : List.isPrefixOf [61] r3 = true) (h5 : (valueP (r3.drop 1)).2.1 = true) :
    attrsP r al = attrsP (valueP (r3.drop 1)).2.2 (withP al ((attrNameP r1).1, (valueP (r3.drop 1)).1)) := by
  have h0 := dropWhile_le blankSlashB r
  have h1 := attrNameP_lt h
  have h4 := dropWhile_le blankB (attrNameP r1).2
  have h6 := valueP_le (r3.drop 1)
  rw [e] at h0
  rw [e3] at h4
  rw [List.length_drop] at h6
  show attrsF (r.length + 1) r al = attrsF ((valueP (r3.drop 1)).2.2.length + 1) _ _
  rw [attrsF, e, if_neg (by cases r1 <;> simp_all), if_neg h2, e3, h3, if_pos rfl, h5, if_pos rfl]
  exact attrsF_more _ _ _ _ (by omega) (by omega)
theorem attrsP_torn {r : List UInt8} {al : List (List UInt8 × List UInt8)} {r1 r3 : List UInt8} (e : r.dropWhile blankSlashB = r1) (h : r1 ≠ []) (h2 : (r1.headD 0).toNat ≠ 62) (e3 : (attrNameP r1).2.dropWhile blankB = r3) (h3 : List.isPrefixOf [61] r3 = true) (h5 : (valueP (r3.drop 1)).2.1 = false) :
    attrsP r al = none := by
  show attrsF (r.length + 1) r al = none
  rw [attrsF, e, if_neg (by cases r1 <;> simp_all), if_neg h2, e3, h3, if_pos rfl, h5, if_neg (by decide)]
/-- A start: its name, its attributes, its raw text, what is left; none: the markup ends within it. -/
def startP (r : List UInt8) : Option (List UInt8 × List (List UInt8 × List UInt8) × List UInt8 × List UInt8) :=
  match attrsP ((r.drop 1).dropWhile nameB) [] with
  | none => none
  | some (al, r3) =>
    if kindP (small ((r.drop 1).takeWhile nameB)) = 2 then some (small ((r.drop 1).takeWhile nameB), al, (rawP (small ((r.drop 1).takeWhile nameB)) r3).1, (rawP (small ((r.drop 1).takeWhile nameB)) r3).2)
    else some (small ((r.drop 1).takeWhile nameB), al, [], r3)
theorem withP_le (al : List (List UInt8 × List UInt8)) (a : List UInt8 × List UInt8) : (withP al a).length ≤ al.length + 1 := by
  unfold withP
  split
  · omega
  · simp
end Scrub
/- The plain mathematics of reading markup: the next token. No program in it. -/
namespace Scrub
open Go
/-- The next token (its sort, its name, its attributes, its text) and what is left; none: nothing more comes. -/
def nextF : Nat → List UInt8 → Option ((Int × List UInt8 × List (List UInt8 × List UInt8) × List UInt8) × List UInt8)
  | 0, _ => none
  | f + 1, r =>
    if r.isEmpty then none
    else if beginsP r = -1 then nextF f (Lib.cut (r.drop 4) [45, 45, 62]).2.1
    else if beginsP r = 2 then (if (endP r).1 then some ((2, (endP r).2.1, [], []), (endP r).2.2) else nextF f (endP r).2.2)
    else if beginsP r = 1 then (match startP r with | none => none | some (nm, al, tx, rest) => some ((1, nm, al, tx), rest))
    else some ((0, [], [], signs (textP r).1), (textP r).2)
def nextP (r : List UInt8) : Option ((Int × List UInt8 × List (List UInt8 × List UInt8) × List UInt8) × List UInt8) := nextF (r.length + 1) r
theorem comment_lt (r : List UInt8) (h : r ≠ []) : (Lib.cut (r.drop 4) [45, 45, 62]).2.1.length < r.length := by
  have h1 := cut_snd_le (r.drop 4) [45, 45, 62]
  have h2 : 0 < r.length := List.length_pos_iff.2 h
  rw [List.length_drop] at h1
  omega
theorem endP_lt (r : List UInt8) (h : r ≠ []) : (endP r).2.2.length < r.length := by
  have h1 := cut_snd_le ((r.drop 2).dropWhile nameB) [62]
  have h3 := dropWhile_le nameB (r.drop 2)
  have h2 : 0 < r.length := List.length_pos_iff.2 h
  rw [List.length_drop] at h3
  show (Lib.cut ((r.drop 2).dropWhile nameB) [62]).2.1.length < _
  omega
theorem nextF_more : ∀ (n m : Nat) (r : List UInt8), r.length < n → r.length < m → nextF n r = nextF m r
  | 0, _, _, h, _ => by omega
  | _ + 1, 0, _, _, h => by omega
  | n + 1, m + 1, r, hn, hm => by
    unfold nextF
    split
    · rfl
    · rename_i he
      have hne : r ≠ [] := by intro e; rw [e] at he; simp at he
      have h1 := comment_lt r hne
      have h2 := endP_lt r hne
      split
      · exact nextF_more n m _ (by omega) (by omega)
      · split
        · split
          · rfl
          · exact nextF_more n m _ (by omega) (by omega)
        · rfl
theorem nextP_nil : nextP [] = none := rfl
theorem nextP_comment {r : List UInt8} (h : r ≠ []) (hb : beginsP r = -1) : nextP r = nextP (Lib.cut (r.drop 4) [45, 45, 62]).2.1 := by
  have h1 := comment_lt r h
  show nextF (r.length + 1) r = nextF _ _
  rw [nextF, if_neg (by cases r <;> simp_all), if_pos hb]
  exact nextF_more _ _ _ (by omega) (by omega)
theorem nextP_end {r : List UInt8} (h : r ≠ []) (hb : beginsP r = 2) : nextP r = if (endP r).1 then some ((2, (endP r).2.1, [], []), (endP r).2.2) else nextP (endP r).2.2 := by
  have h1 := endP_lt r h
  show nextF (r.length + 1) r = _
  rw [nextF, if_neg (by cases r <;> simp_all), if_neg (by omega), if_pos hb]
  split
  · rfl
  · exact nextF_more _ _ _ (by omega) (by omega)
theorem nextP_start {r : List UInt8} (h : r ≠ []) (hb : beginsP r = 1) : nextP r = (match startP r with | none => none | some (nm, al, tx, rest) => some ((1, nm, al, tx), rest)) := by
  show nextF (r.length + 1) r = _
  rw [nextF, if_neg (by cases r <;> simp_all), if_neg (by omega), if_neg (by omega), if_pos hb]
theorem nextP_text {r : List UInt8} (h : r ≠ []) (hb : beginsP r = 0) : nextP r = some ((0, [], [], signs (textP r).1), (textP r).2) := by
  show nextF (r.length + 1) r = _
  rw [nextF, if_neg (by cases r <;> simp_all), if_neg (by omega), if_neg (by omega), if_neg (by omega)]
theorem beginsP_cases (r : List UInt8) : beginsP r = -1 ∨ beginsP r = 2 ∨ beginsP r = 1 ∨ beginsP r = 0 := by
  unfold beginsP
  repeat' split
  all_goals simp
theorem begins_comment_len {r : List UInt8} (hb : beginsP r = -1) : 4 ≤ r.length := by
  unfold beginsP at hb
  split at hb
  · omega
  · split at hb
    · rename_i h; exact isPrefixOf_len h
    · split at hb
      · omega
      · split at hb <;> omega
theorem begins_end_len {r : List UInt8} (hb : beginsP r = 2) : 2 ≤ r.length := by
  unfold beginsP at hb
  split at hb
  · omega
  · split at hb
    · omega
    · split at hb
      · omega
      · split at hb
        · rename_i h; omega
        · omega
end Scrub
/- The plain mathematics of reading markup: how much a token takes. No program in it. -/
namespace Scrub
open Go
theorem runP_split (stop : List UInt8 → Bool) : ∀ l, (runP stop l).1 ++ (runP stop l).2 = l
  | [] => rfl
  | c :: t => by
    unfold runP
    split
    · rfl
    · simp [runP_split stop t]
theorem runP_len (stop : List UInt8 → Bool) (l : List UInt8) : (runP stop l).1.length + (runP stop l).2.length = l.length := by
  have := congrArg List.length (runP_split stop l)
  simpa using this
theorem textP_ne {r : List UInt8} (h : r ≠ []) (hb : beginsP r = 0) : (textP r).1 ≠ [] := by
  cases r with
  | nil => exact absurd rfl h
  | cons c t => simp [textP, runP, hb]
theorem signs_ne {l : List UInt8} (h : l ≠ []) : signs l ≠ [] := by
  rw [signs_cons l h]
  simp
theorem attrsF_lt : ∀ (f : Nat) (r : List UInt8) (al al' : List (List UInt8 × List UInt8)) (r' : List UInt8), attrsF f r al = some (al', r') → r'.length < r.length
  | 0, _, _, _, _, h => by simp [attrsF] at h
  | f + 1, r, al, al', r', h => by
    unfold attrsF at h
    have h0 := dropWhile_le blankSlashB r
    split at h
    · cases h
    · rename_i he
      have hne : r.dropWhile blankSlashB ≠ [] := by
        intro e
        rw [e] at he
        simp at he
      have h1 := attrNameP_lt hne
      have h2 := dropWhile_le blankB (attrNameP (r.dropWhile blankSlashB)).2
      have hp : 0 < (r.dropWhile blankSlashB).length := List.length_pos_iff.2 hne
      split at h
      · injection h with h
        injection h with _ h
        rw [← h, List.length_drop]
        omega
      · split at h
        · split at h
          · have h3 := valueP_le (((attrNameP (r.dropWhile blankSlashB)).2.dropWhile blankB).drop 1)
            rw [List.length_drop] at h3
            have := attrsF_lt f _ _ _ _ h
            omega
          · cases h
        · have := attrsF_lt f _ _ _ _ h
          omega
theorem startP_len {r : List UInt8} {nm : List UInt8} {al : List (List UInt8 × List UInt8)} {tx rest : List UInt8} (h : startP r = some (nm, al, tx, rest)) : tx.length + rest.length < r.length := by
  unfold startP at h
  have h0 := dropWhile_le nameB (r.drop 1)
  rw [List.length_drop] at h0
  split at h
  · cases h
  · rename_i al' r3 ha
    have h1 := attrsF_lt _ _ _ _ _ ha
    split at h
    · injection h with h
      simp only [Prod.mk.injEq] at h
      obtain ⟨_, _, h3, h4⟩ := h
      have h5 := runP_len (fun x => endsRawP x (small ((r.drop 1).takeWhile nameB))) r3
      rw [← h3, ← h4]
      unfold rawP
      omega
    · injection h with h
      simp only [Prod.mk.injEq] at h
      obtain ⟨_, _, h3, h4⟩ := h
      rw [← h3, ← h4]
      simp
      omega
theorem begins_name {r : List UInt8} (hb : beginsP r = 1) : ∃ c d t, r = c :: d :: t ∧ letB d = true := by
  unfold beginsP at hb
  split at hb
  · omega
  · split at hb
    · omega
    · split at hb
      · rename_i h
        match r, h with
        | c :: d :: t, h => exact ⟨c, d, t, rfl, by simpa using h.2⟩
        | [c], h => simp at h
        | [], h => simp at h
      · split at hb <;> omega
theorem begins_endname {r : List UInt8} (hb : beginsP r = 2) : ∃ c e d t, r = c :: e :: d :: t ∧ letB d = true := by
  unfold beginsP at hb
  split at hb
  · omega
  · split at hb
    · omega
    · split at hb
      · omega
      · split at hb
        · rename_i h
          match r, h with
          | c :: e :: d :: t, h => exact ⟨c, e, d, t, rfl, by simpa using h.2.2⟩
          | [c, d], h => simp at h
          | [c], h => simp at h
          | [], h => simp at h
        · omega
theorem small_ne {l : List UInt8} (h : l ≠ []) : small l ≠ [] := by
  unfold small
  simpa using h
theorem nameB_of_let {c : UInt8} (h : letB c = true) : nameB c = true := by simp [nameB, h]
/-- What a token holds, and how much it takes. -/
structure TokOk (r : List UInt8) (s : Int) (nm : List UInt8) (al : List (List UInt8 × List UInt8)) (tx rest : List UInt8) : Prop where
  lt : rest.length < r.length
  len : tx.length + rest.length ≤ r.length
  kind : (s = 0 ∧ nm = [] ∧ al = [] ∧ tx ≠ []) ∨ (s = 1 ∧ nm ≠ []) ∨ (s = 2 ∧ nm ≠ [] ∧ al = [] ∧ tx = [])
theorem nextF_ok : ∀ (f : Nat) (r : List UInt8) (s : Int) (nm : List UInt8) (al : List (List UInt8 × List UInt8)) (tx rest : List UInt8), nextF f r = some ((s, nm, al, tx), rest) → TokOk r s nm al tx rest
  | 0, _, _, _, _, _, _, h => by simp [nextF] at h
  | f + 1, r, s, nm, al, tx, rest, h => by
    unfold nextF at h
    split at h
    · cases h
    · rename_i he
      have hne : r ≠ [] := by intro e; rw [e] at he; simp at he
      split at h
      · have h1 := comment_lt r hne
        have ih := nextF_ok f _ _ _ _ _ _ h
        exact ⟨by have := ih.lt; omega, by have := ih.len; omega, ih.kind⟩
      · split at h
        · rename_i hb
          have h1 := endP_lt r hne
          split at h
          · injection h with h
            simp only [Prod.mk.injEq] at h
            obtain ⟨⟨rfl, rfl, rfl, rfl⟩, rfl⟩ := h
            obtain ⟨c, e, d, t, rfl, hd⟩ := begins_endname hb
            refine ⟨h1, by simp only [List.length_nil]; omega, .inr (.inr ⟨rfl, ?_, rfl, rfl⟩)⟩
            show small (((c :: e :: d :: t).drop 2).takeWhile nameB) ≠ []
            refine small_ne ?_
            simp [nameB_of_let hd]
          · have ih := nextF_ok f _ _ _ _ _ _ h
            exact ⟨by have := ih.lt; omega, by have := ih.len; omega, ih.kind⟩
        · split at h
          · rename_i hb
            split at h
            · cases h
            · rename_i nm' al' tx' rest' hs
              injection h with h
              simp only [Prod.mk.injEq] at h
              obtain ⟨⟨rfl, rfl, rfl, rfl⟩, rfl⟩ := h
              have hl := startP_len hs
              refine ⟨by omega, by omega, .inr (.inl ⟨rfl, ?_⟩)⟩
              obtain ⟨c, d, t, rfl, hd⟩ := begins_name hb
              have hnm : nm' = small (((c :: d :: t).drop 1).takeWhile nameB) := by
                unfold startP at hs
                split at hs
                · cases hs
                · split at hs
                  · injection hs with hs
                    simp only [Prod.mk.injEq] at hs
                    exact hs.1.symm
                  · injection hs with hs
                    simp only [Prod.mk.injEq] at hs
                    exact hs.1.symm
              rw [hnm]
              refine small_ne ?_
              simp [nameB_of_let hd]
          · rename_i hb1 hb2 hb3
            have hb : beginsP r = 0 := by
              rcases beginsP_cases r with h1 | h1 | h1 | h1
              · exact absurd h1 hb1
              · exact absurd h1 hb2
              · exact absurd h1 hb3
              · exact h1
            injection h with h
            simp only [Prod.mk.injEq] at h
            obtain ⟨⟨rfl, rfl, rfl, rfl⟩, rfl⟩ := h
            have hn := textP_ne hne hb
            have hl := runP_len (fun x => beginsP x != 0) r
            have hs := signs_length _ (textP r).1 (Nat.le_refl _)
            have hp : 0 < (textP r).1.length := List.length_pos_iff.2 hn
            refine ⟨?_, ?_, .inl ⟨rfl, rfl, rfl, signs_ne hn⟩⟩
            · unfold textP at hp ⊢
              omega
            · unfold textP at hs ⊢
              omega
theorem nextP_ok {r : List UInt8} {s : Int} {nm : List UInt8} {al : List (List UInt8 × List UInt8)} {tx rest : List UInt8} (h : nextP r = some ((s, nm, al, tx), rest)) : TokOk r s nm al tx rest := nextF_ok _ _ _ _ _ _ _ h
end Scrub
