import Derived.Lib.IndexMore
import Derived.Test.YtlpmjpmefdpcmaaGreatDoorQPure
import Derived.Test.YtlpmjpmefdpcmaaGreatDoorQWld
/- The plain mathematics of reading markup: values, attributes, raw texts, tokens. No program in it. -/
namespace Scrub
open Go
/-- A value, signs read; whether it is whole; what is left. -/
def valueP (r : List UInt8) : List UInt8 × Bool × List UInt8 :=
  if List.isPrefixOf [34] (r.dropWhile blankB) = true ∨ List.isPrefixOf [39] (r.dropWhile blankB) = true then
    (signs (Lib.cut ((r.dropWhile blankB).drop 1) ((r.dropWhile blankB).take 1)).1, (Lib.cut ((r.dropWhile blankB).drop 1) ((r.dropWhile blankB).take 1)).2.2, (Lib.cut ((r.dropWhile blankB).drop 1) ((r.dropWhile blankB).take 1)).2.1)
  else (signs ((r.dropWhile blankB).takeWhile (fun c => !endsValueB c)), true, (r.dropWhile blankB).dropWhile (fun c => !endsValueB c))
theorem valueP_quoted {r r1 : List UInt8} (e : r.dropWhile blankB = r1) (h : List.isPrefixOf [34] r1 = true ∨ List.isPrefixOf [39] r1 = true) :
    valueP r = (signs (Lib.cut (r1.drop 1) (r1.take 1)).1, (Lib.cut (r1.drop 1) (r1.take 1)).2.2, (Lib.cut (r1.drop 1) (r1.take 1)).2.1) := by
  unfold valueP
  rw [e, if_pos h]
theorem valueP_bare {r r1 : List UInt8} (e : r.dropWhile blankB = r1) (h : List.isPrefixOf [34] r1 = false) (h' : List.isPrefixOf [39] r1 = false) :
    valueP r = (signs (r1.takeWhile (fun c => !endsValueB c)), true, r1.dropWhile (fun c => !endsValueB c)) := by
  unfold valueP
  rw [e, if_neg (by simp [h, h'])]
/-- Does what ends a raw element stand here? -/
def endsRawP (l name : List UInt8) : Bool :=
  List.isPrefixOf [60, 47] l && decide (name.length < (l.drop 2).length) && (small ((l.drop 2).take name.length) == name) && endsRawB ((l.drop 2).getD name.length 0)
/-- The bytes ahead of the first place where it stops, and what is left. -/
def runP (stop : List UInt8 → Bool) : List UInt8 → List UInt8 × List UInt8
  | [] => ([], [])
  | c :: t => if stop (c :: t) then ([], c :: t) else (c :: (runP stop t).1, (runP stop t).2)
/-- A raw element's text, and what is left. -/
def rawP (name l : List UInt8) : List UInt8 × List UInt8 := runP (fun x => endsRawP x name) l
/-- Bytes of text that stand side by side, and what is left. -/
def textP (l : List UInt8) : List UInt8 × List UInt8 := runP (fun x => beginsP x != 0) l
/-- An end: is it whole; its name; what is left. -/
def endP (r : List UInt8) : Bool × List UInt8 × List UInt8 :=
  ((Lib.cut ((r.drop 2).dropWhile nameB) [62]).2.2, small ((r.drop 2).takeWhile nameB), (Lib.cut ((r.drop 2).dropWhile nameB) [62]).2.1)
/-- From k0 to k it did not stop. -/
def RunInv (stop : List UInt8 → Bool) (l : List UInt8) (k0 k : Nat) : Prop :=
  (runP stop (l.drop k0)).1 = (l.drop k0).take (k - k0) ++ (runP stop (l.drop k)).1 ∧ (runP stop (l.drop k0)).2 = (runP stop (l.drop k)).2
theorem RunInv.start (stop : List UInt8 → Bool) (l : List UInt8) (k : Nat) : RunInv stop l k k := ⟨by simp, rfl⟩
theorem RunInv.step {stop : List UInt8 → Bool} {l : List UInt8} {k0 k : Nat} (h : RunInv stop l k0 k) (h0 : k0 ≤ k) (hk : k < l.length) (hp : stop (l.drop k) = false) : RunInv stop l k0 (k + 1) := by
  obtain ⟨h1, h2⟩ := h
  have hd : l.drop k = l[k] :: l.drop (k + 1) := List.drop_eq_getElem_cons hk
  have hr : runP stop (l.drop k) = (l[k] :: (runP stop (l.drop (k + 1))).1, (runP stop (l.drop (k + 1))).2) := by
    rw [hd] at hp ⊢
    rw [runP, hp]
    rfl
  refine ⟨?_, ?_⟩
  · rw [h1, hr]
    have e : k + 1 - k0 = (k - k0) + 1 := by omega
    have hlt : k - k0 < (l.drop k0).length := by simp; omega
    have hg : (l.drop k0)[k - k0] = l[k] := by simp [Nat.add_sub_cancel' h0]
    rw [e, List.take_succ_eq_append_getElem hlt, hg]
    simp
  · rw [h2, hr]
theorem RunInv.stop {stop : List UInt8 → Bool} {l : List UInt8} {k0 k : Nat} (h : RunInv stop l k0 k) (hs : l.length ≤ k ∨ stop (l.drop k) = true) :
    (runP stop (l.drop k0)).1 = (l.drop k0).take (k - k0) ∧ (runP stop (l.drop k0)).2 = l.drop k := by
  obtain ⟨h1, h2⟩ := h
  rw [h1, h2]
  by_cases hk : k < l.length
  · have hd : l.drop k = l[k] :: l.drop (k + 1) := List.drop_eq_getElem_cons hk
    have hp : stop (l.drop k) = true := by
      rcases hs with hs | hs
      · omega
      · exact hs
    have hr : runP stop (l.drop k) = ([], l.drop k) := by
      rw [hd] at hp ⊢
      rw [runP, hp]
      rfl
    rw [hr]
    simp
  · have : l.drop k = [] := List.drop_eq_nil_of_le (by omega)
    rw [this]
    simp [runP]
end Scrub
/- Slices that a call owns: what append does to them, with the block that comes out. No program in it. -/
namespace Scrub
open Go Go.RowKit
/-- The block of v' is v's own, or a new one. -/
def Moved (w : World) (v v' : Value) : Prop := v'.ownBlock = v.ownBlock ∨ ∃ k, v'.ownBlock = some k ∧ w.heap.size ≤ k
theorem run_append_fp {P : Program} (w : World) (base : Nat) (t ty e : TypeId) (i : TypeInfo) (z : Value) (size bytes : Nat) (ht : P.underlying t = some (.slice e)) (hi : P.info? e = some i) (hz : i.zero = some z)
    (hsize : i.size = size) (hby : i.bytes = bytes) (hzs : z.cells.size = size) (hsz : 0 < size)
    (v : Value) (n : Nat) (xs : List Value) (hown : w.ownsRow base e size v n xs)
    (a : Addr) (m c : Nat) (news : List Value) (hl : news.length = m * size) (hnews : ∀ j u, news[j]? = some u → w.cell? (a.add j) = some u) (h1 : ∀ u ∈ news, u.oneCell' = true)
    (h63 : n + m ≤ maxLen) (hbytes : (n + m) * bytes ≤ 140737488355328) (hbase : base ≤ w.heap.size) :
    ∃ v' w', (Builtin.append_ #[t, t] ty #[v, .slice (some a) m c]).run P w = .ok v' w' ∧ w'.ownsRow base e size v' (n + m) (xs ++ news) ∧ w.grownBy w' v.ownBlock ∧ Moved w v v' := by
  obtain ⟨v', w', hr, h2, h3, h4⟩ := run_append_own (P := P) w base t ty e i z size bytes ht hi hz hsize hby hzs hsz v n xs hown a m c news hl hnews h1 h63 hbytes hbase
  refine ⟨v', w', hr, h2, h3, ?_⟩
  rcases hown.2 with ⟨rfl, rfl⟩ | ⟨g, cap, cur, rfl, hb, hgg, hnc, hcm, hcs, htk⟩
  · have hown' : w.ownsRow w.heap.size e size (.slice none 0 0) 0 xs := ⟨hown.1, .inl ⟨rfl, rfl⟩⟩
    obtain ⟨v2, w2, hr2, k2, _, _⟩ := run_append_own (P := P) w w.heap.size t ty e i z size bytes ht hi hz hsize hby hzs hsz _ 0 xs hown' a m c news hl hnews h1 h63 hbytes (Nat.le_refl _)
    rw [hr] at hr2
    injection hr2 with e1 e2
    subst e1
    rcases k2.2 with ⟨rfl, _⟩ | ⟨g, cap, cur, rfl, hb, _⟩
    · exact .inl rfl
    · exact .inr ⟨g, rfl, hb⟩
  · by_cases hroom : n + m ≤ cap
    · have hfit : n * i.size + news.length ≤ cur.size := by rw [hl, hcs, hsize, ← Nat.add_mul]; exact Nat.mul_le_mul_right _ hroom
      have hr2 := run_append_room (P := P) w t ty e i ht hi g n cap cur hgg a m c news (by rw [hsize]; exact hl) hnews h1 hroom hfit
      rw [hr] at hr2
      injection hr2 with e1 e2
      subst e1
      exact .inl rfl
    · have holds : ∀ j u, xs[j]? = some u → w.cell? ((⟨g, 0, none⟩ : Addr).add j) = some u := hown.cells (g := g) rfl
      have hsmall : n + m ≤ 9223372036854775807 := by simp only [maxLen] at h63; omega
      have hr2 := run_append_grow (P := P) w t ty e i z ht hi hz ⟨g, 0, none⟩ n cap xs (by rw [hsize]; exact hown.1) holds a m c news (by rw [hsize]; exact hl) hnews (by omega) (by omega) (growslice_fits (by omega) (by rw [hby]; exact hbytes))
      rw [hr] at hr2
      injection hr2 with e1 e2
      subst e1
      exact .inr ⟨w.heap.size, rfl, Nat.le_refl _⟩
theorem wp_append_fp {P : Program} (w : World) {o : Oper} {a : Act} {K : Act → World → Prop} {Q : Exit → Act → World → Prop} (s x : Operand) (t : TypeId)
    (ho : o.op = .call { callee := .builtin .append, args := #[s, x], argTypes := #[t, t] })
    (base : Nat) (e : TypeId) (i : TypeInfo) (z : Value) (size bytes : Nat) (ht : P.underlying t = some (.slice e)) (hi : P.info? e = some i) (hz : i.zero = some z)
    (hsize : i.size = size) (hby : i.bytes = bytes) (hzs : z.cells.size = size) (hsz : 0 < size)
    (v : Value) (n : Nat) (xs : List Value) (hs : a.eval s = v) (hown : w.ownsRow base e size v n xs)
    (ad : Addr) (m c : Nat) (news : List Value) (hx : a.eval x = .slice (some ad) m c) (hl : news.length = m * size) (hnews : ∀ j u, news[j]? = some u → w.cell? (ad.add j) = some u) (h1 : ∀ u ∈ news, u.oneCell' = true)
    (h63 : n + m ≤ maxLen) (hbytes : (n + m) * bytes ≤ 140737488355328) (hbase : base ≤ w.heap.size)
    (h : ∀ v' w', w'.ownsRow base e size v' (n + m) (xs ++ news) → w.grownBy w' v.ownBlock → Moved w v v' → K (a.put o.dst v') w') : o.wp P a w K Q := by
  obtain ⟨v', w', hr, h2, h3, h4⟩ := run_append_fp (P := P) w base t o.type e i z size bytes ht hi hz hsize hby hzs hsz v n xs hown ad m c news hl hnews h1 h63 hbytes hbase
  unfold Oper.wp execOp
  simp only [ho, resolve, invoke, builtin, Sem.run_bind, Sem.run_pure, Result.andThen_ok, List.map_toArray, List.map_cons, List.map_nil, hs, hx, hr]
  exact h v' w' h2 h3 h4
theorem wpList_append_fp {P : Program} (w : World) {ops : Array Oper} {rest : List Oper} {o : Oper} {a : Act} {Q : Exit → Act → World → Prop} (hgd : o.guard = none) (s x : Operand) (t : TypeId)
    (ho : o.op = .call { callee := .builtin .append, args := #[s, x], argTypes := #[t, t] })
    (base : Nat) (e : TypeId) (i : TypeInfo) (z : Value) (size bytes : Nat) (ht : P.underlying t = some (.slice e)) (hi : P.info? e = some i) (hz : i.zero = some z)
    (hsize : i.size = size) (hby : i.bytes = bytes) (hzs : z.cells.size = size) (hsz : 0 < size)
    (v : Value) (n : Nat) (xs : List Value) (hs : a.eval s = v) (hown : w.ownsRow base e size v n xs)
    (ad : Addr) (m c : Nat) (news : List Value) (hx : a.eval x = .slice (some ad) m c) (hl : news.length = m * size) (hnews : ∀ j u, news[j]? = some u → w.cell? (ad.add j) = some u) (h1 : ∀ u ∈ news, u.oneCell' = true)
    (h63 : n + m ≤ maxLen) (hbytes : (n + m) * bytes ≤ 140737488355328) (hbase : base ≤ w.heap.size)
    (h : ∀ v' w', w'.ownsRow base e size v' (n + m) (xs ++ news) → w.grownBy w' v.ownBlock → Moved w v v' → wpList P ops Q rest (a.put o.dst v') w') : wpList P ops Q (o :: rest) a w :=
  wpList_plain hgd fun _ hK => wp_append_fp w s x t ho base e i z size bytes ht hi hz hsize hby hzs hsz v n xs hs hown ad m c news hx hl hnews h1 h63 hbytes hbase fun v' w' h2 h3 h4 => hK _ _ (h v' w' h2 h3 h4)
/-- Attributes as cells. -/
def attrCells (al : List (List UInt8 × List UInt8)) : List Value := al.flatMap fun a => [.string ⟨a.1.toArray⟩, .string ⟨a.2.toArray⟩]
theorem attrCells_length (al : List (List UInt8 × List UInt8)) : (attrCells al).length = al.length * 2 := by
  induction al with
  | nil => rfl
  | cons a t ih => simp [attrCells] at ih ⊢; omega
theorem attrCells_snoc (al : List (List UInt8 × List UInt8)) (a : List UInt8 × List UInt8) : attrCells al ++ [.string ⟨a.1.toArray⟩, .string ⟨a.2.toArray⟩] = attrCells (al ++ [a]) := by simp [attrCells]
theorem attrCells_get : ∀ (al : List (List UInt8 × List UInt8)) (i : Nat) (h : i < al.length), (attrCells al)[i * 2]? = some (.string ⟨al[i].1.toArray⟩) ∧ (attrCells al)[i * 2 + 1]? = some (.string ⟨al[i].2.toArray⟩)
  | [], i, h => by simp at h
  | a :: t, 0, _ => by simp [attrCells]
  | a :: t, i + 1, h => by
    have ih := attrCells_get t i (by simpa using h)
    have e : attrCells (a :: t) = [.string ⟨a.1.toArray⟩, .string ⟨a.2.toArray⟩] ++ attrCells t := by simp [attrCells]
    rw [e, List.getElem?_append_right (by simp; omega), List.getElem?_append_right (by simp; omega)]
    have e1 : (i + 1) * 2 - 2 = i * 2 := by omega
    have e2 : (i + 1) * 2 + 1 - 2 = i * 2 + 1 := by omega
    simp only [List.length_cons, List.length_nil]
    exact ⟨by rw [e1]; exact ih.1, by rw [e2]; exact ih.2⟩
/-- One more, if there is none of that name. -/
def withP (al : List (List UInt8 × List UInt8)) (a : List UInt8 × List UInt8) : List (List UInt8 × List UInt8) := if al.any (fun x => x.1 == a.1) then al else al ++ [a]
/-- None of the first k has this name. -/
def NoName (al : List (List UInt8 × List UInt8)) (n : List UInt8) (k : Nat) : Prop := ∀ j (h : j < al.length), j < k → al[j].1 ≠ n
theorem withP_new (al : List (List UInt8 × List UInt8)) (a : List UInt8 × List UInt8) (h : NoName al a.1 al.length) : withP al a = al ++ [a] := by
  unfold withP
  rw [if_neg]
  intro hc
  obtain ⟨y, hy, he⟩ := List.any_eq_true.1 hc
  obtain ⟨j, hj, rfl⟩ := List.getElem_of_mem hy
  exact h j hj hj (by simpa using he)
theorem withP_old (al : List (List UInt8 × List UInt8)) (a : List UInt8 × List UInt8) (k : Nat) (hk : k < al.length) (h : al[k].1 = a.1) : withP al a = al := by
  unfold withP
  rw [if_pos]
  exact List.any_eq_true.2 ⟨al[k], List.getElem_mem hk, by simpa using h⟩
theorem Moved.kept {w w' : World} {v v' : Value} (h : Moved w' v v') (hs : w.heap.size ≤ w'.heap.size) : Moved w v v' := by
  rcases h with h | ⟨k, h1, h2⟩
  · exact .inl h
  · exact .inr ⟨k, h1, Nat.le_trans hs h2⟩
theorem new_cells (w : World) (c : List Value) (t : TypeId) : ∀ j u, c[j]? = some u → (w.alloc (.cells c.toArray t)).cell? ((⟨w.heap.size, 0, none⟩ : Addr).add j) = some u := by
  intro j u hu
  have hadd : (⟨w.heap.size, 0, none⟩ : Addr).add j = ⟨w.heap.size, j, none⟩ := by unfold Addr.add; split <;> simp_all
  rw [hadd]
  have := World.cell?_alloc_mark w c.toArray t (0, 0) j
  refine this.trans ?_
  simpa using hu
theorem Kept.own {a b : World} {v : Value} (h : a.grownBy b v.ownBlock) : Kept v.ownBlock.toList a b := Kept.grown h (fun k hk => by rw [hk]; simp)
theorem ownsRow_form {w : World} {base : Nat} {e : TypeId} {size : Nat} {v : Value} {n : Nat} {xs : List Value} (h : w.ownsRow base e size v n xs) : ∃ a c, v = .slice a n c := by
  rcases h.2 with ⟨rfl, rfl⟩ | ⟨g, cap, cur, rfl, _⟩
  · exact ⟨_, _, rfl⟩
  · exact ⟨_, _, rfl⟩
theorem row_cell {w : World} {base : Nat} {e : TypeId} {size n cap g : Nat} {xs : List Value} (h : w.ownsRow base e size (.slice (some ⟨g, 0, none⟩) n cap) n xs) {j : Nat} {u : Value} (hu : xs[j]? = some u) : w.cell? ⟨g, j, none⟩ = some u := by
  have := h.cells (g := g) rfl j u hu
  have hadd : (⟨g, 0, none⟩ : Addr).add j = ⟨g, j, none⟩ := by unfold Addr.add; split <;> simp_all
  rw [hadd] at this
  exact this
end Scrub
/- The plain mathematics of reading markup: starts, tokens. No program in it. -/
namespace Scrub
open Go
/-- The kinds of elements: 1 void, 2 raw, 3 block, 4 limit, 0 plain. -/
def kindP (n : List UInt8) : Int :=
  if n = [98, 114] ∨ n = [104, 114] ∨ n = [105, 109, 103] then 1
  else if n = [115, 116, 121, 108, 101] ∨ n = [115, 99, 114, 105, 112, 116] then 2
  else if n = [112] ∨ n = [100, 105, 118] ∨ n = [117, 108] ∨ n = [108, 105] ∨ n = [116, 97, 98, 108, 101] then 3
  else if n = [116, 100] then 4 else 0
/-- The attributes of a start, and what is left behind it; none: the markup ends within it. -/
def attrsF : Nat → List UInt8 → List (List UInt8 × List UInt8) → Option (List (List UInt8 × List UInt8) × List UInt8)
  | 0, _, _ => none
  | f + 1, r, al =>
    if (r.dropWhile blankSlashB).isEmpty then none
    else if ((r.dropWhile blankSlashB).headD 0).toNat = 62 then some (al, (r.dropWhile blankSlashB).drop 1)
    else if List.isPrefixOf [61] ((attrNameP (r.dropWhile blankSlashB)).2.dropWhile blankB) then
      if (valueP (((attrNameP (r.dropWhile blankSlashB)).2.dropWhile blankB).drop 1)).2.1 then
        attrsF f (valueP (((attrNameP (r.dropWhile blankSlashB)).2.dropWhile blankB).drop 1)).2.2 (withP al ((attrNameP (r.dropWhile blankSlashB)).1, (valueP (((attrNameP (r.dropWhile blankSlashB)).2.dropWhile blankB).drop 1)).1))
      else none
    else attrsF f ((attrNameP (r.dropWhile blankSlashB)).2.dropWhile blankB) (withP al ((attrNameP (r.dropWhile blankSlashB)).1, []))
def attrsP (r : List UInt8) (al : List (List UInt8 × List UInt8)) : Option (List (List UInt8 × List UInt8) × List UInt8) := attrsF (r.length + 1) r al
theorem cut_snd_le (l sep : List UInt8) : (Lib.cut l sep).2.1.length ≤ l.length := by
  unfold Lib.cut
  split
  · simp
  · simp
theorem valueP_le (r : List UInt8) : (valueP r).2.2.length ≤ r.length := by
  have h0 := dropWhile_le blankB r
  unfold valueP
  split
  · have := cut_snd_le ((r.dropWhile blankB).drop 1) ((r.dropWhile blankB).take 1)
    rw [List.length_drop] at this
    simp only
    omega
  · have := dropWhile_le (fun c => !endsValueB c) (r.dropWhile blankB)
    simp only
    omega
theorem attrsF_more : ∀ (n m : Nat) (r : List UInt8) (al : List (List UInt8 × List UInt8)), r.length < n → r.length < m → attrsF n r al = attrsF m r al
  | 0, _, _, _, h, _ => by omega
  | _ + 1, 0, _, _, _, h => by omega
  | n + 1, m + 1, r, al, hn, hm => by
    unfold attrsF
    have h0 := dropWhile_le blankSlashB r
    split
    · rfl
    · rename_i he
      have hne : r.dropWhile blankSlashB ≠ [] := by
        intro e
        rw [e] at he
        simp at he
      have h1 := attrNameP_lt hne
      have h2 := dropWhile_le blankB (attrNameP (r.dropWhile blankSlashB)).2
      split
      · rfl
      · split
        · split
          · have h3 := valueP_le (((attrNameP (r.dropWhile blankSlashB)).2.dropWhile blankB).drop 1)
            rw [List.length_drop] at h3
            exact attrsF_more n m _ _ (by omega) (by omega)
          · rfl
        · exact attrsF_more n m _ _ (by omega) (by omega)
/-- One round. -/
theorem attrsP_end {r : List UInt8} {al : List (List UInt8 × List UInt8)} {r1 : List UInt8} (e : r.dropWhile blankSlashB = r1) (h : r1 = []) : attrsP r al = none := by
  unfold attrsP attrsF
  rw [e, h]
  rfl
theorem attrsP_close {r : List UInt8} {al : List (List UInt8 × List UInt8)} {r1 : List UInt8} (e : r.dropWhile blankSlashB = r1) (h : r1 ≠ []) (h2 : (r1.headD 0).toNat = 62) : attrsP r al = some (al, r1.drop 1) := by
  unfold attrsP attrsF
  rw [e, if_neg (by cases r1 <;> simp_all), if_pos h2]
theorem attrsP_bare {r : List UInt8} {al : List (List UInt8 × List UInt8)} {r1 r3 : List UInt8} (e : r.dropWhile blankSlashB = r1) (h : r1 ≠ []) (h2 : (r1.headD 0).toNat ≠ 62) (e3 : (attrNameP r1).2.dropWhile blankB = r3) (h3 : List.isPrefixOf [61] r3 = false) :
    attrsP r al = attrsP r3 (withP al ((attrNameP r1).1, [])) := by
  have h0 := dropWhile_le blankSlashB r
  have h1 := attrNameP_lt h
  have h4 := dropWhile_le blankB (attrNameP r1).2
  rw [e] at h0
  rw [e3] at h4
  show attrsF (r.length + 1) r al = attrsF (r3.length + 1) r3 _
  rw [attrsF, e, if_neg (by cases r1 <;> simp_all), if_neg h2, e3, h3, if_neg (by decide)]
  exact attrsF_more _ _ _ _ (by omega) (by omega)
theorem attrsP_value {r : List UInt8} {al : List (List UInt8 × List UInt8)} {r1 r3 : List UInt8} (e : r.dropWhile blankSlashB = r1) (h : r1 ≠ []) (h2 : (r1.headD 0).toNat ≠ 62) (e3 : (attrNameP r1).2.dropWhile blankB = r3) (h3 : List.isPrefixOf [61] r3 = true) (h5 : (valueP (r3.drop 1)).2.1 = true) :
    attrsP r al = attrsP (valueP (r3.drop 1)).2.2 (withP al ((attrNameP r1).1, (valueP (r3.drop 1)).1)) := by
  have h0 := dropWhile_le blankSlashB r
  have h1 := attrNameP_lt h
  have h4 := dropWhile_le blankB (attrNameP r1).2
  have h6 := valueP_le (r3.drop 1)
  rw [e] at h0
  rw [e3] at h4
  rw [List.length_drop] at h6
  show attrsF (r.length + 1) r al = attrsF ((valueP (r3.drop 1)).2.2.length + 1) _ _
  rw [attrsF, e, if_neg (by cases r1 <;> simp_all), if_neg h2, e3, h3, if_pos rfl, h5, if_pos rfl]
  exact attrsF_more _ _ _ _ (by omega) (by omega)
theorem attrsP_torn {r : List UInt8} {al : List (List UInt8 × List UInt8)} {r1 r3 : List UInt8} (e : r.dropWhile blankSlashB = r1) (h : r1 ≠ []) (h2 : (r1.headD 0).toNat ≠ 62) (e3 : (attrNameP r1).2.dropWhile blankB = r3) (h3 : List.isPrefixOf [61] r3 = true) (h5 : (valueP (r3.drop 1)).2.1 = false) :
    attrsP r al = none := by
  show attrsF (r.length + 1) r al = none
  rw [attrsF, e, if_neg (by cases r1 <;> simp_all), if_neg h2, e3, h3, if_pos rfl, h5, if_neg (by decide)]
/-- A start: its name, its attributes, its raw text, what is left; none: the markup ends within it. -/
def startP (r : List UInt8) : Option (List UInt8 × List (List UInt8 × List UInt8) × List UInt8 × List UInt8) :=
  match attrsP ((r.drop 1).dropWhile nameB) [] with
  | none => none
  | some (al, r3) =>
    if kindP (small ((r.drop 1).takeWhile nameB)) = 2 then some (small ((r.drop 1).takeWhile nameB), al, (rawP (small ((r.drop 1).takeWhile nameB)) r3).1, (rawP (small ((r.drop 1).takeWhile nameB)) r3).2)
    else some (small ((r.drop 1).takeWhile nameB), al, [], r3)
theorem withP_le (al : List (List UInt8 × List UInt8)) (a : List UInt8 × List UInt8) : (withP al a).length ≤ al.length + 1 := by
  unfold withP
  split
  · omega
  · simp
end Scrub
/- The plain mathematics of reading markup: the next token. No program in it. -/
namespace Scrub
open Go
/-- The next token (its sort, its name, its attributes, its text) and what is left; none: nothing more comes. -/
def nextF : Nat → List UInt8 → Option ((Int × List UInt8 × List (List UInt8 × List UInt8) × List UInt8) × List UInt8)
  | 0, _ => none
  | f + 1, r =>
    if r.isEmpty then none
    else if beginsP r = -1 then nextF f (Lib.cut (r.drop 4) [45, 45, 62]).2.1
    else if beginsP r = 2 then (if (endP r).1 then some ((2, (endP r).2.1, [], []), (endP r).2.2) else nextF f (endP r).2.2)
    else if beginsP r = 1 then (match startP r with | none => none | some (nm, al, tx, rest) => some ((1, nm, al, tx), rest))
    else some ((0, [], [], signs (textP r).1), (textP r).2)
def nextP (r : List UInt8) : Option ((Int × List UInt8 × List (List UInt8 × List UInt8) × List UInt8) × List UInt8) := nextF (r.length + 1) r
theorem comment_lt (r : List UInt8) (h : r ≠ []) : (Lib.cut (r.drop 4) [45, 45, 62]).2.1.length < r.length := by
  have h1 := cut_snd_le (r.drop 4) [45, 45, 62]
  have h2 : 0 < r.length := List.length_pos_iff.2 h
  rw [List.length_drop] at h1
  omega
theorem endP_lt (r : List UInt8) (h : r ≠ []) : (endP r).2.2.length < r.length := by
  have h1 := cut_snd_le ((r.drop 2).dropWhile nameB) [62]
  have h3 := dropWhile_le nameB (r.drop 2)
  have h2 : 0 < r.length := List.length_pos_iff.2 h
  rw [List.length_drop] at h3
  show (Lib.cut ((r.drop 2).dropWhile nameB) [62]).2.1.length < _
  omega
theorem nextF_more : ∀ (n m : Nat) (r : List UInt8), r.length < n → r.length < m → nextF n r = nextF m r
  | 0, _, _, h, _ => by omega
  | _ + 1, 0, _, _, h => by omega
  | n + 1, m + 1, r, hn, hm => by
    unfold nextF
    split
    · rfl
    · rename_i he
      have hne : r ≠ [] := by intro e; rw [e] at he; simp at he
      have h1 := comment_lt r hne
      have h2 := endP_lt r hne
      split
      · exact nextF_more n m _ (by omega) (by omega)
      · split
        · split
          · rfl
          · exact nextF_more n m _ (by omega) (by omega)
        · rfl
theorem nextP_nil : nextP [] = none := rfl
theorem nextP_comment {r : List UInt8} (h : r ≠ []) (hb : beginsP r = -1) : nextP r = nextP (Lib.cut (r.drop 4) [45, 45, 62]).2.1 := by
  have h1 := comment_lt r h
  show nextF (r.length + 1) r = nextF _ _
  rw [nextF, if_neg (by cases r <;> simp_all), if_pos hb]
  exact nextF_more _ _ _ (by omega) (by omega)
theorem nextP_end {r : List UInt8} (h : r ≠ []) (hb : beginsP r = 2) : nextP r = if (endP r).1 then some ((2, (endP r).2.1, [], []), (endP r).2.2) else nextP (endP r).2.2 := by
  have h1 := endP_lt r h
  show nextF (r.length + 1) r = _
  rw [nextF, if_neg (by cases r <;> simp_all), if_neg (by omega), if_pos hb]
  split
  · rfl
  · exact nextF_more _ _ _ (by omega) (by omega)
theorem nextP_start {r : List UInt8} (h : r ≠ []) (hb : beginsP r = 1) : nextP r = (match startP r with | none => none | some (nm, al, tx, rest) => some ((1, nm, al, tx), rest)) := by
  show nextF (r.length + 1) r = _
  rw [nextF, if_neg (by cases r <;> simp_all), if_neg (by omega), if_neg (by omega), if_pos hb]
theorem nextP_text {r : List UInt8} (h : r ≠ []) (hb : beginsP r = 0) : nextP r = some ((0, [], [], signs (textP r).1), (textP r).2) := by
  show nextF (r.length + 1) r = _
  rw [nextF, if_neg (by cases r <;> simp_all), if_neg (by omega), if_neg (by omega), if_neg (by omega)]
theorem beginsP_cases (r : List UInt8) : beginsP r = -1 ∨ beginsP r = 2 ∨ beginsP r = 1 ∨ beginsP r = 0 := by
  unfold beginsP
  repeat' split
  all_goals simp
theorem begins_comment_len {r : List UInt8} (hb : beginsP r = -1) : 4 ≤ r.length := by
  unfold beginsP at hb
  split at hb
  · omega
  · split at hb
    · rename_i h; exact isPrefixOf_len h
    · split at hb
      · omega
      · split at hb <;> omega
theorem begins_end_len {r : List UInt8} (hb : beginsP r = 2) : 2 ≤ r.length := by
  unfold beginsP at hb
  split at hb
  · omega
  · split at hb
    · omega
    · split at hb
      · omega
      · split at hb
        · rename_i h; omega
        · omega
end Scrub
/- The plain mathematics of reading markup: how much a token takes. No program in it. -/
namespace Scrub
open Go
theorem runP_split (stop : List UInt8 → Bool) : ∀ l, (runP stop l).1 ++ (runP stop l).2 = l
  | [] => rfl
  | c :: t => by
    unfold runP
    split
    · rfl
    · simp [runP_split stop t]
theorem runP_len (stop : List UInt8 → Bool) (l : List UInt8) : (runP stop l).1.length + (runP stop l).2.length = l.length := by
  have := congrArg List.length (runP_split stop l)
  simpa using this
theorem textP_ne {r : List UInt8} (h : r ≠ []) (hb : beginsP r = 0) : (textP r).1 ≠ [] := by
  cases r with
  | nil => exact absurd rfl h
  | cons c t => simp [textP, runP, hb]
theorem signs_ne {l : List UInt8} (h : l ≠ []) : signs l ≠ [] := by
  rw [signs_cons l h]
  simp
theorem attrsF_lt : ∀ (f : Nat) (r : List UInt8) (al al' : List (List UInt8 × List UInt8)) (r' : List UInt8), attrsF f r al = some (al', r') → r'.length < r.length
  | 0, _, _, _, _, h => by simp [attrsF] at h
  | f + 1, r, al, al', r', h => by
    unfold attrsF at h
    have h0 := dropWhile_le blankSlashB r
    split at h
    · cases h
    · rename_i he
      have hne : r.dropWhile blankSlashB ≠ [] := by
        intro e
        rw [e] at he
        simp at he
      have h1 := attrNameP_lt hne
      have h2 := dropWhile_le blankB (attrNameP (r.dropWhile blankSlashB)).2
      have hp : 0 < (r.dropWhile blankSlashB).length := List.length_pos_iff.2 hne
      split at h
      · injection h with h
        injection h with _ h
        rw [← h, List.length_drop]
        omega
      · split at h
        · split at h
          · have h3 := valueP_le (((attrNameP (r.dropWhile blankSlashB)).2.dropWhile blankB).drop 1)
            rw [List.length_drop] at h3
            have := attrsF_lt f _ _ _ _ h
            omega
          · cases h
        · have := attrsF_lt f _ _ _ _ h
          omega
theorem startP_len {r : List UInt8} {nm : List UInt8} {al : List (List UInt8 × List UInt8)} {tx rest : List UInt8} (h : startP r = some (nm, al, tx, rest)) : tx.length + rest.length < r.length := by
  unfold startP at h
  have h0 := dropWhile_le nameB (r.drop 1)
  rw [List.length_drop] at h0
  split at h
  · cases h
  · rename_i al' r3 ha
    have h1 := attrsF_lt _ _ _ _ _ ha
    split at h
    · injection h with h
      simp only [Prod.mk.injEq] at h
      obtain ⟨_, _, h3, h4⟩ := h
      have h5 := runP_len (fun x => endsRawP x (small ((r.drop 1).takeWhile nameB))) r3
      rw [← h3, ← h4]
      unfold rawP
      omega
    · injection h with h
      simp only [Prod.mk.injEq] at h
      obtain ⟨_, _, h3, h4⟩ := h
      rw [← h3, ← h4]
      simp
      omega
theorem begins_name {r : List UInt8} (hb : beginsP r = 1) : ∃ c d t, r = c :: d :: t ∧ letB d = true := by
  unfold beginsP at hb
  split at hb
  · omega
  · split at hb
    · omega
    · split at hb
      · rename_i h
        match r, h with
        | c :: d :: t, h => exact ⟨c, d, t, rfl, by simpa using h.2⟩
        | [c], h => simp at h
        | [], h => simp at h
      · split at hb <;> omega
theorem begins_endname {r : List UInt8} (hb : beginsP r = 2) : ∃ c e d t, r = c :: e :: d :: t ∧ letB d = true := by
  unfold beginsP at hb
  split at hb
  · omega
  · split at hb
    · omega
    · split at hb
      · omega
      · split at hb
        · rename_i h
          match r, h with
          | c :: e :: d :: t, h => exact ⟨c, e, d, t, rfl, by simpa using h.2.2⟩
          | [c, d], h => simp at h
          | [c], h => simp at h
          | [], h => simp at h
        · omega
theorem small_ne {l : List UInt8} (h : l ≠ []) : small l ≠ [] := by
  unfold small
  simpa using h
theorem nameB_of_let {c : UInt8} (h : letB c = true) : nameB c = true := by simp [nameB, h]
/-- What a token holds, and how much it takes. -/
structure TokOk (r : List UInt8) (s : Int) (nm : List UInt8) (al : List (List UInt8 × List UInt8)) (tx rest : List UInt8) : Prop where
  lt : rest.length < r.length
  len : tx.length + rest.length ≤ r.length
  kind : (s = 0 ∧ nm = [] ∧ al = [] ∧ tx ≠ []) ∨ (s = 1 ∧ nm ≠ []) ∨ (s = 2 ∧ nm ≠ [] ∧ al = [] ∧ tx = [])
theorem nextF_ok : ∀ (f : Nat) (r : List UInt8) (s : Int) (nm : List UInt8) (al : List (List UInt8 × List UInt8)) (tx rest : List UInt8), nextF f r = some ((s, nm, al, tx), rest) → TokOk r s nm al tx rest
  | 0, _, _, _, _, _, _, h => by simp [nextF] at h
  | f + 1, r, s, nm, al, tx, rest, h => by
    unfold nextF at h
    split at h
    · cases h
    · rename_i he
      have hne : r ≠ [] := by intro e; rw [e] at he; simp at he
      split at h
      · have h1 := comment_lt r hne
        have ih := nextF_ok f _ _ _ _ _ _ h
        exact ⟨by have := ih.lt; omega, by have := ih.len; omega, ih.kind⟩
      · split at h
        · rename_i hb
          have h1 := endP_lt r hne
          split at h
          · injection h with h
            simp only [Prod.mk.injEq] at h
            obtain ⟨⟨rfl, rfl, rfl, rfl⟩, rfl⟩ := h
            obtain ⟨c, e, d, t, rfl, hd⟩ := begins_endname hb
            refine ⟨h1, by simp only [List.length_nil]; omega, .inr (.inr ⟨rfl, ?_, rfl, rfl⟩)⟩
            show small (((c :: e :: d :: t).drop 2).takeWhile nameB) ≠ []
            refine small_ne ?_
            simp [nameB_of_let hd]
          · have ih := nextF_ok f _ _ _ _ _ _ h
            exact ⟨by have := ih.lt; omega, by have := ih.len; omega, ih.kind⟩
        · split at h
          · rename_i hb
            split at h
            · cases h
            · rename_i nm' al' tx' rest' hs
              injection h with h
              simp only [Prod.mk.injEq] at h
              obtain ⟨⟨rfl, rfl, rfl, rfl⟩, rfl⟩ := h
              have hl := startP_len hs
              refine ⟨by omega, by omega, .inr (.inl ⟨rfl, ?_⟩)⟩
              obtain ⟨c, d, t, rfl, hd⟩ := begins_name hb
              have hnm : nm' = small (((c :: d :: t).drop 1).takeWhile nameB) := by
                unfold startP at hs
                split at hs
                · cases hs
                · split at hs
                  · injection hs with hs
                    simp only [Prod.mk.injEq] at hs
                    exact hs.1.symm
                  · injection hs with hs
                    simp only [Prod.mk.injEq] at hs
                    exact hs.1.symm
              rw [hnm]
              refine small_ne ?_
              simp [nameB_of_let hd]
          · rename_i hb1 hb2 hb3
            have hb : beginsP r = 0 := by
              rcases beginsP_cases r with h1 | h1 | h1 | h1
              · exact absurd h1 hb1
              · exact absurd h1 hb2
              · exact absurd h1 hb3
              · exact h1
            injection h with h
            simp only [Prod.mk.injEq] at h
            obtain ⟨⟨rfl, rfl, rfl, rfl⟩, rfl⟩ := h
            have hn := textP_ne hne hb
            have hl := runP_len (fun x => beginsP x != 0) r
            have hs := signs_length _ (textP r).1 (Nat.le_refl _)
            have hp : 0 < (textP r).1.length := List.length_pos_iff.2 hn
            refine ⟨?_, ?_, .inl ⟨rfl, rfl, rfl, signs_ne hn⟩⟩
            · unfold textP at hp ⊢
              omega
            · unfold textP at hs ⊢
              omega
theorem nextP_ok {r : List UInt8} {s : Int} {nm : List UInt8} {al : List (List UInt8 × List UInt8)} {tx rest : List UInt8} (h : nextP r = some ((s, nm, al, tx), rest)) : TokOk r s nm al tx rest := nextF_ok _ _ _ _ _ _ _ h
end Scrub
