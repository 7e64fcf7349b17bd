import Derived.Test.YtlpmjpmefdpcmaaGreatDoorQRt7
import Derived.Test.YtlpmjpmefdpcmaaGreatDoorQLies
/- How much there is in a tree that is read. No function of the program in it. -/
namespace Scrub
open Go
theorem valueP_len (r : List UInt8) : (valueP r).1.length + (valueP r).2.2.length ≤ r.length := by
  have h0 := dropWhile_le blankB r
  unfold valueP
  split
  · have h1 := signs_length _ (Lib.cut ((r.dropWhile blankB).drop 1) ((r.dropWhile blankB).take 1)).1 (Nat.le_refl _)
    have h2 : (Lib.cut ((r.dropWhile blankB).drop 1) ((r.dropWhile blankB).take 1)).1.length + (Lib.cut ((r.dropWhile blankB).drop 1) ((r.dropWhile blankB).take 1)).2.1.length ≤ ((r.dropWhile blankB).drop 1).length := by
      unfold Lib.cut
      split
      · simp only [List.length_take, List.length_drop]
        omega
      · simp
    rw [List.length_drop] at h2
    simp only
    omega
  · have h1 := signs_length _ ((r.dropWhile blankB).takeWhile (fun c => !endsValueB c)) (Nat.le_refl _)
    have h2 : ((r.dropWhile blankB).takeWhile (fun c => !endsValueB c)).length + ((r.dropWhile blankB).dropWhile (fun c => !endsValueB c)).length = (r.dropWhile blankB).length := by
      rw [← List.length_append, List.takeWhile_append_dropWhile]
    simp only
    omega
theorem attrNameP_len {r : List UInt8} (h : r ≠ []) : (attrNameP r).1.length + (attrNameP r).2.length = r.length ∧ 1 ≤ (attrNameP r).1.length := by
  cases r with
  | nil => exact absurd rfl h
  | cons c t =>
    have h2 : (t.takeWhile (fun c => !endsAttrB c)).length + (t.dropWhile (fun c => !endsAttrB c)).length = t.length := by
      rw [← List.length_append, List.takeWhile_append_dropWhile]
    have e1 : (attrNameP (c :: t)).1.length = 1 + (t.takeWhile (fun c => !endsAttrB c)).length := by simp [attrNameP, small]; omega
    have e2 : (attrNameP (c :: t)).2.length = (t.dropWhile (fun c => !endsAttrB c)).length := rfl
    rw [e1, e2, List.length_cons]
    omega
theorem bulkA_append (a b : List (List UInt8 × List UInt8)) : bulkA (a ++ b) = bulkA a + bulkA b := by
  induction a with
  | nil => simp [bulkA]
  | cons x t ih =>
    show x.1.length + x.2.length + 1 + bulkA (t ++ b) = x.1.length + x.2.length + 1 + bulkA t + bulkA b
    omega
theorem bulkA_with (al : List (List UInt8 × List UInt8)) (a : List UInt8 × List UInt8) : bulkA (withP al a) ≤ bulkA al + (a.1.length + a.2.length + 1) := by
  unfold withP
  split
  · omega
  · rw [bulkA_append]
    show _ + (a.1.length + a.2.length + 1 + 0) ≤ _
    omega
theorem attrsF_bulk : ∀ (f : Nat) (r : List UInt8) (al al' : List (List UInt8 × List UInt8)) (r' : List UInt8), attrsF f r al = some (al', r') → bulkA al' + 2 * r'.length ≤ bulkA al + 2 * r.length
  | 0, _, _, _, _, h => by simp [attrsF] at h
  | f + 1, r, al, al', r', h => by
    unfold attrsF at h
    have h0 := dropWhile_le blankSlashB r
    split at h
    · cases h
    · rename_i he
      have hne : r.dropWhile blankSlashB ≠ [] := by
        intro e
        rw [e] at he
        simp at he
      obtain ⟨n1, n2⟩ := attrNameP_len hne
      have h2 := dropWhile_le blankB (attrNameP (r.dropWhile blankSlashB)).2
      split at h
      · injection h with h
        simp only [Prod.mk.injEq] at h
        obtain ⟨rfl, rfl⟩ := h
        rw [List.length_drop]
        omega
      · split at h
        · rename_i hp
          split at h
          · have h3 := valueP_len (((attrNameP (r.dropWhile blankSlashB)).2.dropWhile blankB).drop 1)
            rw [List.length_drop] at h3
            have hpl := isPrefixOf_len hp
            have h4 := attrsF_bulk f _ _ _ _ h
            have h5 := bulkA_with al ((attrNameP (r.dropWhile blankSlashB)).1, (valueP (((attrNameP (r.dropWhile blankSlashB)).2.dropWhile blankB).drop 1)).1)
            simp only at h5
            simp at hpl
            omega
          · cases h
        · have h4 := attrsF_bulk f _ _ _ _ h
          have h5 := bulkA_with al ((attrNameP (r.dropWhile blankSlashB)).1, [])
          simp only [List.length_nil] at h5
          omega
theorem name_len (r : List UInt8) : (small (r.takeWhile nameB)).length + (r.dropWhile nameB).length = r.length := by
  have e : (small (r.takeWhile nameB)).length = (r.takeWhile nameB).length := by simp [small]
  rw [e, ← List.length_append, List.takeWhile_append_dropWhile]
theorem startP_bulk {r nm : List UInt8} {al : List (List UInt8 × List UInt8)} {tx rest : List UInt8} (h : startP r = some (nm, al, tx, rest)) : nm.length + bulkA al + tx.length + 2 * rest.length ≤ 2 * r.length := by
  unfold startP at h
  have h0 := name_len (r.drop 1)
  rw [List.length_drop] at h0
  split at h
  · cases h
  · rename_i al' r3 ha
    have h1 := attrsF_bulk _ _ _ _ _ ha
    have e0 : bulkA ([] : List (List UInt8 × List UInt8)) = 0 := rfl
    split at h
    · injection h with h
      simp only [Prod.mk.injEq] at h
      obtain ⟨rfl, rfl, rfl, rfl⟩ := h
      have h5 := runP_len (fun x => endsRawP x (small ((r.drop 1).takeWhile nameB))) r3
      unfold rawP
      omega
    · injection h with h
      simp only [Prod.mk.injEq] at h
      obtain ⟨rfl, rfl, rfl, rfl⟩ := h
      simp only [List.length_nil]
      omega
theorem nextF_bulk : ∀ (f : Nat) (r : List UInt8) (s : Int) (nm : List UInt8) (al : List (List UInt8 × List UInt8)) (tx rest : List UInt8), nextF f r = some ((s, nm, al, tx), rest) → s = 1 → nm.length + bulkA al + tx.length + 2 * rest.length ≤ 2 * r.length
  | 0, _, _, _, _, _, _, h, _ => by simp [nextF] at h
  | f + 1, r, s, nm, al, tx, rest, h, hs => by
    unfold nextF at h
    split at h
    · cases h
    · rename_i he
      have hne : r ≠ [] := by intro e; rw [e] at he; simp at he
      split at h
      · have h1 := comment_lt r hne
        have := nextF_bulk f _ _ _ _ _ _ h hs
        omega
      · split at h
        · have h1 := endP_lt r hne
          split at h
          · injection h with h
            simp only [Prod.mk.injEq] at h
            obtain ⟨⟨rfl, _⟩, _⟩ := h
            omega
          · have := nextF_bulk f _ _ _ _ _ _ h hs
            omega
        · split at h
          · split at h
            · cases h
            · rename_i nm' al' tx' rest' hsp
              injection h with h
              simp only [Prod.mk.injEq] at h
              obtain ⟨⟨rfl, rfl, rfl, rfl⟩, rfl⟩ := h
              exact startP_bulk hsp
          · injection h with h
            simp only [Prod.mk.injEq] at h
            obtain ⟨⟨rfl, _⟩, _⟩ := h
            omega
end Scrub
namespace Go.Proofs.YtlpmjpmefdpcmaaGreatDoor
open Go.RowKit Scrub Go.Shelf
/-- How much there is in events. -/
def evBulk : List Ev → Nat
  | [] => 0
  | some (.inl t) :: r => t.length + 1 + evBulk r
  | some (.inr (n, al)) :: r => n.length + bulkA al + 1 + evBulk r
  | none :: r => evBulk r
theorem evBulk_append : ∀ a b : List Ev, evBulk (a ++ b) = evBulk a + evBulk b
  | [], b => by simp [evBulk]
  | some (.inl t) :: r, b => by
    have := evBulk_append r b
    simp only [List.cons_append, evBulk]
    omega
  | none :: r, b => by
    have := evBulk_append r b
    simp only [List.cons_append, evBulk]
    omega
  | some (.inr x) :: r, b => by
    have := evBulk_append r b
    obtain ⟨n, al⟩ := x
    simp only [List.cons_append, evBulk]
    omega
theorem evBulk_none (n : Nat) : evBulk (List.replicate n none) = 0 := by
  induction n with
  | zero => rfl
  | succ n ih => simp [List.replicate_succ, evBulk, ih]
theorem bulkF_ev : ∀ (d : Nat) (f : GF d), niceF d f → bulkF d f = evBulk (evF d f)
  | 0, _, _ => rfl
  | d + 1, f, h => by
    have ih := bulkF_ev d
    show (gnodes d f).foldr (fun n m => bulkN (bulkF d) n + m) 0 = evBulk ((gnodes d f).flatMap (evN (evF d)))
    have hni : ∀ x ∈ gnodes d f, niceN (niceF d) x := h
    generalize gnodes d f = l at hni
    induction l with
    | nil => rfl
    | cons x y ihl =>
      obtain ⟨x1, x2, x3⟩ := hni x (by simp)
      have h1 := ihl (fun z hz => hni z (by simp [hz]))
      rw [List.flatMap_cons, evBulk_append, ← h1]
      show bulkN (bulkF d) x + _ = _
      congr 1
      unfold bulkN
      rw [ih x.2.2.1 x3]
      by_cases hx : x.1 = []
      · obtain ⟨t1, t2, t3⟩ := x1 hx
        have e : evF d x.2.2.1 = [] := by
          cases d with
          | zero => rfl
          | succ d =>
            have e : gnodes d x.2.2.1 = [] := List.eq_nil_of_length_eq_zero t3
            show (gnodes d x.2.2.1).flatMap _ = []
            rw [e]
            rfl
        simp only [evN, hx, if_true, t2, e, evBulk, bulkA, List.foldr_nil, List.length_nil]
        omega
      · simp only [evN, hx, if_false, List.cons_append, evBulk, evBulk_append, x2 hx, List.length_nil]
        omega
theorem closeE_bulk (E : List Ev) (st : List (List UInt8)) (p : Nat) : evBulk (closeE E st p) = evBulk E := by
  rw [closeE, evBulk_append, evBulk_none]
  rfl
theorem pushP_bulk (E : List Ev) (st : List (List UInt8)) (n : List UInt8) (al : List (List UInt8 × List UInt8)) : evBulk (pushP E st n al).1 ≤ evBulk E + (n.length + bulkA al + 1) := by
  unfold pushP
  split
  · rw [evBulk_append]
    simp [evBulk]
  · simp only
    omega
theorem rowP_bulk (E : List Ev) (st : List (List UInt8)) (al : List (List UInt8 × List UInt8)) : evBulk (rowP E st al).1 ≤ evBulk E + (bulkA al + 3) := by
  unfold rowP
  split
  · simp only
    omega
  · have := pushP_bulk (closeE E st (lastIdx (fun m => m == [116, 97, 98, 108, 101]) st + 1).toNat) (st.take (lastIdx (fun m => m == [116, 97, 98, 108, 101]) st + 1).toNat) [116, 114] al
    rw [closeE_bulk] at this
    simp at this
    omega
theorem cellP_bulk (E : List Ev) (st : List (List UInt8)) (al : List (List UInt8 × List UInt8)) : evBulk (cellP E st al).1 ≤ evBulk E + (bulkA al + 6) := by
  unfold cellP
  split
  · simp only
    omega
  · have h1 := pushP_bulk (cellAhead E st).1 (cellAhead E st).2 [116, 100] al
    have h2 : evBulk (cellAhead E st).1 ≤ evBulk E + 3 := by
      unfold cellAhead
      split
      · simp only
        rw [closeE_bulk]
        omega
      · have := rowP_bulk E st []
        simp [bulkA] at this
        exact this
    simp at h1
    omega
theorem openP_bulk (E : List Ev) (st : List (List UInt8)) : evBulk (openP E st).1 ≤ evBulk E + 6 := by
  unfold openP
  split
  · have := cellP_bulk E st []
    simp [bulkA] at this
    exact this
  · simp only
    omega
theorem addText_bulk (E : List Ev) (t : List UInt8) : evBulk (addText E t) ≤ evBulk E + (t.length + 1) := by
  rcases addText_cases E t with ⟨E0, t0, h1, h2⟩ | h
  · rw [h2, h1, evBulk_append, evBulk_append]
    simp [evBulk]
    omega
  · rw [h, evBulk_append]
    simp [evBulk]
theorem paraK_bulk (k : Int) (o : St) : evBulk (paraK k o).1 = evBulk o.1 := by
  unfold paraK
  split
  · unfold paraP
    split
    · exact closeE_bulk _ _ _
    · rfl
  · rfl
theorem itemK_bulk (n : List UInt8) (o : St) : evBulk (itemK n o).1 = evBulk o.1 := by
  unfold itemK
  split
  · unfold itemP
    split
    · exact closeE_bulk _ _ _
    · rfl
  · rfl
theorem otherP_bulk (E : List Ev) (st : List (List UInt8)) (n : List UInt8) (al : List (List UInt8 × List UInt8)) (tx : List UInt8) : evBulk (otherP E st n al tx).1 ≤ evBulk E + (n.length + bulkA al + tx.length + 14) := by
  have h1 := openP_bulk E st
  unfold otherP
  have e : evBulk (itemK n (paraK (kindP n) (openP E st))).1 = evBulk (openP E st).1 := by rw [itemK_bulk, paraK_bulk]
  generalize itemK n (paraK (kindP n) (openP E st)) = o3 at e
  rw [tailP_eq]
  split
  · have h2 := pushP_bulk o3.1 o3.2 n al
    have h3 : evBulk (putT (pushP o3.1 o3.2 n al) tx).1 ≤ evBulk (pushP o3.1 o3.2 n al).1 + (tx.length + 7) := by
      unfold putT
      split
      · omega
      · have h4 := openP_bulk (pushP o3.1 o3.2 n al).1 (pushP o3.1 o3.2 n al).2
        have h5 := addText_bulk (openP (pushP o3.1 o3.2 n al).1 (pushP o3.1 o3.2 n al).2).1 tx
        simp only
        omega
    have h6 : evBulk (voidK (kindP n) (putT (pushP o3.1 o3.2 n al) tx)).1 = evBulk (putT (pushP o3.1 o3.2 n al) tx).1 := by
      unfold voidK
      split
      · exact closeE_bulk _ _ _
      · rfl
    rw [h6]
    omega
  · simp only
    omega
theorem step_bulk {o : St} {r : List UInt8} {s : Int} {nm : List UInt8} {al : List (List UInt8 × List UInt8)} {tx rest : List UInt8} (hx : nextP r = some ((s, nm, al, tx), rest)) : evBulk (stepT o s nm al tx).1 + 20 * rest.length ≤ evBulk o.1 + 20 * r.length := by
  have hok := nextP_ok hx
  have hlt := hok.lt
  have hlen := hok.len
  rcases hok.kind with ⟨rfl, rfl, rfl, htx⟩ | ⟨rfl, hnm⟩ | ⟨rfl, hnm, rfl, rfl⟩
  · have h1 := openP_bulk o.1 o.2
    have h2 := addText_bulk (openP o.1 o.2).1 tx
    show evBulk (addText (openP o.1 o.2).1 tx) + _ ≤ _
    omega
  · have hb := nextF_bulk _ _ _ _ _ _ _ hx rfl
    show evBulk (startT o.1 o.2 nm al tx).1 + _ ≤ _
    unfold startT
    split
    · have := rowP_bulk o.1 o.2 al
      omega
    · split
      · have := cellP_bulk o.1 o.2 al
        omega
      · have := otherP_bulk o.1 o.2 nm al tx
        omega
  · show evBulk (endE o.1 o.2 nm).1 + _ ≤ _
    unfold endE
    split
    · simp only
      omega
    · simp only
      rw [closeE_bulk]
      omega
theorem readF_bulk : ∀ (f : Nat) (r : List UInt8) (o : St), evBulk (readF f r o).1 ≤ evBulk o.1 + 20 * r.length
  | 0, r, o => by
    show evBulk o.1 ≤ _
    omega
  | f + 1, r, o => by
    unfold readF
    split
    · omega
    · rename_i s nm al tx rest hx
      have h1 := readF_bulk f rest (stepT o s nm al tx)
      have h2 := step_bulk (o := o) hx
      omega
theorem readP_bulk (r : List UInt8) : evBulk (readP r) ≤ 20 * r.length := by
  unfold readP
  rw [closeE_bulk]
  have := readF_bulk (r.length + 1) r ([], [])
  simp [evBulk] at this
  exact this
end Go.Proofs.YtlpmjpmefdpcmaaGreatDoor
