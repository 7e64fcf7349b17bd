import Derived.Test.YtlpmjpmefdpcmaaDoorQRt8
import Derived.Test.YtlpmjpmefdpcmaaDoorQBulk
/- The tree that Plain builds: it may be written, and what is written is read as it. No program in it. -/
namespace Go.Proofs.YtlpmjpmefdpcmaaDoor
open Go.RowKit Scrub Go.Shelf
/-- The tree that Plain builds. -/
def plG (t n v : List UInt8) : GF 2 := [([], [], ([] : GF 1), t), (n, [([120], v)], ([([], [], (), t)] : GF 1), []), ([98, 114], [], ([] : GF 1), [])]
def plI (t n v : List UInt8) : List Item := [iText t, iStart n [([120], v)] [], iText t, iEnd n, iStart [98, 114] [] []]
/-- Small letters behind a k. -/
def PlName (n : List UInt8) : Prop := ∃ l : List UInt8, n = 107 :: l ∧ ∀ c ∈ l, 97 ≤ c.toNat ∧ c.toNat ≤ 122
theorem PlName.kind {n : List UInt8} (h : PlName n) : kindP n = 0 := by
  obtain ⟨l, rfl, _⟩ := h
  simp [kindP]
theorem PlName.name {n : List UInt8} (h : PlName n) : isNameP n = true := by
  obtain ⟨l, rfl, hl⟩ := h
  have h1 : small l = l := by
    unfold small
    conv => rhs; rw [← List.map_id l]
    apply List.map_congr_left
    intro c hc
    obtain ⟨a, b⟩ := hl c hc
    exact smallB_out c (by omega)
  have h2 : l.all nameB = true := by
    rw [List.all_eq_true]
    intro c hc
    obtain ⟨a, b⟩ := hl c hc
    simp [nameB, letB, a, b]
  have h3 : small (107 :: l) = 107 :: l := by
    show smallB 107 :: small l = _
    rw [h1]
    rfl
  unfold isNameP
  rw [h3]
  simp [letB, nameB, h2]
theorem PlName.ne {n : List UInt8} (h : PlName n) (c : UInt8) (t : List UInt8) (hc : c ≠ 107) : n ≠ c :: t := by
  obtain ⟨l, rfl, _⟩ := h
  intro e
  injection e with e
  exact hc e.symm
theorem start_plain {E : List Ev} {st : List (List UInt8)} {n : List UInt8} {al : List (List UInt8 × List UInt8)} (hst : NotHolds st) (hl : st.length < 12) (h1 : n ≠ nTr) (h2 : n ≠ nTd) (h3 : n ≠ nLi) (hk : kindP n ≠ 3) :
    startT E st n al [] = stepI (E, st) (iStart n al []) := by
  unfold startT
  rw [if_neg h1, if_neg h2]
  unfold otherP
  rw [open_noop hst]
  have e1 : paraK (kindP n) (E, st) = (E, st) := by rw [paraK, if_neg hk]
  have e2 : itemK n (E, st) = (E, st) := by rw [itemK, if_neg h3]
  rw [e1, e2]
  exact tail_step hl (fun _ => rfl)
theorem small_nil : ([] : List (List UInt8)).length < 12 := by decide
theorem top_nil : topKind [] ≠ 2 := by decide
theorem notHolds_nil : NotHolds [] := by intro n hn; simp at hn
theorem plG_nice {t n : List UInt8} (v : List UInt8) (ht : t ≠ []) (hn : n ≠ []) : niceF 2 (plG t n v) := by
  intro x hx
  simp only [gnodes, plG, List.mem_cons, List.not_mem_nil, or_false] at hx
  rcases hx with rfl | rfl | rfl
  · exact ⟨fun _ => ⟨ht, rfl, rfl⟩, fun h => absurd rfl h, by intro n hn; simp [gnodes] at hn⟩
  · refine ⟨fun h => absurd h hn, fun _ => rfl, ?_⟩
    intro x hx
    simp only [gnodes, List.mem_cons, List.not_mem_nil, or_false] at hx
    subst hx
    exact ⟨fun _ => ⟨ht, rfl, rfl⟩, fun h => absurd rfl h, trivial⟩
  · exact ⟨fun h => by simp at h, fun _ => rfl, by intro n hn; simp [gnodes] at hn⟩
theorem kind_br : kindP [98, 114] = 1 := by decide
theorem plG_ev {n : List UInt8} (t v : List UInt8) (hn : PlName n) : evF 2 (plG t n v) = (plI t n v).flatMap itemEv := by
  have h0 : n ≠ [] := by obtain ⟨l, rfl, _⟩ := hn; simp
  have hk := hn.kind
  have hk1 : ¬ kindP n = 1 := by omega
  simp [evF, evN, gnodes, plG, plI, itemEv, h0, hk1, kind_br]
theorem attrs_x (v : List UInt8) : attrsOkP [([120], v)] = true := by
  simp [attrsOkP, isAttrNameP]
  decide
theorem plI_stable {t n : List UInt8} (v : List UInt8) (ht : t ≠ []) (hn : PlName n) : stableL ([], []) (plI t n v) := by
  have hk := hn.kind
  have hk1 : ¬ kindP n = 1 := by omega
  have hk2 : kindP n ≠ 2 := by omega
  have hk3 : kindP n ≠ 3 := by omega
  have hh : NotHolds [n] := notHolds_snoc (st := []) (hn.ne _ _ (by decide)) (hn.ne _ _ (by decide))
  refine ⟨⟨ht, open_noop notHolds_nil, rfl, by decide⟩, ⟨hn.name, attrs_x v, start_plain notHolds_nil small_nil (hn.ne _ _ (by decide)) (hn.ne _ _ (by decide)) (hn.ne _ _ (by decide)) hk3, fun _ => rfl, rfl, top_nil, small_nil⟩, ?_, ?_, ?_, trivial⟩
  · have e : stepI (stepI ([], []) (iText t)) (iStart n [([120], v)] []) = ([evText t] ++ [evOpen n [([120], v)]], [n]) := by simp [stepI, itemEv, itemSt, hk1]
    rw [e]
    refine ⟨ht, open_noop hh, addText_open _ _ _ _, ?_⟩
    rw [show topKind [n] = kindP n from topKind_snoc [] n]
    exact hk2
  · refine ⟨hn.name, hk1, [], ?_⟩
    simp [stepI, itemSt, hk1]
  · have e : stepI (stepI (stepI (stepI ([], []) (iText t)) (iStart n [([120], v)] [])) (iText t)) (iEnd n) = ([evText t] ++ [evOpen n [([120], v)]] ++ [evText t] ++ [none], []) := by simp [stepI, itemEv, itemSt, hk1]
    rw [e]
    exact ⟨by decide, by decide, start_plain notHolds_nil small_nil (by decide) (by decide) (by decide) (by decide), fun _ => rfl, rfl, top_nil, small_nil⟩
theorem plI_end {n : List UInt8} (t v : List UInt8) (hn : PlName n) : (runI ([], []) (plI t n v)).2 = [] := by
  have hk := hn.kind
  have hk1 : ¬ kindP n = 1 := by omega
  simp [runI, plI, stepI, itemSt, hk1, kind_br]
/-- WHAT IS WRITTEN OF IT IS READ AS IT. -/
theorem plain_tree {t n : List UInt8} (v : List UInt8) (ht : t ≠ []) (hn : PlName n) :
    checkF 2 (plG t n v) = 0 ∧ writeF 2 (plG t n v) = writeI (plI t n v) ∧ readP (writeI (plI t n v)) = evF 2 (plG t n v) := by
  have h0 : n ≠ [] := by obtain ⟨l, rfl, _⟩ := hn; simp
  obtain ⟨a, b⟩ := tree_items (plG_nice v ht h0) (plI_stable v ht hn) (plI_end t v hn) (plG_ev t v hn)
  exact ⟨a, b, by rw [read_again _ (plI_stable v ht hn) (plI_end t v hn), plG_ev t v hn]⟩
theorem plG_bulk {t n v : List UInt8} (ht : t.length ≤ 100) (hn : n.length ≤ 100) (hv : v.length ≤ 100) : bulkF 2 (plG t n v) ≤ 1099511627776 := by
  simp only [bulkF, bulkN, bulkA, gnodes, plG, List.foldr_cons, List.foldr_nil, List.length_cons, List.length_nil]
  omega
end Go.Proofs.YtlpmjpmefdpcmaaDoor
