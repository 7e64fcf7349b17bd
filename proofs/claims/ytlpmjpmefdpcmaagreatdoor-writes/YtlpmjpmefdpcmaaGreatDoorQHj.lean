import Derived.Test.YtlpmjpmefdpcmaaGreatDoorRows
import Derived.Test.YtlpmjpmefdpcmaaGreatDoorQLies
import Derived.SliceStrings
import Derived.SizedLaws
import Derived.Carry
import Derived.ProofKit
/- Nodes among the arguments, however deep. No function of the program in it. -/
namespace Go.Proofs.YtlpmjpmefdpcmaaGreatDoor
open Go.ChangeShapes Go.WideShapes Go.RowKit Scrub
theorem hiStr : Tryz.prog.cellsOf 9 = 1 := by kernel_rfl
theorem hiAttr : Tryz.prog.cellsOf 63 = 2 := by kernel_rfl
theorem hiNode : Tryz.prog.cellsOf 42 = 4 := by kernel_rfl
theorem hiAttrs : Tryz.prog.cellsOf 40 = 1 := by kernel_rfl
theorem hiNodes : Tryz.prog.cellsOf 31 = 1 := by kernel_rfl
section
variable {H : Type}
/-- What a reading tells: an attribute, attributes, a forest. -/
def attrOf : DataW H → List UInt8 × List UInt8
  | .agg [.lit (.string a), .lit (.string b)] => (a, b)
  | _ => ([], [])
def attrsOf : DataW H → List (List UInt8 × List UInt8)
  | .slice es _ => es.map attrOf
  | _ => []
def nodeOf {D : Nat} (z : GF D) (G : DataW H → GF D) : DataW H → GN D
  | .agg [.lit (.string nm), ats, ks, .lit (.string tx)] => (nm, attrsOf ats, G ks, tx)
  | _ => ([], [], z, [])
def gfNil : (D : Nat) → GF D
  | 0 => ()
  | D + 1 => ([] : List (GN D))
def gfOf : (D : Nat) → DataW H → GF D
  | 0, _ => ()
  | D + 1, .slice es _ => es.map (nodeOf (gfNil D) (gfOf D))
  | D + 1, _ => ([] : List (GN D))
theorem bulk_nil : ∀ D, bulkF D (gfNil D) = 0
  | 0 => rfl
  | _ + 1 => rfl
theorem bulk_pos (d : DataW H) : 1 ≤ Rows.uptoBulk d := by
  cases d with
  | lit l => cases l <;> simp [Rows.uptoBulk]
  | _ => simp [Rows.uptoBulk]
theorem attr_bulk (d : DataW H) : (attrOf d).1.length + (attrOf d).2.length + 1 ≤ Rows.uptoBulk d := by
  unfold attrOf
  split
  · simp [Rows.uptoBulk, Rows.uptoBulkAll]; omega
  · exact bulk_pos d
theorem attrs_bulk' : ∀ es : List (DataW H), bulkA (es.map attrOf) ≤ Rows.uptoBulkAll es
  | [] => by simp [bulkA, Rows.uptoBulkAll]
  | e :: t => by
    have h1 := attr_bulk e
    have h2 := attrs_bulk' t
    show (attrOf e).1.length + (attrOf e).2.length + 1 + bulkA (t.map attrOf) ≤ _
    rw [Rows.uptoBulkAll]
    omega
theorem attrs_bulk (d : DataW H) : bulkA (attrsOf d) ≤ Rows.uptoBulk d := by
  unfold attrsOf
  split
  · rename_i es sp
    have := attrs_bulk' es
    rw [Rows.uptoBulk]
    omega
  · exact Nat.zero_le _
theorem gf_bulk : ∀ (D : Nat) (d : DataW H), bulkF D (gfOf D d) ≤ Rows.uptoBulk d
  | 0, _ => Nat.zero_le _
  | D + 1, d => by
    have hnode : ∀ e : DataW H, bulkN (bulkF D) (nodeOf (gfNil D) (gfOf D) e) ≤ Rows.uptoBulk e := by
      intro e
      unfold nodeOf
      split
      · rename_i nm ats ks tx
        have h1 := attrs_bulk ats
        have h2 := gf_bulk D ks
        simp only [bulkN, Rows.uptoBulk, Rows.uptoBulkAll]
        omega
      · have := bulk_pos e
        simp only [bulkN, bulk_nil, List.length_nil]
        show 0 + 0 + 0 + 0 + 1 ≤ _
        omega
    have hall : ∀ es : List (DataW H), (es.map (nodeOf (gfNil D) (gfOf D))).foldr (fun n m => bulkN (bulkF D) n + m) 0 ≤ Rows.uptoBulkAll es := by
      intro es
      induction es with
      | nil => exact Nat.zero_le _
      | cons e t ih =>
        have := hnode e
        rw [List.map_cons, List.foldr_cons, Rows.uptoBulkAll]
        omega
    cases d with
    | slice es sp =>
      have := hall es
      rw [Rows.uptoBulk]
      show (es.map (nodeOf (gfNil D) (gfOf D))).foldr (fun n m => bulkN (bulkF D) n + m) 0 ≤ _
      omega
    | _ => exact Nat.zero_le _
end
end Go.Proofs.YtlpmjpmefdpcmaaGreatDoor
/- Nodes among the arguments, however deep: they lie as the reading tells. -/
namespace Go.Proofs.YtlpmjpmefdpcmaaGreatDoor
open Go.ChangeShapes Go.WideShapes Go.RowKit Scrub
section
variable {H : Type} {enc : TypeId × Value → H} {W : World} {sp : Nat → Bool} {held : Bool}
set_option maxRecDepth 100000 in
theorem attr_open {fuel : Nat} {cs : List Value} {y : DataW H × List MemPlace} (h : DataW.trod enc Tryz.prog W 0 sp held fuel 63 cs = some y) :
    cs = [.string ⟨(attrOf y.1).1.toArray⟩, .string ⟨(attrOf y.1).2.toArray⟩] ∧ y.2 = [] := by
  obtain ⟨xs, n, _, rfl, hl, hlen, hf⟩ := DataW.trod_struct Tryz.underlying63 h
  match xs, hlen with
  | [x0, x1], _ =>
    rw [hiAttr] at hl
    match cs, hl with
    | [c0, c1], _ =>
      have f0 : DataW.trod enc Tryz.prog W 0 sp held n 9 (([c0, c1].drop 0).take (Tryz.prog.cellsOf 9)) = some x0 := hf 0 _ rfl
      have f1 : DataW.trod enc Tryz.prog W 0 sp held n 9 (([c0, c1].drop 1).take (Tryz.prog.cellsOf 9)) = some x1 := hf 1 _ rfl
      rw [hiStr] at f0 f1
      obtain ⟨s0, e0, hx0, _⟩ := DataW.trod_string Tryz.underlying9 f0
      obtain ⟨s1, e1, hx1, _⟩ := DataW.trod_string Tryz.underlying9 f1
      subst hx0 hx1
      simp at e0 e1
      subst e0 e1
      exact ⟨rfl, rfl⟩
theorem add_none {g o i : Nat} : (⟨g, o, none⟩ : Addr).add i = ⟨g, o + i, none⟩ := by
  unfold Addr.add
  split
  · rename_i h0
    subst h0
    rfl
  · rfl
set_option maxRecDepth 100000 in
/-- A list's elements, one after the other: the cells that each is read from. -/
theorem list_open {t e : TypeId} {k fuel : Nat} {cs : List Value} {y : DataW H × List MemPlace} (ht : Tryz.prog.underlying t = some (.slice e)) (hk : Tryz.prog.cellsOf e = k) (hpos : 0 < k) (h : DataW.trod enc Tryz.prog W 0 sp held fuel t cs = some y) :
    ∃ (oa : Option Addr) (cap : Nat) (elems rest : List (DataW H × List MemPlace)) (n : Nat), cs = [.slice oa elems.length cap] ∧ fuel = n + 1 ∧
      (y.1 = .nil ∧ elems = [] ∨ y.1 = .slice (elems.map (·.1)) (rest.map (·.1))) ∧
      (∀ x ∈ y.2, x.block < W.heap.size ∨ ∃ z ∈ elems ++ rest, x ∈ z.2) ∧
      (∀ i (hi : i < elems.length), ∃ g o cs', oa = some ⟨g, o, none⟩ ∧ cs'.length = k ∧ (∀ j, j < k → W.cell? ⟨g, o + i * k + j, none⟩ = cs'[j]?) ∧ DataW.trod enc Tryz.prog W 0 sp held n e cs' = some elems[i]) ∧
      ∀ z ∈ rest, ∃ cs', DataW.trod enc Tryz.prog W 0 sp held n e cs' = some z := by
  rcases DataW.trod_slice ht h with ⟨rfl, rfl⟩ | ⟨a, len, cap, elems, rest, n, rfl, rfl, rfl, _, _, _, hle, hE, hR1, hR2⟩
  · obtain ⟨m, rfl⟩ : ∃ m, fuel = m + 1 := by
      cases fuel with
      | zero => simp [DataW.trod] at h
      | succ m => exact ⟨m, rfl⟩
    exact ⟨none, 0, [], [], m, rfl, rfl, .inl ⟨rfl, rfl⟩, by simp, fun i hi => absurd hi (by simp), by simp⟩
  · subst hle
    rw [hk] at hE hR1
    have one : ∀ (m : Nat) (z : DataW H × List MemPlace), (W.cells? 0 (a.add (m * k)) k).bind (DataW.trod enc Tryz.prog W 0 sp held n e) = some z → a.block < W.heap.size ∧ ∃ cs', W.cells? 0 (a.add (m * k)) k = some cs' ∧ DataW.trod enc Tryz.prog W 0 sp held n e cs' = some z := by
      intro m z hz
      obtain ⟨cs', h1, h2⟩ := Option.bind_eq_some_iff.1 hz
      refine ⟨?_, cs', h1, h2⟩
      obtain ⟨_, hl, hc⟩ := World.cells?_some h1
      have := hc 0 hpos
      rw [List.getElem?_eq_getElem (by omega)] at this
      have := cell_lt this
      have hb : ((a.add (m * k)).add 0).block = a.block := by
        unfold Addr.add
        split <;> split <;> rfl
      rwa [hb] at this
    have hrest : ∀ z ∈ rest, ∃ m, (W.cells? 0 (a.add (m * k)) k).bind (DataW.trod enc Tryz.prog W 0 sp held n e) = some z := by
      intro z hz
      cases hs : sp a.block with
      | false => rw [hR2 hs] at hz; cases hz
      | true =>
        obtain ⟨hl, hr⟩ := hR1 hs
        obtain ⟨j, hj, rfl⟩ := List.getElem_of_mem hz
        exact ⟨elems.length + j, (hr j (by omega)).trans (List.getElem?_eq_getElem hj)⟩
    refine ⟨some a, cap, elems, rest, n, rfl, rfl, .inr rfl, ?_, ?_, ?_⟩
    · intro x hx
      rcases List.mem_append.1 hx with hx | hx
      · refine .inl ?_
        obtain ⟨j, hj, rfl⟩ := List.mem_map.1 hx
        show a.block < _
        by_cases h0 : elems.length = 0
        · by_cases h1 : rest.length = 0
          · rw [h0, h1] at hj
            simp at hj
          · obtain ⟨m, hm⟩ := hrest rest[0] (List.getElem_mem (by omega))
            exact (one m _ hm).1
        · have := hE 0 (by omega)
          rw [List.getElem?_eq_getElem (by omega)] at this
          exact (one 0 _ this).1
      · obtain ⟨z, hz, hxz⟩ := List.mem_flatMap.1 hx
        exact .inr ⟨z, hz, hxz⟩
    · intro i hi
      have h0 := hE 0 (by omega)
      rw [List.getElem?_eq_getElem (by omega)] at h0
      obtain ⟨_, cs0, hc0, _⟩ := one 0 _ h0
      have hsp : a.spot = none := by
        obtain ⟨_, hl, hc⟩ := World.cells?_some hc0
        have h1 := hc 0 hpos
        rw [List.getElem?_eq_getElem (by omega)] at h1
        have := World.cell?_spot h1
        simpa [Addr.add] using this
      have hi1 := hE i hi
      rw [List.getElem?_eq_getElem hi] at hi1
      obtain ⟨_, cs', hc', ht'⟩ := one i _ hi1
      have ha : a = ⟨a.block, a.off, none⟩ := by cases a; simp_all
      obtain ⟨_, hl, hc⟩ := World.cells?_some hc'
      refine ⟨a.block, a.off, cs', by rw [← ha], hl, fun j hj => ?_, ht'⟩
      rw [← hc j hj]
      congr 1
      rw [ha, add_none, add_none]
    · intro z hz
      obtain ⟨m, hm⟩ := hrest z hz
      obtain ⟨_, cs', _, h2⟩ := one m z hm
      exact ⟨cs', h2⟩
set_option maxRecDepth 100000 in
theorem attrs_open {fuel : Nat} {cs : List Value} {y : DataW H × List MemPlace} (h : DataW.trod enc Tryz.prog W 0 sp held fuel 40 cs = some y) :
    ∃ v, cs = [v] ∧ LiesA W v (attrsOf y.1) ∧ ∀ x ∈ y.2, x.block < W.heap.size := by
  obtain ⟨oa, cap, elems, rest, n, rfl, rfl, hy, hp, hE, hR⟩ := list_open Tryz.underlying40 hiAttr (by decide) h
  have hal : attrsOf y.1 = elems.map fun z => attrOf z.1 := by
    rcases hy with ⟨h1, rfl⟩ | h1
    · rw [h1]; rfl
    · rw [h1]; simp [attrsOf]
  refine ⟨_, rfl, ⟨oa, cap, by rw [hal]; simp, fun i hi => ?_⟩, fun x hx => ?_⟩
  · have hi' : i < elems.length := by rw [hal] at hi; simpa using hi
    obtain ⟨g, o, cs', ha, hl, hc, ht⟩ := hE i hi'
    obtain ⟨rfl, _⟩ := attr_open ht
    have e : (attrsOf y.1)[i] = attrOf (elems[i]).1 := by simp [hal]
    rw [e]
    exact ⟨g, o, ha, (hc 0 (by decide)).trans rfl, (hc 1 (by decide)).trans rfl⟩
  · rcases hp x hx with h1 | ⟨z, hz, hxz⟩
    · exact h1
    · exfalso
      have : z.2 = [] := by
        rcases List.mem_append.1 hz with hz | hz
        · obtain ⟨i, hi, rfl⟩ := List.getElem_of_mem hz
          obtain ⟨_, _, _, _, _, _, ht⟩ := hE i hi
          exact (attr_open ht).2
        · obtain ⟨cs', ht⟩ := hR z hz
          exact (attr_open ht).2
      rw [this] at hxz
      cases hxz
set_option maxRecDepth 100000 in
/-- A node's four cells. -/
theorem node_open {fuel : Nat} {cs : List Value} {y : DataW H × List MemPlace} (h : DataW.trod enc Tryz.prog W 0 sp held fuel 42 cs = some y) :
    ∃ (nm tx : List UInt8) (c1 c2 : Value) (y1 y2 : DataW H × List MemPlace) (n : Nat), fuel = n + 1 ∧ cs = [.string ⟨nm.toArray⟩, c1, c2, .string ⟨tx.toArray⟩] ∧ y = (.agg [.lit (.string nm), y1.1, y2.1, .lit (.string tx)], y1.2 ++ y2.2) ∧
      DataW.trod enc Tryz.prog W 0 sp held n 40 [c1] = some y1 ∧ DataW.trod enc Tryz.prog W 0 sp held n 31 [c2] = some y2 := by
  obtain ⟨xs, n, hn, rfl, hl, hlen, hf⟩ := DataW.trod_struct Tryz.underlying42 h
  match xs, hlen with
  | [x0, x1, x2, x3], _ =>
    rw [hiNode] at hl
    match cs, hl with
    | [c0, c1, c2, c3], _ =>
      have f0 : DataW.trod enc Tryz.prog W 0 sp held n 9 (([c0, c1, c2, c3].drop 0).take (Tryz.prog.cellsOf 9)) = some x0 := hf 0 _ rfl
      have f1 : DataW.trod enc Tryz.prog W 0 sp held n 40 (([c0, c1, c2, c3].drop 1).take (Tryz.prog.cellsOf 40)) = some x1 := hf 1 _ rfl
      have f2 : DataW.trod enc Tryz.prog W 0 sp held n 31 (([c0, c1, c2, c3].drop 2).take (Tryz.prog.cellsOf 31)) = some x2 := hf 2 _ rfl
      have f3 : DataW.trod enc Tryz.prog W 0 sp held n 9 (([c0, c1, c2, c3].drop 3).take (Tryz.prog.cellsOf 9)) = some x3 := hf 3 _ rfl
      rw [hiStr] at f0 f3
      rw [hiAttrs] at f1
      rw [hiNodes] at f2
      obtain ⟨s0, e0, hx0, _⟩ := DataW.trod_string Tryz.underlying9 f0
      obtain ⟨s3, e3, hx3, _⟩ := DataW.trod_string Tryz.underlying9 f3
      subst hx0 hx3
      simp at e0 e3
      subst e0 e3
      exact ⟨s0.data.toList, s3.data.toList, c1, c2, x1, x2, n, hn, rfl, by simp, f1, f2⟩
set_option maxRecDepth 100000 in
theorem nodes_open : ∀ (fuel : Nat) {cs : List Value} {y : DataW H × List MemPlace}, DataW.trod enc Tryz.prog W 0 sp held fuel 31 cs = some y →
    ∀ D, fuel ≤ D → ∃ v, cs = [v] ∧ Lies D W v (gfOf D y.1) ∧ ∀ x ∈ y.2, x.block < W.heap.size := by
  intro fuel
  induction fuel using Nat.strongRecOn with
  | ind fuel ih =>
    intro cs y h D hD
    obtain ⟨oa, cap, elems, rest, n, rfl, rfl, hy, hp, hE, hR⟩ := list_open Tryz.underlying31 hiNode (by decide) h
    obtain ⟨E, rfl⟩ : ∃ E, D = E + 1 := ⟨D - 1, by omega⟩
    have hgn : gnodes E (gfOf (E + 1) y.1) = elems.map fun z => nodeOf (gfNil E) (gfOf E) z.1 := by
      rcases hy with ⟨h1, rfl⟩ | h1
      · rw [h1]; rfl
      · rw [h1]
        show (elems.map (·.1)).map (nodeOf (gfNil E) (gfOf E)) = _
        simp
    refine ⟨_, rfl, ⟨oa, cap, by rw [hgn]; simp, fun i hi => ?_⟩, fun x hx => ?_⟩
    · have hi' : i < elems.length := by rw [hgn] at hi; simpa using hi
      obtain ⟨g, o, cs', ha, hl, hc, ht⟩ := hE i hi'
      obtain ⟨nm, tx, c1, c2, y1, y2, m, rfl, rfl, hz, t1, t2⟩ := node_open ht
      have e : (gnodes E (gfOf (E + 1) y.1))[i] = (nm, attrsOf y1.1, gfOf E y2.1, tx) := by
        have : (gnodes E (gfOf (E + 1) y.1))[i] = nodeOf (gfNil E) (gfOf E) (elems[i]).1 := by simp [hgn]
        rw [this, hz]
        rfl
      rw [e]
      obtain ⟨v1, e1, l1, _⟩ := attrs_open t1
      obtain ⟨v2, e2, l2, _⟩ := ih m (by omega) t2 E (by omega)
      injection e1 with e1 _
      injection e2 with e2 _
      subst e1 e2
      exact ⟨g, o, ha, c1, c2, (hc 0 (by decide)).trans rfl, (hc 1 (by decide)).trans rfl, (hc 2 (by decide)).trans rfl, (hc 3 (by decide)).trans rfl, l1, l2⟩
    · rcases hp x hx with h1 | ⟨z, hz, hxz⟩
      · exact h1
      · have : ∃ cs', DataW.trod enc Tryz.prog W 0 sp held n 42 cs' = some z := by
          rcases List.mem_append.1 hz with hz | hz
          · obtain ⟨i, hi, rfl⟩ := List.getElem_of_mem hz
            obtain ⟨_, _, cs', _, _, _, ht⟩ := hE i hi
            exact ⟨cs', ht⟩
          · exact hR z hz
        obtain ⟨cs', ht⟩ := this
        obtain ⟨nm, tx, c1, c2, y1, y2, m, rfl, rfl, rfl, t1, t2⟩ := node_open ht
        obtain ⟨_, _, _, p1⟩ := attrs_open t1
        obtain ⟨_, _, _, p2⟩ := ih m (by omega) t2 m (by omega)
        rcases List.mem_append.1 hxz with hx | hx
        · exact p1 x hx
        · exact p2 x hx
end
end Go.Proofs.YtlpmjpmefdpcmaaGreatDoor
