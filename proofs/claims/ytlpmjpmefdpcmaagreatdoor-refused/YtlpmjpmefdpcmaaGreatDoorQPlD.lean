import Derived.Test.YtlpmjpmefdpcmaaGreatDoorQCln
/- scrubkeep.policy: one, out of raw names. -/
namespace Go.Proofs.YtlpmjpmefdpcmaaGreatDoor
open Go.RowKit Scrub Go.Shelf
/-- A name, out of a raw one. -/
def nmP (e : List UInt8) : List UInt8 := (((120 : UInt8) :: e).take 20).drop (e.length % 2)
def polOf (es ats : List (List UInt8)) : Pol := ((es.take 12).map nmP, (ats.take 12).map nmP)
theorem nmP_ok (e : List UInt8) : noNameP (nmP e) = false := by
  have hl : (nmP e).length = min 20 (e.length + 1) - e.length % 2 := by rw [nmP, List.length_drop, List.length_take, List.length_cons]
  unfold noNameP
  have h1 : ¬ nmP e = [] := by
    intro h
    rw [h] at hl
    simp only [List.length_nil] at hl
    omega
  have h2 : ¬ 20 < (nmP e).length := by omega
  simp [h1, h2]
theorem polOf_ok (es ats : List (List UInt8)) : isPolP (polOf es ats) = true := by
  have h : ∀ l : List (List UInt8), areNamesP ((l.take 12).map nmP) = true := by
    intro l
    unfold areNamesP
    have h1 : ((l.take 12).map nmP).any noNameP = false := by
      rw [List.any_eq_false]
      intro x hx
      obtain ⟨y, _, rfl⟩ := List.mem_map.1 hx
      rw [nmP_ok]
      simp
    rw [h1]
    simp
    omega
  unfold isPolP polOf
  rw [h, h]
  rfl
def strCells (l : List (List UInt8)) : List Value := l.map fun s => .string ⟨s.toArray⟩
def SOwn (w : World) (v : Value) (l : List (List UInt8)) : Prop := w.ownsRow 0 9 1 v l.length (strCells l)
theorem SOwn.strs {w : World} {v : Value} {l : List (List UInt8)} (h : SOwn w v l) : StrsAt w v l := by
  obtain ⟨a, c, rfl⟩ := ownsRow_form h
  refine ⟨a, c, rfl, fun i hi => ?_⟩
  rcases h.2 with ⟨_, h0⟩ | ⟨g, cap, cur, hv, _⟩
  · omega
  · have e : (Value.slice a l.length c) = .slice (some ⟨g, 0, none⟩) l.length cap := hv
    injection e with e1 e2 e3
    subst e1 e3
    refine ⟨g, 0, rfl, ?_⟩
    have := row_cell h (j := i) (u := .string ⟨(l[i]).toArray⟩) (by simp [strCells, hi])
    simpa using this
/-- The policy that is made: its box, its two lists. -/
def PBox (w : World) (es ats : List (List UInt8)) (ev av : Value) (wr : World) : Prop :=
  Kept [] w wr ∧ wr.heap[w.heap.size + 1]? = some (.cells #[ev, av] 33 (0, 0)) ∧ (SOwn wr ev es ∧ SOwn wr av ats) ∧ (∀ k, ev.ownBlock = some k → w.heap.size + 1 < k) ∧ (∀ k, av.ownBlock = some k → w.heap.size + 1 < k) ∧ (∀ k, ev.ownBlock = some k → av.ownBlock ≠ some k) ∧ wr.heap[w.heap.size]? = some (.cells #[.slice none 0 0, .slice none 0 0] 33 (0, 0))
theorem short_list (s : List UInt8) (n : Nat) (w : World) (hn : n ≤ 1000) :
    Calls Tryz.prog 21 #[.string ⟨s.toArray⟩, .int .i64 (n : Int)] w fun e w' => e = .returned (.string ⟨(s.take n).toArray⟩) ∧ w' = w := by
  refine (short_any ⟨s.toArray⟩ n w hn).mono ?_
  rintro e w' ⟨t, rfl, h1, _, h2⟩
  refine ⟨?_, h2⟩
  have h3 : t.data.toList = s.take n := h1
  have : t = ⟨(s.take n).toArray⟩ := by
    apply ByteArray.ext
    rw [← h3]
  rw [this]
theorem add_x {el : List UInt8} (h : el.length ≤ 140737488355328) (w : World) : (Op.stringOp .add ⟨#[120]⟩ ⟨el.toArray⟩).run Tryz.prog w = .ok (.string ⟨((120 : UInt8) :: el).toArray⟩) w := by
  rw [run_string_add_sum w _ _ (by simp [ByteArray.size]; omega)]
  congr 2
theorem infoStr : (Tryz.prog.info? 9).map (fun i => (i.zero, i.size, i.bytes)) = some (some (.string ⟨#[]⟩), 1, 16) := by kernel_rfl
theorem strCells_snoc (l : List (List UInt8)) (x : List UInt8) : strCells (l ++ [x]) = strCells l ++ [.string ⟨x.toArray⟩] := by simp [strCells]
theorem setCell_other {w : World} {b o : Nat} {u : Value} {k : Nat} (h : k ≠ b) : (w.setCell ⟨b, o, none⟩ u).heap[k]? = w.heap[k]? := Below.heap_setCell _ _ _ _ (by simpa using h)
theorem PBox.first {w : World} {es ats : List (List UInt8)} {ev av : Value} {wr W0 w' : World} {v' : Value} {x : List UInt8} (h : PBox w es ats ev av wr) (hk : Kept [] wr W0) (hown : w'.ownsRow 0 9 1 v' (es.length + 1) (strCells es ++ [.string ⟨x.toArray⟩]))
    (hgr : W0.grownBy w' ev.ownBlock) (hmv : Moved W0 ev v') : PBox w (es ++ [x]) ats v' av (w'.setCell ⟨w.heap.size + 1, 0, none⟩ v') := by
  obtain ⟨h1, h2, ⟨h3, h4⟩, h5, h6, h7, h8⟩ := h
  have hk2 := Kept.own hgr
  have hz := hk.size
  have hz2 := hk2.size
  have hlt : w.heap.size + 1 < wr.heap.size := (Array.getElem?_eq_some_iff.1 h2).1
  have hbn : w.heap.size + 1 ∉ ev.ownBlock.toList := fun hc => by have := h5 _ (Option.mem_toList.1 hc); omega
  have hb : w'.heap[w.heap.size + 1]? = some (.cells #[ev, av] 33 (0, 0)) := (hk2.block _ (by omega) hbn).trans ((hk.block _ hlt (by simp)).trans h2)
  have hvn : ∀ k, v'.ownBlock = some k → w.heap.size + 1 < k := by
    intro k hk'
    rcases hmv with hm | ⟨j, hm, hj⟩
    · exact h5 k (hm ▸ hk')
    · rw [hm] at hk'
      have : j = k := by simpa using hk'
      omega
  have hav : SOwn w' av ats := by
    have h4' : SOwn W0 av ats := ownsRow_kept h4 hk (by simp)
    exact ownsRow_kept h4' hk2 (fun k hk' hc => h7 k (Option.mem_toList.1 hc) hk')
  have hr : w'.heap[w.heap.size]? = some (.cells #[.slice none 0 0, .slice none 0 0] 33 (0, 0)) := (hk2.block _ (by omega) (fun hc => by have := h5 _ (Option.mem_toList.1 hc); omega)).trans ((hk.block _ (by omega) (by simp)).trans h8)
  refine ⟨?_, ?_, ⟨?_, ?_⟩, hvn, h6, ?_, (setCell_other (by omega)).trans hr⟩
  · refine ((h1.trans hk).trans_new hk2 (fun k hk' => .inr ?_)).setCell (.inr (by simp)) v'
    have := h5 k (Option.mem_toList.1 hk')
    omega
  · simp [World.setCell, Array.getElem?_modify, hb]
  · have e : (es ++ [x]).length = es.length + 1 := by simp
    unfold SOwn
    rw [e, strCells_snoc]
    exact ownsRow_same hown (fun k hk' => setCell_other (by have := hvn k hk'; omega))
  · exact ownsRow_same hav (fun k hk' => setCell_other (by have := h6 k hk'; omega))
  · intro k hk' hc
    rcases hmv with hm | ⟨j, hm, hj⟩
    · exact h7 k (hm ▸ hk') hc
    · rw [hm] at hk'
      have hjk : j = k := by simpa using hk'
      have := own_lt h4 hc
      omega
theorem PBox.second {w : World} {es ats : List (List UInt8)} {ev av : Value} {wr W0 w' : World} {v' : Value} {x : List UInt8} (h : PBox w es ats ev av wr) (hk : Kept [] wr W0) (hown : w'.ownsRow 0 9 1 v' (ats.length + 1) (strCells ats ++ [.string ⟨x.toArray⟩]))
    (hgr : W0.grownBy w' av.ownBlock) (hmv : Moved W0 av v') : PBox w es (ats ++ [x]) ev v' (w'.setCell ⟨w.heap.size + 1, 1, none⟩ v') := by
  obtain ⟨h1, h2, ⟨h3, h4⟩, h5, h6, h7, h8⟩ := h
  have hk2 := Kept.own hgr
  have hz := hk.size
  have hz2 := hk2.size
  have hlt : w.heap.size + 1 < wr.heap.size := (Array.getElem?_eq_some_iff.1 h2).1
  have hbn : w.heap.size + 1 ∉ av.ownBlock.toList := fun hc => by have := h6 _ (Option.mem_toList.1 hc); omega
  have hb : w'.heap[w.heap.size + 1]? = some (.cells #[ev, av] 33 (0, 0)) := (hk2.block _ (by omega) hbn).trans ((hk.block _ hlt (by simp)).trans h2)
  have hvn : ∀ k, v'.ownBlock = some k → w.heap.size + 1 < k := by
    intro k hk'
    rcases hmv with hm | ⟨j, hm, hj⟩
    · exact h6 k (hm ▸ hk')
    · rw [hm] at hk'
      have : j = k := by simpa using hk'
      omega
  have hev : SOwn w' ev es := by
    have h3' : SOwn W0 ev es := ownsRow_kept h3 hk (by simp)
    exact ownsRow_kept h3' hk2 (fun k hk' hc => h7 k hk' (Option.mem_toList.1 hc))
  have hr : w'.heap[w.heap.size]? = some (.cells #[.slice none 0 0, .slice none 0 0] 33 (0, 0)) := (hk2.block _ (by omega) (fun hc => by have := h6 _ (Option.mem_toList.1 hc); omega)).trans ((hk.block _ (by omega) (by simp)).trans h8)
  refine ⟨?_, ?_, ⟨?_, ?_⟩, h5, hvn, ?_, (setCell_other (by omega)).trans hr⟩
  · refine ((h1.trans hk).trans_new hk2 (fun k hk' => .inr ?_)).setCell (.inr (by simp)) v'
    have := h6 k (Option.mem_toList.1 hk')
    omega
  · simp [World.setCell, Array.getElem?_modify, hb]
  · exact ownsRow_same hev (fun k hk' => setCell_other (by have := h5 k hk'; omega))
  · have e : (ats ++ [x]).length = ats.length + 1 := by simp
    unfold SOwn
    rw [e, strCells_snoc]
    exact ownsRow_same hown (fun k hk' => setCell_other (by have := hvn k hk'; omega))
  · intro k hk' hc
    rcases hmv with hm | ⟨j, hm, hj⟩
    · exact h7 k hk' (hm ▸ hc)
    · rw [hm] at hc
      have hjk : j = k := by simpa using hc
      have := own_lt h3 hk'
      omega
/-- What the box holds, where an append was made. -/
theorem PBox.far {w : World} {es ats : List (List UInt8)} {ev av x : Value} {wr W0 w' : World} (h : PBox w es ats ev av wr) (hx : x = ev ∨ x = av) (hk : Kept [] wr W0) (hgr : W0.grownBy w' x.ownBlock) :
    ((w'.cell? ⟨w.heap.size + 1, 0, none⟩ = some ev ∧ w'.cell? ⟨w.heap.size + 1, 1, none⟩ = some av) ∧ w'.frozen? ⟨w.heap.size + 1, 0, none⟩ = false ∧ w'.frozen? ⟨w.heap.size + 1, 1, none⟩ = false) ∧ ∀ p : Addr, p.block < w.heap.size → w'.cell? p = wr.cell? p := by
  obtain ⟨h1, h2, ⟨h3, h4⟩, h5, h6, h7, h8⟩ := h
  have hk2 := Kept.own hgr
  have hz := hk.size
  have hlt : w.heap.size + 1 < wr.heap.size := (Array.getElem?_eq_some_iff.1 h2).1
  have hxn : ∀ k, x.ownBlock = some k → w.heap.size + 1 < k := by
    rcases hx with rfl | rfl
    · exact h5
    · exact h6
  have hbn : w.heap.size + 1 ∉ x.ownBlock.toList := fun hc => by have := hxn _ (Option.mem_toList.1 hc); omega
  have hb : w'.heap[w.heap.size + 1]? = some (.cells #[ev, av] 33 (0, 0)) := (hk2.block _ (by omega) hbn).trans ((hk.block _ hlt (by simp)).trans h2)
  refine ⟨⟨⟨by simp [World.cell?, hb], by simp [World.cell?, hb]⟩, by simp [World.frozen?, hb], by simp [World.frozen?, hb]⟩, fun p hp => ?_⟩
  rw [hk2.cell (p := p) (by omega) (fun hc => by have := hxn _ (Option.mem_toList.1 hc); omega), hk.cell (p := p) (by omega) (by simp)]
theorem drop_extract (l : List UInt8) (m : Nat) : (⟨l.toArray⟩ : ByteArray).extract m l.length = ⟨(l.drop m).toArray⟩ := by
  apply ByteArray.ext
  apply Array.toList_inj.1
  simp
  rw [List.take_of_length_le (by simp)]
theorem PBox.done {w : World} {es ats : List (List UInt8)} {ev av : Value} {wr : World} (h : PBox w es ats ev av wr) :
    PolAt ((wr.setCell ⟨w.heap.size, 0, none⟩ ev).setCell ⟨w.heap.size, 1, none⟩ av) ev av (es, ats) ∧ Kept [] w ((wr.setCell ⟨w.heap.size, 0, none⟩ ev).setCell ⟨w.heap.size, 1, none⟩ av) := by
  obtain ⟨h1, h2, ⟨h3, h4⟩, h5, h6, h7, h8⟩ := h
  refine ⟨⟨SOwn.strs ?_, SOwn.strs ?_⟩, (h1.setCell (.inr (by simp)) ev).setCell (.inr (by simp)) av⟩
  · exact ownsRow_same h3 (fun k hk' => by rw [setCell_other (by have := h5 k hk'; omega), setCell_other (by have := h5 k hk'; omega)])
  · exact ownsRow_same h4 (fun k hk' => by rw [setCell_other (by have := h6 k hk'; omega), setCell_other (by have := h6 k hk'; omega)])
/-- What policy answers. -/
def PolicyOk : Prop := ∀ (v1 v2 : Value) (es ats : List (List UInt8)) (w : World), StrsAt w v1 es → StrsAt w v2 ats → (∀ e ∈ es ++ ats, e.length ≤ 140737488355328) → es.length ≤ 140737488355328 → ats.length ≤ 140737488355328 →
  Calls Tryz.prog 19 #[v1, v2] w fun e w' => ∃ ev av, e = .returned (.agg #[ev, av]) ∧ PolAt w' ev av (polOf es ats) ∧ Kept [] w w'
end Go.Proofs.YtlpmjpmefdpcmaaGreatDoor
