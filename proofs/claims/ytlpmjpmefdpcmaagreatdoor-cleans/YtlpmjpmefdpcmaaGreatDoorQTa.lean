import Derived.Test.YtlpmjpmefdpcmaaGreatDoorQCln
import Derived.Test.YtlpmjpmefdpcmaaGreatDoorQPure5
/- scrubkeep.policy: one, out of raw names. -/
namespace Go.Proofs.YtlpmjpmefdpcmaaGreatDoor
open Go.RowKit Scrub Go.Shelf
/-- A name, out of a raw one. -/
def nmP (e : List UInt8) : List UInt8 := (((120 : UInt8) :: e).take 20).drop (e.length % 2)
def polOf (es ats : List (List UInt8)) : Pol := ((es.take 12).map nmP, (ats.take 12).map nmP)
theorem nmP_ok (e : List UInt8) : noNameP (nmP e) = false := by
  have hl : (nmP e).length = min 20 (e.length + 1) - e.length % 2 := by rw [nmP, List.length_drop, List.length_take, List.length_cons]
  unfold noNameP
  have h1 : ¬ nmP e = [] := by
    intro h
    rw [h] at hl
    simp only [List.length_nil] at hl
    omega
  have h2 : ¬ 20 < (nmP e).length := by omega
  simp [h1, h2]
theorem polOf_ok (es ats : List (List UInt8)) : isPolP (polOf es ats) = true := by
  have h : ∀ l : List (List UInt8), areNamesP ((l.take 12).map nmP) = true := by
    intro l
    unfold areNamesP
    have h1 : ((l.take 12).map nmP).any noNameP = false := by
      rw [List.any_eq_false]
      intro x hx
      obtain ⟨y, _, rfl⟩ := List.mem_map.1 hx
      rw [nmP_ok]
      simp
    rw [h1]
    simp
    omega
  unfold isPolP polOf
  rw [h, h]
  rfl
def strCells (l : List (List UInt8)) : List Value := l.map fun s => .string ⟨s.toArray⟩
def SOwn (w : World) (v : Value) (l : List (List UInt8)) : Prop := w.ownsRow 0 9 1 v l.length (strCells l)
theorem SOwn.strs {w : World} {v : Value} {l : List (List UInt8)} (h : SOwn w v l) : StrsAt w v l := by
  obtain ⟨a, c, rfl⟩ := ownsRow_form h
  refine ⟨a, c, rfl, fun i hi => ?_⟩
  rcases h.2 with ⟨_, h0⟩ | ⟨g, cap, cur, hv, _⟩
  · omega
  · have e : (Value.slice a l.length c) = .slice (some ⟨g, 0, none⟩) l.length cap := hv
    injection e with e1 e2 e3
    subst e1 e3
    refine ⟨g, 0, rfl, ?_⟩
    have := row_cell h (j := i) (u := .string ⟨(l[i]).toArray⟩) (by simp [strCells, hi])
    simpa using this
/-- The policy that is made: its box, its two lists. -/
def PBox (w : World) (es ats : List (List UInt8)) (ev av : Value) (wr : World) : Prop :=
  Kept [] w wr ∧ wr.heap[w.heap.size + 1]? = some (.cells #[ev, av] 33 (0, 0)) ∧ (SOwn wr ev es ∧ SOwn wr av ats) ∧ (∀ k, ev.ownBlock = some k → w.heap.size + 1 < k) ∧ (∀ k, av.ownBlock = some k → w.heap.size + 1 < k) ∧ (∀ k, ev.ownBlock = some k → av.ownBlock ≠ some k) ∧ wr.heap[w.heap.size]? = some (.cells #[.slice none 0 0, .slice none 0 0] 33 (0, 0))
theorem short_list (s : List UInt8) (n : Nat) (w : World) (hn : n ≤ 1000) :
    Calls Tryz.prog 21 #[.string ⟨s.toArray⟩, .int .i64 (n : Int)] w fun e w' => e = .returned (.string ⟨(s.take n).toArray⟩) ∧ w' = w := by
  refine (short_any ⟨s.toArray⟩ n w hn).mono ?_
  rintro e w' ⟨t, rfl, h1, _, h2⟩
  refine ⟨?_, h2⟩
  have h3 : t.data.toList = s.take n := h1
  have : t = ⟨(s.take n).toArray⟩ := by
    apply ByteArray.ext
    rw [← h3]
  rw [this]
theorem add_x {el : List UInt8} (h : el.length ≤ 140737488355328) (w : World) : (Op.stringOp .add ⟨#[120]⟩ ⟨el.toArray⟩).run Tryz.prog w = .ok (.string ⟨((120 : UInt8) :: el).toArray⟩) w := by
  rw [run_string_add_sum w _ _ (by simp [ByteArray.size]; omega)]
  congr 2
theorem infoStr : (Tryz.prog.info? 9).map (fun i => (i.zero, i.size, i.bytes)) = some (some (.string ⟨#[]⟩), 1, 16) := by kernel_rfl
theorem strCells_snoc (l : List (List UInt8)) (x : List UInt8) : strCells (l ++ [x]) = strCells l ++ [.string ⟨x.toArray⟩] := by simp [strCells]
theorem setCell_other {w : World} {b o : Nat} {u : Value} {k : Nat} (h : k ≠ b) : (w.setCell ⟨b, o, none⟩ u).heap[k]? = w.heap[k]? := Below.heap_setCell _ _ _ _ (by simpa using h)
theorem PBox.first {w : World} {es ats : List (List UInt8)} {ev av : Value} {wr W0 w' : World} {v' : Value} {x : List UInt8} (h : PBox w es ats ev av wr) (hk : Kept [] wr W0) (hown : w'.ownsRow 0 9 1 v' (es.length + 1) (strCells es ++ [.string ⟨x.toArray⟩]))
    (hgr : W0.grownBy w' ev.ownBlock) (hmv : Moved W0 ev v') : PBox w (es ++ [x]) ats v' av (w'.setCell ⟨w.heap.size + 1, 0, none⟩ v') := by
  obtain ⟨h1, h2, ⟨h3, h4⟩, h5, h6, h7, h8⟩ := h
  have hk2 := Kept.own hgr
  have hz := hk.size
  have hz2 := hk2.size
  have hlt : w.heap.size + 1 < wr.heap.size := (Array.getElem?_eq_some_iff.1 h2).1
  have hbn : w.heap.size + 1 ∉ ev.ownBlock.toList := fun hc => by have := h5 _ (Option.mem_toList.1 hc); omega
  have hb : w'.heap[w.heap.size + 1]? = some (.cells #[ev, av] 33 (0, 0)) := (hk2.block _ (by omega) hbn).trans ((hk.block _ hlt (by simp)).trans h2)
  have hvn : ∀ k, v'.ownBlock = some k → w.heap.size + 1 < k := by
    intro k hk'
    rcases hmv with hm | ⟨j, hm, hj⟩
    · exact h5 k (hm ▸ hk')
    · rw [hm] at hk'
      have : j = k := by simpa using hk'
      omega
  have hav : SOwn w' av ats := by
    have h4' : SOwn W0 av ats := ownsRow_kept h4 hk (by simp)
    exact ownsRow_kept h4' hk2 (fun k hk' hc => h7 k (Option.mem_toList.1 hc) hk')
  have hr : w'.heap[w.heap.size]? = some (.cells #[.slice none 0 0, .slice none 0 0] 33 (0, 0)) := (hk2.block _ (by omega) (fun hc => by have := h5 _ (Option.mem_toList.1 hc); omega)).trans ((hk.block _ (by omega) (by simp)).trans h8)
  refine ⟨?_, ?_, ⟨?_, ?_⟩, hvn, h6, ?_, (setCell_other (by omega)).trans hr⟩
  · refine ((h1.trans hk).trans_new hk2 (fun k hk' => .inr ?_)).setCell (.inr (by simp)) v'
    have := h5 k (Option.mem_toList.1 hk')
    omega
  · simp [World.setCell, Array.getElem?_modify, hb]
  · have e : (es ++ [x]).length = es.length + 1 := by simp
    unfold SOwn
    rw [e, strCells_snoc]
    exact ownsRow_same hown (fun k hk' => setCell_other (by have := hvn k hk'; omega))
  · exact ownsRow_same hav (fun k hk' => setCell_other (by have := h6 k hk'; omega))
  · intro k hk' hc
    rcases hmv with hm | ⟨j, hm, hj⟩
    · exact h7 k (hm ▸ hk') hc
    · rw [hm] at hk'
      have hjk : j = k := by simpa using hk'
      have := own_lt h4 hc
      omega
theorem PBox.second {w : World} {es ats : List (List UInt8)} {ev av : Value} {wr W0 w' : World} {v' : Value} {x : List UInt8} (h : PBox w es ats ev av wr) (hk : Kept [] wr W0) (hown : w'.ownsRow 0 9 1 v' (ats.length + 1) (strCells ats ++ [.string ⟨x.toArray⟩]))
    (hgr : W0.grownBy w' av.ownBlock) (hmv : Moved W0 av v') : PBox w es (ats ++ [x]) ev v' (w'.setCell ⟨w.heap.size + 1, 1, none⟩ v') := by
  obtain ⟨h1, h2, ⟨h3, h4⟩, h5, h6, h7, h8⟩ := h
  have hk2 := Kept.own hgr
  have hz := hk.size
  have hz2 := hk2.size
  have hlt : w.heap.size + 1 < wr.heap.size := (Array.getElem?_eq_some_iff.1 h2).1
  have hbn : w.heap.size + 1 ∉ av.ownBlock.toList := fun hc => by have := h6 _ (Option.mem_toList.1 hc); omega
  have hb : w'.heap[w.heap.size + 1]? = some (.cells #[ev, av] 33 (0, 0)) := (hk2.block _ (by omega) hbn).trans ((hk.block _ hlt (by simp)).trans h2)
  have hvn : ∀ k, v'.ownBlock = some k → w.heap.size + 1 < k := by
    intro k hk'
    rcases hmv with hm | ⟨j, hm, hj⟩
    · exact h6 k (hm ▸ hk')
    · rw [hm] at hk'
      have : j = k := by simpa using hk'
      omega
  have hev : SOwn w' ev es := by
    have h3' : SOwn W0 ev es := ownsRow_kept h3 hk (by simp)
    exact ownsRow_kept h3' hk2 (fun k hk' hc => h7 k hk' (Option.mem_toList.1 hc))
  have hr : w'.heap[w.heap.size]? = some (.cells #[.slice none 0 0, .slice none 0 0] 33 (0, 0)) := (hk2.block _ (by omega) (fun hc => by have := h6 _ (Option.mem_toList.1 hc); omega)).trans ((hk.block _ (by omega) (by simp)).trans h8)
  refine ⟨?_, ?_, ⟨?_, ?_⟩, h5, hvn, ?_, (setCell_other (by omega)).trans hr⟩
  · refine ((h1.trans hk).trans_new hk2 (fun k hk' => .inr ?_)).setCell (.inr (by simp)) v'
    have := h6 k (Option.mem_toList.1 hk')
    omega
  · simp [World.setCell, Array.getElem?_modify, hb]
  · exact ownsRow_same hev (fun k hk' => setCell_other (by have := h5 k hk'; omega))
  · have e : (ats ++ [x]).length = ats.length + 1 := by simp
    unfold SOwn
    rw [e, strCells_snoc]
    exact ownsRow_same hown (fun k hk' => setCell_other (by have := hvn k hk'; omega))
  · intro k hk' hc
    rcases hmv with hm | ⟨j, hm, hj⟩
    · exact h7 k hk' (hm ▸ hc)
    · rw [hm] at hc
      have hjk : j = k := by simpa using hc
      have := own_lt h3 hk'
      omega
/-- What the box holds, where an append was made. -/
theorem PBox.far {w : World} {es ats : List (List UInt8)} {ev av x : Value} {wr W0 w' : World} (h : PBox w es ats ev av wr) (hx : x = ev ∨ x = av) (hk : Kept [] wr W0) (hgr : W0.grownBy w' x.ownBlock) :
    ((w'.cell? ⟨w.heap.size + 1, 0, none⟩ = some ev ∧ w'.cell? ⟨w.heap.size + 1, 1, none⟩ = some av) ∧ w'.frozen? ⟨w.heap.size + 1, 0, none⟩ = false ∧ w'.frozen? ⟨w.heap.size + 1, 1, none⟩ = false) ∧ ∀ p : Addr, p.block < w.heap.size → w'.cell? p = wr.cell? p := by
  obtain ⟨h1, h2, ⟨h3, h4⟩, h5, h6, h7, h8⟩ := h
  have hk2 := Kept.own hgr
  have hz := hk.size
  have hlt : w.heap.size + 1 < wr.heap.size := (Array.getElem?_eq_some_iff.1 h2).1
  have hxn : ∀ k, x.ownBlock = some k → w.heap.size + 1 < k := by
    rcases hx with rfl | rfl
    · exact h5
    · exact h6
  have hbn : w.heap.size + 1 ∉ x.ownBlock.toList := fun hc => by have := hxn _ (Option.mem_toList.1 hc); omega
  have hb : w'.heap[w.heap.size + 1]? = some (.cells #[ev, av] 33 (0, 0)) := (hk2.block _ (by omega) hbn).trans ((hk.block _ hlt (by simp)).trans h2)
  refine ⟨⟨⟨by simp [World.cell?, hb], by simp [World.cell?, hb]⟩, by simp [World.frozen?, hb], by simp [World.frozen?, hb]⟩, fun p hp => ?_⟩
  rw [hk2.cell (p := p) (by omega) (fun hc => by have := hxn _ (Option.mem_toList.1 hc); omega), hk.cell (p := p) (by omega) (by simp)]
theorem drop_extract (l : List UInt8) (m : Nat) : (⟨l.toArray⟩ : ByteArray).extract m l.length = ⟨(l.drop m).toArray⟩ := by
  apply ByteArray.ext
  apply Array.toList_inj.1
  simp
  rw [List.take_of_length_le (by simp)]
theorem PBox.done {w : World} {es ats : List (List UInt8)} {ev av : Value} {wr : World} (h : PBox w es ats ev av wr) :
    PolAt ((wr.setCell ⟨w.heap.size, 0, none⟩ ev).setCell ⟨w.heap.size, 1, none⟩ av) ev av (es, ats) ∧ Kept [] w ((wr.setCell ⟨w.heap.size, 0, none⟩ ev).setCell ⟨w.heap.size, 1, none⟩ av) := by
  obtain ⟨h1, h2, ⟨h3, h4⟩, h5, h6, h7, h8⟩ := h
  refine ⟨⟨SOwn.strs ?_, SOwn.strs ?_⟩, (h1.setCell (.inr (by simp)) ev).setCell (.inr (by simp)) av⟩
  · exact ownsRow_same h3 (fun k hk' => by rw [setCell_other (by have := h5 k hk'; omega), setCell_other (by have := h5 k hk'; omega)])
  · exact ownsRow_same h4 (fun k hk' => by rw [setCell_other (by have := h6 k hk'; omega), setCell_other (by have := h6 k hk'; omega)])
/-- What policy answers. -/
def PolicyOk : Prop := ∀ (v1 v2 : Value) (es ats : List (List UInt8)) (w : World), StrsAt w v1 es → StrsAt w v2 ats → (∀ e ∈ es ++ ats, e.length ≤ 140737488355328) → es.length ≤ 140737488355328 → ats.length ≤ 140737488355328 →
  Calls Tryz.prog 19 #[v1, v2] w fun e w' => ∃ ev av, e = .returned (.agg #[ev, av]) ∧ PolAt w' ev av (polOf es ats) ∧ Kept [] w w'
end Go.Proofs.YtlpmjpmefdpcmaaGreatDoor
/- The reference's isPolicy. -/
namespace Go.Proofs.YtlpmjpmefdpcmaaGreatDoor
open Go.RowKit Scrub Go.Shelf
set_option maxRecDepth 100000 in
theorem append_strs (w : World) (ty : TypeId) (v v2 : Value) (l m : List (List UInt8)) (h : SOwn w v l) (h2 : StrsAt w v2 m) (hb : l.length + m.length ≤ 1000) :
    ∃ v' w', (Builtin.append_ #[22, 22] ty #[v, v2]).run Tryz.prog w = .ok v' w' ∧ SOwn w' v' (l ++ m) ∧ Kept v.ownBlock.toList w w' ∧ Moved w v v' := by
  obtain ⟨i0, hi, hz0, hz1, hz2⟩ := info_parts infoStr
  obtain ⟨a, c, rfl, hc⟩ := h2
  cases a with
  | none =>
    have hm : m = [] := by
      cases m with
      | nil => rfl
      | cons x t =>
        obtain ⟨g, o, e, _⟩ := hc 0 (by simp)
        cases e
    subst hm
    refine ⟨v, w, ?_, by rw [List.append_nil]; exact h, Kept.refl _ _, .inl rfl⟩
    rcases h.2 with ⟨rfl, h0⟩ | ⟨g, cap, cur, rfl, _, _, hnc, _⟩
    · simp [Builtin.append_, run_underlying Tryz.underlying22, sizeOf, typeInfo, hi, Builtin.lenOf, Builtin.firstCells]
    · simp [Builtin.append_, run_underlying Tryz.underlying22, sizeOf, typeInfo, hi, Builtin.lenOf, Builtin.firstCells, hnc, storeCells]
  | some ad =>
    have hl : (strCells m).length = m.length * 1 := by simp [strCells]
    have hrf := run_append_fp (P := Tryz.prog) w 0 22 ty 9 i0 _ 1 16 Tryz.underlying22 hi hz0 hz1 hz2 rfl (by decide) v l.length (strCells l) h ad m.length c (strCells m) hl ?news ?one (by unfold maxLen; omega) (by omega) (Nat.zero_le _)
    · obtain ⟨v', w', hr, h3, h4, h5⟩ := hrf
      refine ⟨v', w', hr, ?_, Kept.own h4, h5⟩
      unfold SOwn
      have e : strCells (l ++ m) = strCells l ++ strCells m := by simp [strCells]
      rw [List.length_append, e]
      exact h3
    case news =>
      intro j u hj
      have hjl : j < m.length := by have := (List.getElem?_eq_some_iff.1 hj).1; omega
      obtain ⟨g2, o2, e2, c1⟩ := hc j hjl
      injection e2 with e2
      subst e2
      have hadd : (⟨g2, o2, none⟩ : Addr).add j = ⟨g2, o2 + j, none⟩ := by unfold Addr.add; split <;> simp_all
      rw [hadd, c1, ← hj]
      simp [strCells, hjl]
    case one =>
      intro u hu
      obtain ⟨x, _, rfl⟩ := List.mem_map.1 hu
      rfl
theorem wpList_append_strs (w : World) {ops : Array Oper} {rest : List Oper} {o : Oper} {a : Act} {Q : Exit → Act → World → Prop} (hgd : o.guard = none) (s x : Operand)
    (ho : o.op = .call { callee := .builtin .append, args := #[s, x], argTypes := #[22, 22] }) (v v2 : Value) (l m : List (List UInt8)) (hs : a.eval s = v) (hx : a.eval x = v2)
    (h1 : SOwn w v l) (h2 : StrsAt w v2 m) (hb : l.length + m.length ≤ 1000)
    (h : ∀ v' w', SOwn w' v' (l ++ m) → Kept v.ownBlock.toList w w' → Moved w v v' → wpList Tryz.prog ops Q rest (a.put o.dst v') w') : wpList Tryz.prog ops Q (o :: rest) a w := by
  refine wpList_plain hgd fun _ hK => ?_
  obtain ⟨v', w', hr, h3, h4, h5⟩ := append_strs w o.type v v2 l m h1 h2 hb
  unfold Oper.wp execOp
  simp only [ho, resolve, invoke, builtin, Sem.run_bind, Sem.run_pure, Result.andThen_ok, List.map_toArray, List.map_cons, List.map_nil, hs, hx, hr]
  exact hK _ _ (h v' w' h3 h4 h5)
theorem isPol_split (p : Pol) (h1 : p.1.length ≤ 12) (h2 : p.2.length ≤ 12) : isPolP p = !(p.1 ++ p.2).any noNameP := by
  unfold isPolP areNamesP
  rw [List.any_append, decide_eq_true h1, decide_eq_true h2]
  simp
theorem isPol_long1 (p : Pol) (h : 12 < p.1.length) : isPolP p = false := by
  unfold isPolP areNamesP
  rw [decide_eq_false (by omega)]
  rfl
theorem isPol_long2 (p : Pol) (h : 12 < p.2.length) : isPolP p = false := by
  unfold isPolP areNamesP
  rw [decide_eq_false (p := p.2.length ≤ 12) (by omega)]
  simp
set_option maxRecDepth 100000 in
set_option maxHeartbeats 4000000 in
theorem rIsPolicy_any (ev av : Value) (p : Pol) (w : World) (hp : PolAt w ev av p) :
    Calls Tryz.prog 65 #[.agg #[ev, av]] w fun e w' => e = .returned (.bool (isPolP p)) ∧ Kept [] w w' := by
  have HP : Hid (∀ w', Kept [] w w' → PolAt w' ev av p) := fun w' hk => hp.kept hk
  obtain ⟨a1, c1, rfl⟩ := hp.1.form
  obtain ⟨a2, c2, rfl⟩ := hp.2.form
  have HL1 : Hid (12 < p.1.length → isPolP p = false) := isPol_long1 p
  have HL2 : Hid (12 < p.2.length → isPolP p = false) := isPol_long2 p
  have HSP : Hid (p.1.length ≤ 12 → p.2.length ≤ 12 → isPolP p = !(p.1 ++ p.2).any noNameP) := isPol_split p
  clear hp
  generalize hn1 : p.1.length = n1 at *
  generalize hn2 : p.2.length = n2 at *
  have HN1 : Hid (p.1.length = n1) := hn1
  have HN2 : Hid (p.2.length = n2) := hn2
  clear hn1 hn2
  generalize isPolP p = IP at *
  have hk1 : Kept [] w (w.alloc (.cells #[.slice a1 n1 c1, .slice a2 n2 c2] 33)) := (Kept.refl [] w).alloc _
  have HG1 : Hid ((w.alloc (.cells #[.slice a1 n1 c1, .slice a2 n2 c2] 33)).heap[w.heap.size]? = some (.cells #[.slice a1 n1 c1, .slice a2 n2 c2] 33 (0, 0))) := heap_alloc_new w _
  by_cases h1 : 12 < n1
  · have h1' : (12 : Int) < (n1 : Int) := by omega
    obtain rfl := HL1.out h1
    go_enter Tryz.func65, Tryz.ntmps65
    go_wp2_with fail
    go_ret
    exact ⟨rfl, hk1⟩
  · have h1' : ((12 : Int) < (n1 : Int)) = False := by simp; omega
    by_cases h2 : 12 < n2
    · have h2' : (12 : Int) < (n2 : Int) := by omega
      obtain rfl := HL2.out h2
      go_enter Tryz.func65, Tryz.ntmps65
      go_wp2_with fail
      go_ret
      exact ⟨rfl, hk1⟩
    · have h2' : ((12 : Int) < (n2 : Int)) = False := by simp; omega
      have HIP : Hid _ := HSP.out (by omega) (by omega)
      have HLE : Hid ((p.1 ++ p.2).length ≤ 24) := by
        show _ ≤ _
        rw [List.length_append, HN1.out, HN2.out]
        omega
      clear HL1 HL2 HSP
      go_enter Tryz.func65, Tryz.ntmps65
      go_wp2_with (at_builtin; refine wpList_append_strs _ rfl _ _ rfl _ _ [] p.1 rfl rfl ?o1 ?s1 ?b1 ?_)
      case o1 => exact World.ownsRow_nil _ _ _ _
      case s1 => exact (HP.out _ hk1).1
      case b1 => rw [HN1.out]; simp; omega
      intro v3 w3 hown3 hkp3 hmv3
      have hk3 : Kept [] w w3 := hk1.trans hkp3
      have HO3 : Hid (SOwn w3 v3 p.1) := hown3
      have hbx3 := (hkp3.block w.heap.size (by simp) (by simp [Value.ownBlock])).trans HG1.out
      have HGE3 : Hid (∀ k, v3.ownBlock = some k → w.heap.size < k) := by
        intro k hk
        rcases hmv3 with hm | ⟨j, hm, hj⟩
        · rw [hm] at hk
          cases hk
        · rw [hm] at hk
          injection hk with hk
          simp at hj
          omega
      have HBX3 : Hid _ := hbx3
      have q1 : w3.cell? ⟨w.heap.size, 1, none⟩ = some (.slice a2 n2 c2) := by unfold World.cell?; rw [hbx3]; rfl
      obtain ⟨a3, c3, rfl⟩ := ownsRow_form hown3
      clear hbx3 hown3 hkp3 hmv3 hk1
      go_wp2_with (at_builtin; refine wpList_append_strs _ rfl _ _ rfl _ _ p.1 p.2 rfl rfl ?o2 ?s2 ?b2 ?_)
      case o2 => exact HO3.out
      case s2 => exact (HP.out _ hk3).2
      case b2 => rw [HN1.out, HN2.out]; omega
      intro v4 w4 hown4 hkp4 hmv4
      have hk4 : Kept [] w w4 := hk3.trans_new hkp4 (fun b hb => .inr (Nat.le_of_lt (HGE3.out b (by simpa using hb))))
      obtain ⟨a4, c4, hv4, hcl⟩ := SOwn.strs hown4
      subst hv4
      have HCL : Hid _ := hcl
      clear hcl hown4 hkp4 hmv4 HO3 HGE3 HBX3
      generalize p.1 ++ p.2 = l at *
      obtain ⟨L, HLL⟩ : ∃ L, Hid (l.length = L) := ⟨_, rfl⟩
      have hL24 : L ≤ 24 := by have := HLE.out; have := HLL.out; omega
      rw [HLL.out]
      go_wp2_with fail
      go_loopg [4] L (fun g x wr => ∃ k : Nat, k ≤ L ∧ g = L - k ∧ x = .int .i64 (k : Int) ∧ wr = w4 ∧ l.any noNameP = (l.drop k).any noNameP)
      case atStart => exact ⟨0, by omega, rfl, rfl, rfl, by simp⟩
      case round =>
        obtain ⟨k, hk, hgk, rfl, rfl, hno⟩ := hrel
        have HG : Hid _ := hgk
        have HNO : Hid _ := hno
        clear hgk hno
        have hge : (0 : Int) ≤ (k : Int) := by omega
        by_cases hlt : k < L
        · have hlt' : (k : Int) < (L : Int) := by omega
          have hltl : k < l.length := by rw [HLL.out]; exact hlt
          obtain ⟨g, o, rfl, c0⟩ := HCL.out k hltl
          have hd : (l.drop k).any noNameP = (noNameP l[k] || (l.drop (k + 1)).any noNameP) := by rw [List.drop_eq_getElem_cons hltl]; rfl
          have HD : Hid _ := hd
          clear hd
          generalize l[k] = x at *
          cases hx : x with
          | nil =>
            subst hx
            go_wp2_with fail
            go_ret
            refine ⟨?_, hk4⟩
            rw [HIP.out, HNO.out, HD.out]
            rfl
          | cons y t =>
            have hsz : (⟨x.toArray⟩ : ByteArray).size = x.length := by simp [ByteArray.size]
            have hne : x.isEmpty = false := by
              rw [hx]
              rfl
            have hnn : noNameP x = decide (20 < x.length) := by
              unfold noNameP
              rw [hx]
              simp
            have HNN : Hid _ := hnn
            clear hx hnn
            by_cases h20 : 20 < x.length
            · have h20' : (20 : Int) < (x.length : Int) := by omega
              go_wp2_with fail
              go_ret
              refine ⟨?_, hk4⟩
              rw [HIP.out, HNO.out, HD.out, HNN.out, decide_eq_true h20]
              rfl
            · have h20' : ((20 : Int) < (x.length : Int)) = False := by simp; omega
              go_wp2_with fail
              go_roundg (L - (k + 1))
              case measure => rw [HG.out]; omega
              case rel => exact ⟨k + 1, by omega, rfl, by first | rfl | congr 1, rfl, by rw [HNO.out, HD.out, HNN.out, decide_eq_false h20]; rfl⟩
        · have hlt' : ((k : Int) < (L : Int)) = False := by simp; omega
          go_wp2_with fail
          go_ret
          refine ⟨?_, hk4⟩
          rw [HIP.out, HNO.out, List.drop_eq_nil_of_le (by rw [HLL.out]; omega)]
          rfl
end Go.Proofs.YtlpmjpmefdpcmaaGreatDoor
