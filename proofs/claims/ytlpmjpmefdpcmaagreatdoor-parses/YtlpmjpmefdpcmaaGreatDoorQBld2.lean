import Derived.Test.YtlpmjpmefdpcmaaGreatDoorQPure5
import Derived.Test.YtlpmjpmefdpcmaaGreatDoorQAttrs
import Derived.Deep.RegionLaw
namespace Go.Proofs.YtlpmjpmefdpcmaaGreatDoor
open Go.RowKit Scrub
set_option maxHeartbeats 1000000 in
theorem kindOf_any (s : ByteArray) (w : World) :
    Calls Tryz.prog 169 #[.string s] w fun e w' => e = .returned (.int .i64 (kindP s.data.toList)) ∧ w' = w := by
  go_enter Tryz.func169, Tryz.ntmps169
  go_wp2
  all_goals
    go_ret
    refine ⟨ret_int ?_, rfl⟩
    simp only [Go.ByteArray.toList_eq, beq_iff_eq, beq_eq_false_iff_ne, ne_eq] at *
    unfold kindP
    first
      | (simp only [*, if_true, if_false, true_or, or_true, or_false]; done)
      | (simp [*]; done)
      | (simp_all; done)
end Go.Proofs.YtlpmjpmefdpcmaaGreatDoor
/- Trees in memory, told as what is read from left to right: opens, texts, closes. No function of the program in it. -/
namespace Go.Proofs.YtlpmjpmefdpcmaaGreatDoor
open Go.RowKit Scrub Go.Shelf
/-- A place in a tree: none: an element is closed; a text; an element is opened. -/
abbrev Ev := Option (List UInt8 ⊕ (List UInt8 × List (List UInt8 × List UInt8)))
abbrev evText (t : List UInt8) : Ev := some (.inl t)
abbrev evOpen (n : List UInt8) (al : List (List UInt8 × List UInt8)) : Ev := some (.inr (n, al))
/-- A node: what its cells hold, and what they stand for. -/
structure NodeR where
  name : List UInt8
  text : List UInt8
  av : Value
  kv : Value
  al : List (List UInt8 × List UInt8)
  ev : List Ev
  fp : List Nat
def NodeR.cells (n : NodeR) : List Value := [.string ⟨n.name.toArray⟩, n.av, n.kv, .string ⟨n.text.toArray⟩]
def NodeR.evs (n : NodeR) : List Ev := if n.name = [] then [evText n.text] else evOpen n.name n.al :: n.ev ++ [none]
def cellsOf (ns : List NodeR) : List Value := ns.flatMap NodeR.cells
def evsOf (ns : List NodeR) : List Ev := ns.flatMap NodeR.evs
def fpOf (ns : List NodeR) : List Nat := ns.flatMap NodeR.fp
/-- Is it what it stands for, its kids by R? -/
def NodeOk (R : World → Value → List Ev → List Nat → Prop) (w : World) (n : NodeR) : Prop :=
  ∃ kfp, AOwn w n.av n.al ∧ R w n.kv n.ev kfp ∧ n.fp = n.av.ownBlock.toList ++ kfp ∧ (n.name = [] → n.text ≠ [] ∧ n.al = [] ∧ n.ev = []) ∧ (n.name ≠ [] → n.text = [])
/-- A list of nodes that is owned, however deep (to d). -/
def Rep : Nat → World → Value → List Ev → List Nat → Prop
  | 0, _, v, ev, fp => v = .slice none 0 0 ∧ ev = [] ∧ fp = []
  | d + 1, w, v, ev, fp => ∃ ns : List NodeR, w.ownsRow 0 42 4 v ns.length (cellsOf ns) ∧ (∀ n ∈ ns, NodeOk (Rep d) w n) ∧ ev = evsOf ns ∧ fp = v.ownBlock.toList ++ fpOf ns
theorem cellsOf_length (ns : List NodeR) : (cellsOf ns).length = ns.length * 4 := by
  induction ns with
  | nil => rfl
  | cons a t ih => simp [cellsOf, NodeR.cells] at ih ⊢; omega
theorem cellsOf_append (a b : List NodeR) : cellsOf (a ++ b) = cellsOf a ++ cellsOf b := by simp [cellsOf]
theorem evsOf_append (a b : List NodeR) : evsOf (a ++ b) = evsOf a ++ evsOf b := by simp [evsOf]
theorem fpOf_append (a b : List NodeR) : fpOf (a ++ b) = fpOf a ++ fpOf b := by simp [fpOf]
theorem mem_fpOf {n : NodeR} {ns : List NodeR} (h : n ∈ ns) {k : Nat} (hk : k ∈ n.fp) : k ∈ fpOf ns := List.mem_flatMap.2 ⟨n, h, hk⟩
theorem cellsOf_get : ∀ (ns : List NodeR) (i : Nat) (h : i < ns.length),
    (cellsOf ns)[i * 4]? = some (.string ⟨ns[i].name.toArray⟩) ∧ (cellsOf ns)[i * 4 + 1]? = some ns[i].av ∧ (cellsOf ns)[i * 4 + 2]? = some ns[i].kv ∧ (cellsOf ns)[i * 4 + 3]? = some (.string ⟨ns[i].text.toArray⟩)
  | [], i, h => by simp at h
  | a :: t, 0, _ => by simp [cellsOf, NodeR.cells]
  | a :: t, i + 1, h => by
    have ih := cellsOf_get t i (by simpa using h)
    have e : cellsOf (a :: t) = a.cells ++ cellsOf t := by simp [cellsOf]
    have e0 : a.cells.length = 4 := rfl
    rw [e, List.getElem?_append_right (by rw [e0]; omega), List.getElem?_append_right (by rw [e0]; omega), List.getElem?_append_right (by rw [e0]; omega), List.getElem?_append_right (by rw [e0]; omega), e0]
    have e1 : (i + 1) * 4 - 4 = i * 4 := by omega
    have e2 : (i + 1) * 4 + 1 - 4 = i * 4 + 1 := by omega
    have e3 : (i + 1) * 4 + 2 - 4 = i * 4 + 2 := by omega
    have e4 : (i + 1) * 4 + 3 - 4 = i * 4 + 3 := by omega
    rw [e1, e2, e3, e4]
    exact ih
/-- The blocks of fp are as they were: so is the tree. -/
theorem ownsRow_same {w w' : World} {base : Nat} {e : TypeId} {size : Nat} {v : Value} {n : Nat} {xs : List Value} (h : w.ownsRow base e size v n xs) (hs : ∀ k, v.ownBlock = some k → w'.heap[k]? = w.heap[k]?) : w'.ownsRow base e size v n xs := by
  refine ⟨h.1, ?_⟩
  rcases h.2 with h0 | ⟨g, cap, cur, rfl, hb, hgg, rest⟩
  · exact .inl h0
  · exact .inr ⟨g, cap, cur, rfl, hb, (hs g rfl).trans hgg, rest⟩
theorem NodeOk.same {R : World → Value → List Ev → List Nat → Prop} {w w' : World} (hR : ∀ v ev fp, R w v ev fp → (∀ k, k ∈ fp → w'.heap[k]? = w.heap[k]?) → R w' v ev fp) {n : NodeR} (h : NodeOk R w n) (hs : ∀ k, k ∈ n.fp → w'.heap[k]? = w.heap[k]?) : NodeOk R w' n := by
  obtain ⟨kfp, h1, h2, h3, h4, h5⟩ := h
  refine ⟨kfp, ownsRow_same h1 (fun k hk => hs k (by rw [h3, hk]; simp)), hR _ _ _ h2 (fun k hk => hs k (by rw [h3]; simp [hk])), h3, h4, h5⟩
theorem Rep.same : ∀ (d : Nat) {w w' : World} (v : Value) (ev : List Ev) (fp : List Nat), Rep d w v ev fp → (∀ k, k ∈ fp → w'.heap[k]? = w.heap[k]?) → Rep d w' v ev fp
  | 0, _, _, _, _, _, h, _ => h
  | d + 1, w, w', v, ev, fp, h, hs => by
    obtain ⟨ns, h1, h2, h3, h4⟩ := h
    refine ⟨ns, ownsRow_same h1 (fun k hk => hs k (by rw [h4, hk]; simp)), fun n hn => ?_, h3, h4⟩
    exact (h2 n hn).same (fun v ev fp hr hs' => Rep.same d v ev fp hr hs') (fun k hk => hs k (by rw [h4]; exact List.mem_append.2 (.inr (mem_fpOf hn hk))))
theorem NodeOk.mono {R R' : World → Value → List Ev → List Nat → Prop} {w : World} (hR : ∀ v ev fp, R w v ev fp → R' w v ev fp) {n : NodeR} (h : NodeOk R w n) : NodeOk R' w n := by
  obtain ⟨kfp, h1, h2, h3, h4, h5⟩ := h
  exact ⟨kfp, h1, hR _ _ _ h2, h3, h4, h5⟩
theorem Rep.succ : ∀ (d : Nat) {w : World} (v : Value) (ev : List Ev) (fp : List Nat), Rep d w v ev fp → Rep (d + 1) w v ev fp
  | 0, w, v, ev, fp, h => by
    obtain ⟨rfl, rfl, rfl⟩ := h
    exact ⟨[], World.ownsRow_nil _ _ _ _, by simp, rfl, rfl⟩
  | d + 1, w, v, ev, fp, h => by
    obtain ⟨ns, h1, h2, h3, h4⟩ := h
    exact ⟨ns, h1, fun n hn => (h2 n hn).mono (fun v ev fp hr => Rep.succ d v ev fp hr), h3, h4⟩
theorem Rep.le {d d' : Nat} (hd : d ≤ d') {w : World} {v : Value} {ev : List Ev} {fp : List Nat} (h : Rep d w v ev fp) : Rep d' w v ev fp := by
  induction hd with
  | refl => exact h
  | step _ ih => exact Rep.succ _ _ _ _ ih
/-- Of whatever depth. -/
def Tree (w : World) (v : Value) (ev : List Ev) (fp : List Nat) : Prop := ∃ d, Rep d w v ev fp
theorem Tree.same {w w' : World} {v : Value} {ev : List Ev} {fp : List Nat} (h : Tree w v ev fp) (hs : ∀ k, k ∈ fp → w'.heap[k]? = w.heap[k]?) : Tree w' v ev fp := by
  obtain ⟨d, h⟩ := h
  exact ⟨d, Rep.same d _ _ _ h hs⟩
theorem Tree.nil (w : World) : Tree w (.slice none 0 0) [] [] := ⟨0, rfl, rfl, rfl⟩
theorem Tree.mk {w : World} {v : Value} {ns : List NodeR} (h1 : w.ownsRow 0 42 4 v ns.length (cellsOf ns)) (h2 : ∀ n ∈ ns, NodeOk Tree w n) : Tree w v (evsOf ns) (v.ownBlock.toList ++ fpOf ns) := by
  have hd : ∀ l : List NodeR, (∀ n ∈ l, NodeOk Tree w n) → ∃ d, ∀ n ∈ l, NodeOk (Rep d) w n := by
    intro l
    induction l with
    | nil => intro _; exact ⟨0, by simp⟩
    | cons a t ih =>
      intro h
      obtain ⟨d1, hd1⟩ := ih (fun n hn => h n (List.mem_cons_of_mem _ hn))
      obtain ⟨kfp, a1, ⟨d2, a2⟩, a3, a4, a5⟩ := h a List.mem_cons_self
      refine ⟨max d1 d2, fun n hn => ?_⟩
      rcases List.mem_cons.1 hn with rfl | hn
      · exact ⟨kfp, a1, a2.le (Nat.le_max_right _ _), a3, a4, a5⟩
      · exact (hd1 n hn).mono (fun v ev fp hr => hr.le (Nat.le_max_left _ _))
  obtain ⟨d, hd⟩ := hd ns h2
  exact ⟨d + 1, ns, h1, hd, rfl, rfl⟩
theorem Tree.open {w : World} {v : Value} {ev : List Ev} {fp : List Nat} (h : Tree w v ev fp) : ∃ ns : List NodeR, w.ownsRow 0 42 4 v ns.length (cellsOf ns) ∧ (∀ n ∈ ns, NodeOk Tree w n) ∧ ev = evsOf ns ∧ fp = v.ownBlock.toList ++ fpOf ns := by
  obtain ⟨d, h⟩ := h
  obtain ⟨ns, h1, h2, h3, h4⟩ := Rep.succ d _ _ _ h
  exact ⟨ns, h1, fun n hn => (h2 n hn).mono (fun v ev fp hr => ⟨d, hr⟩), h3, h4⟩
theorem NodeOk.keep {w w' : World} {n : NodeR} (h : NodeOk Tree w n) (hs : ∀ k, k ∈ n.fp → w'.heap[k]? = w.heap[k]?) : NodeOk Tree w' n := h.same (fun _ _ _ hr hs' => hr.same hs') hs
end Go.Proofs.YtlpmjpmefdpcmaaGreatDoor
/- The builder in memory. No function of the program in it. -/
namespace Go.Proofs.YtlpmjpmefdpcmaaGreatDoor
open Go.RowKit Scrub Go.Shelf
theorem own_setCell {w : World} {base : Nat} {e : TypeId} {size g n cap : Nat} {xs : List Value} (h : w.ownsRow base e size (.slice (some ⟨g, 0, none⟩) n cap) n xs) (i : Nat) (_ : i < xs.length) (u : Value) :
    (w.setCell ⟨g, i, none⟩ u).ownsRow base e size (.slice (some ⟨g, 0, none⟩) n cap) n (xs.set i u) := by
  obtain ⟨h1, h2⟩ := h
  refine ⟨by simpa using h1, ?_⟩
  rcases h2 with ⟨h2, _⟩ | ⟨g', cap', cur, hv, hb, hg, hnc, hcm, hcs, htk⟩
  · cases h2
  · injection hv with e1 e2 e3
    injection e1 with e1
    injection e1 with e1
    subst e1 e3
    refine .inr ⟨g, cap, cur.setIfInBounds i u, rfl, hb, ?_, hnc, hcm, by simpa using hcs, ?_⟩
    · simp [World.setCell, Array.getElem?_modify, hg]
    · rw [← htk]
      simp [List.take_set]
theorem own_set4 {w : World} {base : Nat} {e : TypeId} {g n cap : Nat} {xs : List Value} {a b c d : Value} (h : w.ownsRow base e 4 (.slice (some ⟨g, 0, none⟩) (n + 1) cap) (n + 1) (xs ++ [a, b, c, d])) (v0 v1 v2 v3 : Value) :
    ((((w.setCell ⟨g, n * 4, none⟩ v0).setCell ⟨g, n * 4 + 1, none⟩ v1).setCell ⟨g, n * 4 + 2, none⟩ v2).setCell ⟨g, n * 4 + 3, none⟩ v3).ownsRow base e 4 (.slice (some ⟨g, 0, none⟩) (n + 1) cap) (n + 1) (xs ++ [v0, v1, v2, v3]) := by
  have hl : xs.length = n * 4 := by
    have := h.1
    simp at this
    omega
  have h0 := own_setCell h (n * 4) (by simp; omega) v0
  have h1 := own_setCell h0 (n * 4 + 1) (by simp; omega) v1
  have h2 := own_setCell h1 (n * 4 + 2) (by simp; omega) v2
  have h3 := own_setCell h2 (n * 4 + 3) (by simp; omega) v3
  have e0 : (((((xs ++ [a, b, c, d]).set (n * 4) v0).set (n * 4 + 1) v1).set (n * 4 + 2) v2).set (n * 4 + 3) v3) = xs ++ [v0, v1, v2, v3] := by
    rw [← hl]
    simp [List.set_append_right]
  rw [e0] at h3
  exact h3
theorem step_append_fp {P : Program} {ops : Array Oper} {o : Oper} {a : Act} {w : World} {K : Act → World → Prop} {Q : Exit → Act → World → Prop} {E : Prop}
    (hgd : o.guard = none) (s x : Operand) (t : TypeId) (hop : o.op = Op.call { callee := Callee.builtin Builtin.append, args := #[s, x], argTypes := #[t, t] })
    (base : Nat) (e : TypeId) (i : TypeInfo) (z : Value) (size bytes : Nat) (ht : P.underlying t = some (.slice e)) (hi : P.info? e = some i) (hz : i.zero = some z)
    (hsize : i.size = size) (hby : i.bytes = bytes) (hzs : z.cells.size = size) (hsz : 0 < size)
    (v : Value) (n : Nat) (xs : List Value) (hs : a.eval s = v) (hown : w.ownsRow base e size v n xs)
    (ad : Addr) (m c : Nat) (news : List Value) (hx : a.eval x = .slice (some ad) m c) (hl : news.length = m * size) (hnews : ∀ j u, news[j]? = some u → w.cell? (ad.add j) = some u) (h1 : ∀ u ∈ news, u.oneCell' = true)
    (h63 : n + m ≤ maxLen) (hbytes : (n + m) * bytes ≤ 140737488355328) (hbase : base ≤ w.heap.size)
    (hK : ∀ v' w', w'.ownsRow base e size v' (n + m) (xs ++ news) → w.grownBy w' v.ownBlock → Moved w v v' → K (a.put o.dst v') w') :
    if Region.wanted o (yielded ops a.tmps) = true then Oper.wp P o a w K Q else E := by
  have hw : Region.wanted o (yielded ops a.tmps) = true := by simp [Region.wanted, hgd]
  rw [if_pos hw]
  exact wp_append_fp w s x t hop base e i z size bytes ht hi hz hsize hby hzs hsz v n xs hs hown ad m c news hx hl hnews h1 h63 hbytes hbase hK
/-- The builder: its two lists; what is open stands outermost first. F: all blocks that are its own. -/
def BAt (w : World) (bb : Nat) (tv ov : Value) (ts os : List NodeR) (F : List Nat) : Prop :=
  (∃ t, w.heap[bb]? = some (.cells #[tv, ov] t (0, 0))) ∧
  (w.ownsRow 0 42 4 tv ts.length (cellsOf ts) ∧ ∀ n ∈ ts, NodeOk Tree w n) ∧
  (w.ownsRow 0 42 4 ov os.length (cellsOf os) ∧ ∀ n ∈ os, NodeOk Tree w n) ∧
  (∀ k, k ∈ F ↔ k ∈ bb :: (tv.ownBlock.toList ++ ov.ownBlock.toList ++ fpOf ts ++ fpOf os)) ∧ (bb :: (tv.ownBlock.toList ++ ov.ownBlock.toList ++ fpOf ts ++ fpOf os)).Nodup ∧ (∀ n ∈ os, n.name ≠ []) ∧ ∀ k ∈ F, k < w.heap.size
theorem BAt.same {w w' : World} {bb : Nat} {tv ov : Value} {ts os : List NodeR} {F : List Nat} (h : BAt w bb tv ov ts os F) (hs : ∀ k, k ∈ F → w'.heap[k]? = w.heap[k]?) (hz : w.heap.size ≤ w'.heap.size) : BAt w' bb tv ov ts os F := by
  obtain ⟨⟨t, h1⟩, ⟨h2, h3⟩, ⟨h4, h5⟩, h6, h7, h8, h9⟩ := h
  have m1 : ∀ k, k ∈ bb :: (tv.ownBlock.toList ++ ov.ownBlock.toList ++ fpOf ts ++ fpOf os) → w'.heap[k]? = w.heap[k]? := fun k hk => hs k ((h6 k).2 hk)
  refine ⟨⟨t, (m1 bb (by simp)).trans h1⟩, ⟨ownsRow_same h2 (fun k hk => m1 k (by rw [hk]; simp)), fun n hn => (h3 n hn).keep (fun k hk => m1 k ?_)⟩, ⟨ownsRow_same h4 (fun k hk => m1 k (by rw [hk]; simp)), fun n hn => (h5 n hn).keep (fun k hk => m1 k ?_)⟩, h6, h7, h8, fun k hk => Nat.lt_of_lt_of_le (h9 k hk) hz⟩
  · have := mem_fpOf hn hk
    simp [this]
  · have := mem_fpOf hn hk
    simp [this]
theorem BAt.kept {w w' : World} {bb : Nat} {tv ov : Value} {ts os : List NodeR} {F S : List Nat} (h : BAt w bb tv ov ts os F) (hk : Kept S w w') (hn : ∀ k, k ∈ F → k ∉ S) : BAt w' bb tv ov ts os F :=
  h.same (fun k hf => hk.block k (h.2.2.2.2.2.2 k hf) (hn k hf)) hk.size
theorem BAt.cells {w : World} {bb : Nat} {tv ov : Value} {ts os : List NodeR} {F : List Nat} (h : BAt w bb tv ov ts os F) :
    w.cell? ⟨bb, 0, none⟩ = some tv ∧ w.cell? ⟨bb, 1, none⟩ = some ov ∧ w.frozen? ⟨bb, 0, none⟩ = false ∧ w.frozen? ⟨bb, 1, none⟩ = false := by
  obtain ⟨⟨t, h1⟩, _⟩ := h
  exact ⟨by simp [World.cell?, h1], by simp [World.cell?, h1], by simp [World.frozen?, h1], by simp [World.frozen?, h1]⟩
/-- What has come so far, and what is open. -/
def outOf (ts os : List NodeR) : List Ev := evsOf ts ++ os.flatMap (fun n => evOpen n.name n.al :: n.ev)
def Bld (w : World) (bb : Nat) (F : List Nat) (E : List Ev) (st : List (List UInt8)) : Prop :=
  ∃ tv ov ts os, BAt w bb tv ov ts os F ∧ E = outOf ts os ∧ st = os.map NodeR.name
theorem Bld.kept {w w' : World} {bb : Nat} {F S : List Nat} {E : List Ev} {st : List (List UInt8)} (h : Bld w bb F E st) (hk : Kept S w w') (hn : ∀ k, k ∈ F → k ∉ S) : Bld w' bb F E st := by
  obtain ⟨tv, ov, ts, os, h1, h2, h3⟩ := h
  exact ⟨tv, ov, ts, os, h1.kept hk hn, h2, h3⟩
/-- The blocks of F' are those of F, or new. -/
def Grow (F : List Nat) (w : World) (F' : List Nat) : Prop := ∀ k, k ∈ F' → k ∈ F ∨ w.heap.size ≤ k
theorem Grow.refl (F : List Nat) (w : World) : Grow F w F := fun _ h => .inl h
theorem Grow.trans {F F' F'' : List Nat} {w w' : World} (h : Grow F w F') (h' : Grow F' w' F'') (hz : w.heap.size ≤ w'.heap.size) : Grow F w F'' := by
  intro k hk
  rcases h' k hk with h1 | h1
  · exact h k h1
  · exact .inr (Nat.le_trans hz h1)
end Go.Proofs.YtlpmjpmefdpcmaaGreatDoor
/- What an append does to the builder. No function of the program in it. -/
namespace Go.Proofs.YtlpmjpmefdpcmaaGreatDoor
open Go.RowKit Scrub Go.Shelf
/-- Four cells of a row are written. -/
def put4 (w : World) (g o : Nat) (x : NodeR) : World :=
  (((w.setCell ⟨g, o, none⟩ (.string ⟨x.name.toArray⟩)).setCell ⟨g, o + 1, none⟩ x.av).setCell ⟨g, o + 2, none⟩ x.kv).setCell ⟨g, o + 3, none⟩ (.string ⟨x.text.toArray⟩)
theorem put4_kept {S : List Nat} {a w : World} (h : Kept S a w) {g : Nat} (hg : g ∈ S ∨ a.heap.size ≤ g) (o : Nat) (x : NodeR) : Kept S a (put4 w g o x) :=
  (((h.setCell (p := ⟨g, o, none⟩) hg _).setCell (p := ⟨g, o + 1, none⟩) hg _).setCell (p := ⟨g, o + 2, none⟩) hg _).setCell (p := ⟨g, o + 3, none⟩) hg _
theorem row_add {w w1 w2 : World} {v : Value} {ns : List NodeR} {g cap : Nat} {z0 z1 z2 z3 : Value} (hk1 : Kept [] w w1)
    (hown : w2.ownsRow 0 42 4 (.slice (some ⟨g, 0, none⟩) (ns.length + 1) cap) (ns.length + 1) (cellsOf ns ++ [z0, z1, z2, z3])) (hgr : w1.grownBy w2 v.ownBlock) (hmv : Moved w1 v (.slice (some ⟨g, 0, none⟩) (ns.length + 1) cap)) (x : NodeR) :
    (put4 w2 g (ns.length * 4) x).ownsRow 0 42 4 (.slice (some ⟨g, 0, none⟩) (ns.length + 1) cap) (ns ++ [x]).length (cellsOf (ns ++ [x])) ∧ Moved w v (.slice (some ⟨g, 0, none⟩) (ns.length + 1) cap) ∧ Kept v.ownBlock.toList w (put4 w2 g (ns.length * 4) x) := by
  refine ⟨?_, hmv.kept hk1.size, ?_⟩
  · rw [cellsOf_append, List.length_append]
    exact own_set4 hown _ _ _ _
  · refine put4_kept ((hk1.mono (by simp)).trans (Kept.own hgr)) ?_ _ _
    rcases hmv with h | ⟨k, h1, h2⟩
    · left
      rw [← h]
      simp [Value.ownBlock]
    · right
      simp [Value.ownBlock] at h1
      have := hk1.size
      omega
theorem nodup_new {bb : Nat} {B B' R X : List Nat} {n : Nat} (h : (bb :: (B ++ R)).Nodup) (hlt : ∀ k, k ∈ (bb :: (B ++ R)) → k < n) (hB : B' = B ∨ ∃ k, B' = [k] ∧ n ≤ k) (hX : X.Nodup) (hXF : ∀ k, k ∈ X → k ∉ (bb :: (B ++ R)) ∧ k < n) : (bb :: (B' ++ (R ++ X))).Nodup := by
  rw [List.nodup_cons, List.nodup_append] at h
  obtain ⟨hb, hB0, hR, hd⟩ := h
  rw [List.nodup_cons, List.nodup_append, List.nodup_append]
  have hRX : R.Nodup ∧ X.Nodup ∧ ∀ a ∈ R, ∀ b ∈ X, a ≠ b := ⟨hR, hX, fun a ha b hb' e => (hXF b hb').1 (by rw [← e]; simp [ha])⟩
  rcases hB with rfl | ⟨k, rfl, hk⟩
  · refine ⟨?_, hB0, hRX, ?_⟩
    · intro hm
      rcases List.mem_append.1 hm with hm | hm
      · exact hb (by simp [hm])
      · rcases List.mem_append.1 hm with hm | hm
        · exact hb (by simp [hm])
        · exact (hXF _ hm).1 (by simp)
    · intro a ha b hb' e
      rcases List.mem_append.1 hb' with hb' | hb'
      · exact hd a ha b hb' e
      · exact (hXF b hb').1 (by rw [← e]; simp [ha])
  · refine ⟨?_, by simp, hRX, ?_⟩
    · intro hm
      rcases List.mem_append.1 hm with hm | hm
      · have := hlt bb (by simp)
        simp at hm
        omega
      · rcases List.mem_append.1 hm with hm | hm
        · exact hb (by simp [hm])
        · exact (hXF _ hm).1 (by simp)
    · intro a ha b hb' e
      simp at ha
      subst ha
      subst e
      rcases List.mem_append.1 hb' with hb' | hb'
      · have := hlt a (by simp [hb'])
        omega
      · have := (hXF a hb').2
        omega
theorem moved_list {w : World} {v v' : Value} (h : Moved w v v') : v'.ownBlock.toList = v.ownBlock.toList ∨ ∃ k, v'.ownBlock.toList = [k] ∧ w.heap.size ≤ k := by
  rcases h with h | ⟨k, h1, h2⟩
  · left; rw [h]
  · right; exact ⟨k, by rw [h1]; rfl, h2⟩
end Go.Proofs.YtlpmjpmefdpcmaaGreatDoor
