import Derived.Test.YtlpmjpmefdpcmaaGreatDoorQFlt3
import Derived.Test.YtlpmjpmefdpcmaaGreatDoorQText0
import Derived.Test.YtlpmjpmefdpcmaaGreatDoorQTok2
/- The list that is left, in memory. No function of the program in it. -/
namespace Go.Proofs.YtlpmjpmefdpcmaaGreatDoor
open Go.RowKit Scrub Go.Shelf
/-- A node is put behind a list: a text onto the text just ahead of it. -/
def joinR (ns : List NodeR) (x : NodeR) : List NodeR :=
  if x.name = [] ∧ ns ≠ [] ∧ (ns.getLastD x).name = [] then ns.dropLast ++ [(ns.getLastD x).withText x.text] else ns ++ [x]
theorem joinR_text (ns : List NodeR) (z x : NodeR) (hx : x.name = []) (hz : z.name = []) : joinR (ns ++ [z]) x = ns ++ [z.withText x.text] := by simp [joinR, hx, hz]
theorem joinR_elem (ns : List NodeR) (z x : NodeR) (hz : z.name ≠ []) : joinR (ns ++ [z]) x = ns ++ [z] ++ [x] := by simp [joinR, hz]
theorem joinR_nil (x : NodeR) : joinR [] x = [x] := by simp [joinR]
theorem joinR_name (ns : List NodeR) (x : NodeR) (hx : x.name ≠ []) : joinR ns x = ns ++ [x] := by simp [joinR, hx]
theorem evsOf_one (x : NodeR) : evsOf [x] = x.evs := by simp [evsOf]
theorem evs_text {x : NodeR} (hx : x.name = []) : x.evs = [evText x.text] := by simp [NodeR.evs, hx]
theorem evs_elem {x : NodeR} (hx : x.name ≠ []) : x.evs = evOpen x.name x.al :: (x.ev ++ [none]) := by simp [NodeR.evs, hx]
theorem joinR_evs (ns : List NodeR) (x : NodeR) : evsOf (joinR ns x) = if x.name = [] then addText (evsOf ns) x.text else evsOf ns ++ x.evs := by
  by_cases hx : x.name = []
  · rw [if_pos hx]
    rcases List.eq_nil_or_concat ns with h0 | ⟨l, z, h0⟩
    · subst h0
      rw [joinR_nil, evsOf_one, evs_text hx]
      rfl
    · have h0' : ns = l ++ [z] := by simpa using h0
      subst h0'
      by_cases hz : z.name = []
      · rw [joinR_text l z x hx hz, evsOf_append, evsOf_append, evsOf_one, evsOf_one, evs_text hz, addText_text]
        rw [evs_text (x := z.withText x.text) hz]
        rfl
      · rw [joinR_elem l z x hz, evsOf_append, evsOf_append, evsOf_one, evsOf_one, evs_elem hz, evs_text hx]
        have e : evsOf l ++ evOpen z.name z.al :: (z.ev ++ [none]) = (evsOf l ++ evOpen z.name z.al :: z.ev) ++ [none] := by simp
        rw [e, addText_close]
  · rw [if_neg hx, joinR_name ns x hx, evsOf_append, evsOf_one]
theorem merge_append (P Q : List Ev) : mergeE (P ++ Q) = Q.foldl pushE (mergeE P) := by rw [← foldl_push_nil, List.foldl_append, foldl_push_nil]
theorem merge_right (A X : List Ev) : mergeE (A ++ mergeE X) = mergeE (A ++ X) := by rw [merge_append, merge_append, foldl_push, foldl_push, merge_noAdj (noAdj_merge X)]
theorem joinR_merge {ns : List NodeR} {x : NodeR} {P : List Ev} (h : evsOf ns = mergeE P) (hx : noAdj x.evs) : evsOf (joinR ns x) = mergeE (P ++ x.evs) := by
  rw [joinR_evs, merge_append, h]
  by_cases hn : x.name = []
  · rw [if_pos hn, evs_text hn]
    rfl
  · rw [if_neg hn]
    rw [evs_elem hn] at hx ⊢
    rw [push_elem, merge_noAdj (noAdj_left (a := x.ev) (b := [none]) hx)]
theorem evBulk_merge (l : List Ev) : evBulk (mergeE l) ≤ evBulk l := by
  have h1 := evBulk_w (a := 1) (b := 1) (c := 1) (by omega) (by omega) (by omega) (mergeE l)
  have h2 := merge_w 1 1 1 l
  have h3 := evW_bulk (a := 1) (b := 1) (c := 1) (M := 1) (by omega) (by omega) (by omega) l
  omega
theorem evBulk_raw (p : Pol) (l : List Ev) (st : List Nat) : evBulk (rawE p st l) ≤ evBulk l := by
  have h1 := evBulk_w (a := 1) (b := 1) (c := 1) (by omega) (by omega) (by omega) (rawE p st l)
  have h2 := raw_w 1 1 1 p l st
  have h3 := evW_bulk (a := 1) (b := 1) (c := 1) (M := 1) (by omega) (by omega) (by omega) l
  omega
theorem evBulk_evs (ns : List NodeR) : ns.length ≤ evBulk (evsOf ns) := by
  induction ns with
  | nil => simp
  | cons a t ih =>
    have e : evsOf (a :: t) = a.evs ++ evsOf t := by simp [evsOf]
    rw [e, evBulk_append]
    have : 1 ≤ evBulk a.evs := by
      by_cases h : a.name = []
      · rw [evs_text h]
        simp [evBulk]
      · rw [evs_elem h]
        simp [evBulk]
        omega
    simp
    omega
theorem evBulk_mem {ns : List NodeR} {x : NodeR} (h : x ∈ ns) : evBulk x.evs ≤ evBulk (evsOf ns) := by
  induction ns with
  | nil => simp at h
  | cons a t ih =>
    have e : evsOf (a :: t) = a.evs ++ evsOf t := by simp [evsOf]
    rw [e, evBulk_append]
    rcases List.mem_cons.1 h with rfl | h
    · omega
    · have := ih h
      omega
theorem noAdj_mem {ns : List NodeR} (hn : noAdj (evsOf ns)) {x : NodeR} (h : x ∈ ns) : noAdj x.evs := by
  obtain ⟨a, b, rfl⟩ := List.append_of_mem h
  have e : evsOf (a ++ x :: b) = evsOf a ++ (x.evs ++ evsOf b) := by simp [evsOf]
  rw [e] at hn
  exact noAdj_left (noAdj_right hn)
/-- A list of nodes of the call's own: its blocks are new (from lo on), and none of them is that of its nodes' lists. -/
def Left (lo : Nat) (w : World) (v : Value) (ns : List NodeR) : Prop :=
  w.ownsRow 0 42 4 v ns.length (cellsOf ns) ∧ (∀ n ∈ ns, NodeOk Tree w n) ∧ (∀ k, v.ownBlock = some k → lo ≤ k) ∧ ∀ n ∈ ns, ∀ k ∈ n.fp, (lo ≤ k ∧ k < w.heap.size) ∧ v.ownBlock ≠ some k
theorem Left.nil (lo : Nat) (w : World) : Left lo w (.slice none 0 0) [] := ⟨World.ownsRow_nil _ _ _ _, by simp, by simp [Value.ownBlock], by simp⟩
theorem own_lt {w : World} {base : Nat} {e : TypeId} {size : Nat} {v : Value} {n : Nat} {xs : List Value} (h : w.ownsRow base e size v n xs) {k : Nat} (hk : v.ownBlock = some k) : k < w.heap.size := by
  rcases h.2 with ⟨rfl, _⟩ | ⟨g, cap, cur, rfl, _, hgg, _⟩
  · simp [Value.ownBlock] at hk
  · have : g = k := by simpa [Value.ownBlock] using hk
    subst this
    exact (Array.getElem?_eq_some_iff.1 hgg).1
theorem Left.same {lo : Nat} {w w' : World} {v : Value} {ns : List NodeR} (h : Left lo w v ns) (hz : w.heap.size ≤ w'.heap.size) (hs : ∀ k, lo ≤ k → k < w.heap.size → w'.heap[k]? = w.heap[k]?) : Left lo w' v ns := by
  obtain ⟨h1, h2, h3, h4⟩ := h
  refine ⟨ownsRow_same h1 (fun k hk => hs k (h3 k hk) (own_lt h1 hk)), fun n hn => (h2 n hn).keep (fun k hk => hs k (h4 n hn k hk).1.1 (h4 n hn k hk).1.2), h3, fun n hn k hk => ⟨⟨(h4 n hn k hk).1.1, Nat.lt_of_lt_of_le (h4 n hn k hk).1.2 hz⟩, (h4 n hn k hk).2⟩⟩
theorem Left.kept {lo : Nat} {w w' : World} {v : Value} {ns : List NodeR} (h : Left lo w v ns) (hk : Kept [] w w') : Left lo w' v ns := h.same hk.size (fun k _ hl => hk.block k hl (by simp))
/-- A node more. -/
theorem Left.join {lo : Nat} {w w' : World} {v v' : Value} {ns : List NodeR} {x : NodeR} (h : Left lo w v ns) (hlo : lo ≤ w.heap.size) (hx : NodeOk Tree w x) (hf : ∀ k ∈ x.fp, (lo ≤ k ∧ k < w.heap.size) ∧ v.ownBlock ≠ some k)
    (hr : w'.ownsRow 0 42 4 v' (joinR ns x).length (cellsOf (joinR ns x))) (hm : Moved w v v') (hk : Kept v.ownBlock.toList w w') : Left lo w' v' (joinR ns x) := by
  obtain ⟨h1, h2, h3, h4⟩ := h
  have hmem : ∀ n ∈ joinR ns x, (NodeOk Tree w n) ∧ ∀ k ∈ n.fp, (lo ≤ k ∧ k < w.heap.size) ∧ v.ownBlock ≠ some k := by
    intro n hn
    rcases List.eq_nil_or_concat ns with h0 | ⟨l, z, h0⟩
    · subst h0
      rw [joinR_nil] at hn
      simp at hn
      subst hn
      exact ⟨hx, hf⟩
    · have h0' : ns = l ++ [z] := by simpa using h0
      subst h0'
      by_cases hz : x.name = [] ∧ z.name = []
      · rw [joinR_text l z x hz.1 hz.2] at hn
        rcases List.mem_append.1 hn with hn | hn
        · exact ⟨h2 n (by simp [hn]), h4 n (by simp [hn])⟩
        · simp at hn
          subst hn
          exact ⟨withTextOk (h2 z (by simp)) hz.2 _, h4 z (by simp)⟩
      · have e : joinR (l ++ [z]) x = l ++ [z] ++ [x] := by
          by_cases h5 : z.name = []
          · exact joinR_name _ _ (fun e => hz ⟨e, h5⟩)
          · exact joinR_elem l z x h5
        rw [e] at hn
        rcases List.mem_append.1 hn with hn | hn
        · exact ⟨h2 n hn, h4 n hn⟩
        · simp at hn
          subst hn
          exact ⟨hx, hf⟩
  have hsz := hk.size
  refine ⟨hr, fun n hn => (hmem n hn).1.keep (fun k hkf => hk.block k ((hmem n hn).2 k hkf).1.2 ?_), fun k hk' => ?_, fun n hn k hkf => ?_⟩
  · intro hc
    have := ((hmem n hn).2 k hkf).2
    cases ho : v.ownBlock with
    | none => rw [ho] at hc; simp at hc
    | some b =>
      rw [ho] at hc this
      simp at hc
      exact this (by rw [hc])
  · rcases hm with hm | ⟨b, hm, hb⟩
    · exact h3 k (hm ▸ hk')
    · rw [hm] at hk'
      have : b = k := by simpa using hk'
      omega
  · obtain ⟨⟨g1, g2⟩, g3⟩ := (hmem n hn).2 k hkf
    refine ⟨⟨g1, by omega⟩, ?_⟩
    rcases hm with hm | ⟨b, hm, hb⟩
    · rw [hm]
      exact g3
    · rw [hm]
      intro hc
      have : b = k := by simpa using hc
      omega
/-- Nodes that lie in new blocks, to be read. -/
def NodesAt (lo : Nat) (w : World) (v : Value) (ms : List NodeR) : Prop :=
  ∃ a c, v = .slice a ms.length c ∧ (∀ i (h : i < ms.length), ∃ g, a = some ⟨g, 0, none⟩ ∧ (lo ≤ g ∧ g < w.heap.size) ∧ w.cell? ⟨g, i * 4, none⟩ = some (.string ⟨(ms[i]).name.toArray⟩) ∧ w.cell? ⟨g, i * 4 + 1, none⟩ = some (ms[i]).av ∧ w.cell? ⟨g, i * 4 + 2, none⟩ = some (ms[i]).kv ∧ w.cell? ⟨g, i * 4 + 3, none⟩ = some (.string ⟨(ms[i]).text.toArray⟩)) ∧
    ∀ x ∈ ms, NodeOk Tree w x ∧ ∀ k ∈ x.fp, lo ≤ k ∧ k < w.heap.size
theorem Left.nodes {lo : Nat} {w : World} {v : Value} {ns : List NodeR} (h : Left lo w v ns) : NodesAt lo w v ns := by
  obtain ⟨h1, h2, h3, h4⟩ := h
  obtain ⟨a, c, rfl⟩ := ownsRow_form h1
  refine ⟨a, c, rfl, fun i hi => ?_, fun x hx => ⟨h2 x hx, fun k hk => (h4 x hx k hk).1⟩⟩
  rcases h1.2 with ⟨_, h0⟩ | ⟨g, cap, cur, hv, _⟩
  · omega
  · have e : (Value.slice a ns.length c) = .slice (some ⟨g, 0, none⟩) ns.length cap := hv
    injection e with e1 e2 e3
    subst e1 e3
    obtain ⟨c0, c1, c2, c3⟩ := cellsOf_get ns i hi
    exact ⟨g, rfl, ⟨h3 g rfl, own_lt h1 rfl⟩, row_cell h1 c0, row_cell h1 c1, row_cell h1 c2, row_cell h1 c3⟩
theorem NodesAt.kept {lo : Nat} {w w' : World} {v : Value} {ms : List NodeR} (h : NodesAt lo w v ms) (hk : Kept [] w w') : NodesAt lo w' v ms := by
  obtain ⟨a, c, h1, h2, h3⟩ := h
  have hz := hk.size
  refine ⟨a, c, h1, fun i hi => ?_, fun x hx => ⟨(h3 x hx).1.keep (fun k hk' => hk.block k ((h3 x hx).2 k hk').2 (by simp)), fun k hk' => ⟨((h3 x hx).2 k hk').1, by have := ((h3 x hx).2 k hk').2; omega⟩⟩⟩
  obtain ⟨g, e, ⟨l1, l2⟩, c0, c1, c2, c3⟩ := h2 i hi
  exact ⟨g, e, ⟨l1, by omega⟩, cell_kept hk c0, cell_kept hk c1, cell_kept hk c2, cell_kept hk c3⟩
/-- A list of nodes of the call's own is a tree. -/
theorem Left.tree {lo : Nat} {w : World} {v : Value} {ns : List NodeR} (h : Left lo w v ns) : Tree w v (evsOf ns) (v.ownBlock.toList ++ fpOf ns) := Tree.mk h.1 h.2.1
end Go.Proofs.YtlpmjpmefdpcmaaGreatDoor
/- Lists of strings; names; what a policy lets by. -/
namespace Go.Proofs.YtlpmjpmefdpcmaaGreatDoor
open Go.RowKit Scrub Go.Shelf
/-- A list of strings lies there. -/
def StrsAt (w : World) (v : Value) (l : List (List UInt8)) : Prop :=
  ∃ a c, v = .slice a l.length c ∧ ∀ i (h : i < l.length), ∃ g o, a = some ⟨g, o, none⟩ ∧ w.cell? ⟨g, o + i, none⟩ = some (.string ⟨(l[i]).toArray⟩)
theorem StrsAt.kept {w w' : World} {v : Value} {l : List (List UInt8)} (h : StrsAt w v l) (hk : Kept [] w w') : StrsAt w' v l := by
  obtain ⟨a, c, h1, h2⟩ := h
  refine ⟨a, c, h1, fun i hi => ?_⟩
  obtain ⟨g, o, e, c1⟩ := h2 i hi
  exact ⟨g, o, e, cell_kept hk c1⟩
def noNameP (s : List UInt8) : Bool := decide (s = []) || decide (20 < s.length)
set_option maxHeartbeats 1000000 in
theorem isNoName_any (s : List UInt8) (w : World) :
    Calls Tryz.prog 105 #[.string ⟨s.toArray⟩] w fun e w' => e = .returned (.bool (noNameP s)) ∧ w' = w := by
  go_enter Tryz.func105, Tryz.ntmps105
  go_wp2
  · go_ret
    rename_i h
    exact ⟨by simp [noNameP, h], rfl⟩
  · go_ret
    rename_i h
    refine ⟨?_, rfl⟩
    have e : (decide (20 < (s.length : Int))) = decide (20 < s.length) := by
      apply decide_eq_decide.2
      omega
    have e2 : s.isEmpty = decide (s = []) := by cases s <;> simp
    show Ending.returned (.bool (s.isEmpty || decide (20 < (s.length : Int)))) = _
    rw [e, e2]
    rfl
theorem not_mem_take {l : List (List UInt8)} {s : List UInt8} {k : Nat} (hk : k < l.length) (h : s ∉ l.take k) (he : ¬ s = l[k]) : s ∉ l.take (k + 1) := by
  intro hc
  rw [List.take_succ_eq_append_getElem hk] at hc
  rcases List.mem_append.1 hc with hc | hc
  · exact h hc
  · exact he (List.mem_singleton.1 hc)
set_option maxHeartbeats 1000000 in
theorem index_any (v : Value) (l : List (List UInt8)) (s : List UInt8) (w : World) (h : StrsAt w v l) (hl : l.length ≤ 1099511627776) :
    Calls Tryz.prog 225 #[v, .string ⟨s.toArray⟩] w fun e w' => (∃ k : Int, e = .returned (.int .i64 k) ∧ (decide (0 ≤ k) = l.contains s)) ∧ w' = w := by
  obtain ⟨a, c, rfl, hc⟩ := h
  have HC : Hid _ := hc
  clear hc
  go_enter Tryz.func225, Tryz.ntmps225
  go_wp2_with fail
  go_loopg [8] l.length (fun g x wr => ∃ k : Nat, k ≤ l.length ∧ g = l.length - k ∧ x = .int .i64 (k : Int) ∧ wr = w ∧ s ∉ l.take k)
  case atStart => exact ⟨0, by omega, rfl, rfl, rfl, by simp⟩
  case round =>
    obtain ⟨k, hk, hgk, rfl, rfl, hno⟩ := hrel
    have HG : Hid _ := hgk
    have HNO : Hid _ := hno
    clear hgk hno
    by_cases hlt : k < l.length
    · have hlt' : (k : Int) < (l.length : Int) := by omega
      have hge : (0 : Int) ≤ (k : Int) := by omega
      obtain ⟨g, o, rfl, c0⟩ := HC.out k hlt
      by_cases heq : s = l[k]
      · have hmem : s ∈ l := heq ▸ List.getElem_mem hlt
        rw [← heq] at c0
        go_wp2_with fail
        go_ret
        refine ⟨⟨_, rfl, ?_⟩, rfl⟩
        simp [hmem]
      · have hstep := not_mem_take hlt HNO.out heq
        have HST : Hid _ := hstep
        clear hstep
        go_wp2_with fail
        · rename_i h
          exact absurd (by simpa using h) heq
        · go_roundg (l.length - (k + 1))
          case measure => rw [HG.out]; omega
          case rel => exact ⟨k + 1, by omega, rfl, rfl, rfl, HST.out⟩
    · have hlt' : ((k : Int) < (l.length : Int)) = False := by simp; omega
      go_wp2_with fail
      go_ret
      refine ⟨⟨_, rfl, ?_⟩, rfl⟩
      have e : l.take k = l := List.take_of_length_le (by omega)
      have h := HNO.out
      rw [e] at h
      simp
      exact h
set_option maxHeartbeats 1000000 in
theorem contains_any (v : Value) (l : List (List UInt8)) (s : List UInt8) (w : World) (h : StrsAt w v l) (hl : l.length ≤ 1099511627776) :
    Calls Tryz.prog 209 #[v, .string ⟨s.toArray⟩] w fun e w' => e = .returned (.bool (l.contains s)) ∧ w' = w := by
  have HI := index_any v l s w h hl
  obtain ⟨a, c, rfl, _⟩ := h
  go_enter Tryz.func209, Tryz.ntmps209
  go_wp2_with (go_at_call 225; refine HI.mono ?_; rintro e w1 ⟨⟨k, rfl, hk⟩, rfl⟩; have HK : Hid _ := hk; clear hk)
  go_ret
  exact ⟨by rw [← HK.out]; rfl, rfl⟩
set_option maxHeartbeats 1000000 in
theorem indexFunc_any (v : Value) (l : List (List UInt8)) (w : World) (h : StrsAt w v l) (hl : l.length ≤ 1099511627776) :
    Calls Tryz.prog 82 #[v, .func (.func 105) #[] #[]] w fun e w' => (∃ k : Int, e = .returned (.int .i64 k) ∧ (decide (0 ≤ k) = l.any noNameP)) ∧ w' = w := by
  obtain ⟨a, c, rfl, hc⟩ := h
  have HC : Hid _ := hc
  clear hc
  go_enter Tryz.func82, Tryz.ntmps82
  go_wp2_with fail
  go_loopg [8] l.length (fun g x wr => ∃ k : Nat, k ≤ l.length ∧ g = l.length - k ∧ x = .int .i64 (k : Int) ∧ wr = w ∧ l.any noNameP = (l.drop k).any noNameP)
  case atStart => exact ⟨0, by omega, rfl, rfl, rfl, by simp⟩
  case round =>
    obtain ⟨k, hk, hgk, rfl, rfl, hno⟩ := hrel
    have HG : Hid _ := hgk
    have HNO : Hid _ := hno
    clear hgk hno
    by_cases hlt : k < l.length
    · have hlt' : (k : Int) < (l.length : Int) := by omega
      have hge : (0 : Int) ≤ (k : Int) := by omega
      obtain ⟨g, o, rfl, c0⟩ := HC.out k hlt
      have hd : (l.drop k).any noNameP = (noNameP l[k] || (l.drop (k + 1)).any noNameP) := by rw [List.drop_eq_getElem_cons hlt]; rfl
      have HD : Hid _ := hd
      have HF := isNoName_any l[k] wr
      clear hd
      cases hp : noNameP l[k] with
      | true =>
        rw [hp] at HF
        go_wp2_with fail
        refine HF.mono ?_
        rintro e w1 ⟨rfl, rfl⟩
        go_wp2_with fail
        go_ret
        refine ⟨⟨_, rfl, ?_⟩, rfl⟩
        rw [HNO.out, HD.out, hp]
        simp
      | false =>
        rw [hp] at HF
        go_wp2_with fail
        refine HF.mono ?_
        rintro e w1 ⟨rfl, rfl⟩
        go_wp2_with fail
        go_roundg (l.length - (k + 1))
        case measure => rw [HG.out]; omega
        case rel => exact ⟨k + 1, by omega, rfl, rfl, rfl, by rw [HNO.out, HD.out, hp]; rfl⟩
    · have hlt' : ((k : Int) < (l.length : Int)) = False := by simp; omega
      go_wp2_with fail
      go_ret
      refine ⟨⟨_, rfl, ?_⟩, rfl⟩
      rw [HNO.out, List.drop_eq_nil_of_le (by omega)]
      rfl
def areNamesP (l : List (List UInt8)) : Bool := decide (l.length ≤ 12) && !l.any noNameP
set_option maxHeartbeats 1000000 in
theorem containsFunc_any (v : Value) (l : List (List UInt8)) (w : World) (h : StrsAt w v l) (hl : l.length ≤ 1099511627776) :
    Calls Tryz.prog 56 #[v, .func (.func 105) #[] #[]] w fun e w' => e = .returned (.bool (l.any noNameP)) ∧ w' = w := by
  have HI := indexFunc_any v l w h hl
  obtain ⟨a, c, rfl, _⟩ := h
  go_enter Tryz.func56, Tryz.ntmps56
  go_wp2_with (go_at_call 82; refine HI.mono ?_; rintro e w1 ⟨⟨k, rfl, hk⟩, rfl⟩; have HK : Hid _ := hk; clear hk)
  go_ret
  exact ⟨by rw [← HK.out]; rfl, rfl⟩
set_option maxHeartbeats 1000000 in
theorem areNames_any (v : Value) (l : List (List UInt8)) (w : World) (h : StrsAt w v l) :
    Calls Tryz.prog 73 #[v] w fun e w' => e = .returned (.bool (areNamesP l)) ∧ w' = w := by
  by_cases hl : l.length ≤ 12
  · have HI := containsFunc_any v l w h (by omega)
    obtain ⟨a, c, rfl, _⟩ := h
    have hle : (l.length : Int) ≤ 12 := by omega
    go_enter Tryz.func73, Tryz.ntmps73
    go_wp2_with (go_at_call 56; refine HI.mono ?_; rintro e w1 ⟨rfl, rfl⟩)
    go_ret
    exact ⟨by simp [areNamesP, hl], rfl⟩
  · obtain ⟨a, c, rfl, _⟩ := h
    have hle : ((l.length : Int) ≤ 12) = False := by simp; omega
    go_enter Tryz.func73, Tryz.ntmps73
    go_wp2_with fail
    go_ret
    exact ⟨by simp [areNamesP, hl], rfl⟩
/-- The policy in memory: two lists of names. -/
def PolAt (w : World) (ev av : Value) (p : Pol) : Prop := StrsAt w ev p.1 ∧ StrsAt w av p.2
theorem PolAt.kept {w w' : World} {ev av : Value} {p : Pol} (h : PolAt w ev av p) (hk : Kept [] w w') : PolAt w' ev av p := ⟨h.1.kept hk, h.2.kept hk⟩
theorem StrsAt.form {w : World} {v : Value} {l : List (List UInt8)} (h : StrsAt w v l) : ∃ a c, v = .slice a l.length c := by
  obtain ⟨a, c, h1, _⟩ := h
  exact ⟨a, c, h1⟩
def isPolP (p : Pol) : Bool := areNamesP p.1 && areNamesP p.2
set_option maxHeartbeats 1000000 in
theorem isPolicy_any (ev av : Value) (p : Pol) (w : World) (h : PolAt w ev av p) :
    Calls Tryz.prog 50 #[.agg #[ev, av]] w fun e w' => e = .returned (.bool (isPolP p)) ∧ Kept [] w w' := by
  obtain ⟨h1, h2⟩ := h
  have H1 : Hid (∀ w', Kept [] w w' → Calls Tryz.prog 73 #[ev] w' fun e w'' => e = .returned (.bool (areNamesP p.1)) ∧ w'' = w') := fun w' hk => areNames_any ev p.1 w' (h1.kept hk)
  have H2 : Hid (∀ w', Kept [] w w' → Calls Tryz.prog 73 #[av] w' fun e w'' => e = .returned (.bool (areNamesP p.2)) ∧ w'' = w') := fun w' hk => areNames_any av p.2 w' (h2.kept hk)
  obtain ⟨a1, c1, rfl⟩ := h1.form
  obtain ⟨a2, c2, rfl⟩ := h2.form
  clear h1 h2
  have hk1 : Kept [] w (w.alloc (.cells #[.slice a1 p.1.length c1, .slice a2 p.2.length c2] 33)) := (Kept.refl [] w).alloc _
  have e : isPolP p = (areNamesP p.1 && areNamesP p.2) := rfl
  rw [e]
  go_enter Tryz.func50, Tryz.ntmps50
  cases hp : areNamesP p.1 with
  | true =>
    go_wp2_with fail
    refine (H1.out _ hk1).mono ?_
    rintro e w1 ⟨rfl, rfl⟩
    rw [hp]
    go_wp2_with fail
    refine (H2.out _ hk1).mono ?_
    rintro e w1 ⟨rfl, rfl⟩
    go_wp2_with fail
    go_ret
    exact ⟨by simp, hk1⟩
  | false =>
    go_wp2_with fail
    refine (H1.out _ hk1).mono ?_
    rintro e w1 ⟨rfl, rfl⟩
    rw [hp]
    go_wp2_with fail
    go_ret
    exact ⟨by simp, hk1⟩
set_option maxHeartbeats 1000000 in
theorem letsElement_any (ev av : Value) (p : Pol) (s : List UInt8) (w : World) (h : PolAt w ev av p) (hl : p.1.length ≤ 1099511627776) :
    Calls Tryz.prog 171 #[.agg #[ev, av], .string ⟨s.toArray⟩] w fun e w' => e = .returned (.bool (p.1.contains s)) ∧ Kept [] w w' := by
  obtain ⟨h1, h2⟩ := h
  have H1 : Hid (∀ w', Kept [] w w' → Calls Tryz.prog 209 #[ev, .string ⟨s.toArray⟩] w' fun e w'' => e = .returned (.bool (p.1.contains s)) ∧ w'' = w') := fun w' hk => contains_any ev p.1 s w' (h1.kept hk) hl
  obtain ⟨a1, c1, rfl⟩ := h1.form
  obtain ⟨a2, c2, rfl⟩ := h2.form
  clear h1 h2
  have hk1 : Kept [] w (w.alloc (.cells #[.slice a1 p.1.length c1, .slice a2 p.2.length c2] 33)) := (Kept.refl [] w).alloc _
  generalize p.1.contains s = b at H1 ⊢
  go_enter Tryz.func171, Tryz.ntmps171
  go_wp2_with fail
  refine (H1.out _ hk1).mono ?_
  rintro e w1 ⟨rfl, rfl⟩
  go_wp2_with fail
  go_ret
  exact ⟨rfl, hk1⟩
set_option maxHeartbeats 1000000 in
theorem leads_any (s : List UInt8) (w : World) :
    Calls Tryz.prog 226 #[.string ⟨s.toArray⟩] w fun e w' => e = .returned (.bool (leadsP s)) ∧ w' = w := by
  go_enter Tryz.func226, Tryz.ntmps226
  go_wp2
  · go_ret
    rename_i h
    exact ⟨by rw [h]; rfl, rfl⟩
  · go_ret
    exact ⟨rfl, rfl⟩
end Go.Proofs.YtlpmjpmefdpcmaaGreatDoor
namespace Go.Proofs.YtlpmjpmefdpcmaaGreatDoor
open Go.RowKit Scrub Go.Shelf
/-- The package variable that cleaning reads. -/
def GlobB (w : World) : Prop :=
  w.cell? ⟨2, 0, none⟩ = some (.string ⟨#[104, 116, 116, 112, 58]⟩) ∧ w.cell? ⟨2, 1, none⟩ = some (.string ⟨#[104, 116, 116, 112, 115, 58]⟩) ∧
  w.cell? ⟨2, 2, none⟩ = some (.string ⟨#[47]⟩) ∧ w.cell? ⟨2, 3, none⟩ = some (.string ⟨#[35]⟩)
theorem GlobB.kept {w w' : World} (h : GlobB w) (hk : Kept [] w w') : GlobB w' := ⟨cell_kept hk h.1, cell_kept hk h.2.1, cell_kept hk h.2.2.1, cell_kept hk h.2.2.2⟩
set_option maxHeartbeats 1000000 in
theorem beginsWell_any (s : List UInt8) (w : World) (hg : GlobB w) :
    Calls Tryz.prog 227 #[.string ⟨s.toArray⟩] w fun e w' => e = .returned (.bool (beginsWellP s)) ∧ w' = w := by
  obtain ⟨c0, c1, c2, c3⟩ := hg
  have hb : beginsWellP s = (Lib.hasPrefix s [104, 116, 116, 112, 58] || (Lib.hasPrefix s [104, 116, 116, 112, 115, 58] || (Lib.hasPrefix s [47] || (Lib.hasPrefix s [35] || false)))) := rfl
  have HB : Hid _ := hb
  clear hb
  go_enter Tryz.func227, Tryz.ntmps227
  have i0 : ∀ w, (Instr.index 221 (.agg #[.string ⟨#[104, 116, 116, 112, 58]⟩, .string ⟨#[104, 116, 116, 112, 115, 58]⟩, .string ⟨#[47]⟩, .string ⟨#[35]⟩]) (.int .i64 0)).run Tryz.prog w = .ok (.string ⟨#[104, 116, 116, 112, 58]⟩) w := fun _ => by kernel_rfl
  have i1 : ∀ w, (Instr.index 221 (.agg #[.string ⟨#[104, 116, 116, 112, 58]⟩, .string ⟨#[104, 116, 116, 112, 115, 58]⟩, .string ⟨#[47]⟩, .string ⟨#[35]⟩]) (.int .i64 1)).run Tryz.prog w = .ok (.string ⟨#[104, 116, 116, 112, 115, 58]⟩) w := fun _ => by kernel_rfl
  have i2 : ∀ w, (Instr.index 221 (.agg #[.string ⟨#[104, 116, 116, 112, 58]⟩, .string ⟨#[104, 116, 116, 112, 115, 58]⟩, .string ⟨#[47]⟩, .string ⟨#[35]⟩]) (.int .i64 2)).run Tryz.prog w = .ok (.string ⟨#[47]⟩) w := fun _ => by kernel_rfl
  have i3 : ∀ w, (Instr.index 221 (.agg #[.string ⟨#[104, 116, 116, 112, 58]⟩, .string ⟨#[104, 116, 116, 112, 115, 58]⟩, .string ⟨#[47]⟩, .string ⟨#[35]⟩]) (.int .i64 3)).run Tryz.prog w = .ok (.string ⟨#[35]⟩) w := fun _ => by kernel_rfl
  go_wp2
  go_loopg [6] 4 (fun g i wr => ∃ k : Nat, k ≤ 4 ∧ g = 4 - k ∧ i = .int .i64 (k : Int) ∧ wr = w ∧ (1 ≤ k → Lib.hasPrefix s [104, 116, 116, 112, 58] = false) ∧ (2 ≤ k → Lib.hasPrefix s [104, 116, 116, 112, 115, 58] = false) ∧ (3 ≤ k → Lib.hasPrefix s [47] = false) ∧ (4 ≤ k → Lib.hasPrefix s [35] = false))
  case atStart => exact ⟨0, by omega, by omega, rfl, rfl, by omega, by omega, by omega, by omega⟩
  case round =>
    obtain ⟨k, hk, hg, rfl, rfl, h1, h2, h3, h4⟩ := hrel
    have HG : Hid (gk = 4 - k) := hg
    have HN : Hid _ := And.intro h1 (And.intro h2 (And.intro h3 h4))
    clear hg c0 c1 c2 c3 h1 h2 h3 h4
    have hcase : k = 0 ∨ k = 1 ∨ k = 2 ∨ k = 3 ∨ k = 4 := by omega
    rcases hcase with rfl | rfl | rfl | rfl | rfl
    · cases hp : Lib.hasPrefix s [104, 116, 116, 112, 58] with
      | true =>
        go_wp2_with (go_at_call 175; refine (Tryz.strings_HasPrefix _ _ _).mono ?_; rintro e w' ⟨rfl, rfl⟩)
        go_ret
        exact ⟨by rw [HB.out, hp]; rfl, rfl⟩
      | false =>
        go_wp2_with (go_at_call 175; refine (Tryz.strings_HasPrefix _ _ _).mono ?_; rintro e w' ⟨rfl, rfl⟩)
        go_roundg 3
        case measure => rw [HG.out]; omega
        case rel => exact ⟨1, by omega, by omega, rfl, rfl, fun _ => hp, by omega, by omega, by omega⟩
    · cases hp : Lib.hasPrefix s [104, 116, 116, 112, 115, 58] with
      | true =>
        go_wp2_with (go_at_call 175; refine (Tryz.strings_HasPrefix _ _ _).mono ?_; rintro e w' ⟨rfl, rfl⟩)
        go_ret
        exact ⟨by rw [HB.out, hp]; simp, rfl⟩
      | false =>
        go_wp2_with (go_at_call 175; refine (Tryz.strings_HasPrefix _ _ _).mono ?_; rintro e w' ⟨rfl, rfl⟩)
        go_roundg 2
        case measure => rw [HG.out]; omega
        case rel => exact ⟨2, by omega, by omega, rfl, rfl, fun _ => HN.out.1 (by omega), fun _ => hp, by omega, by omega⟩
    · cases hp : Lib.hasPrefix s [47] with
      | true =>
        go_wp2_with (go_at_call 175; refine (Tryz.strings_HasPrefix _ _ _).mono ?_; rintro e w' ⟨rfl, rfl⟩)
        go_ret
        exact ⟨by rw [HB.out, hp]; simp, rfl⟩
      | false =>
        go_wp2_with (go_at_call 175; refine (Tryz.strings_HasPrefix _ _ _).mono ?_; rintro e w' ⟨rfl, rfl⟩)
        go_roundg 1
        case measure => rw [HG.out]; omega
        case rel => exact ⟨3, by omega, by omega, rfl, rfl, fun _ => HN.out.1 (by omega), fun _ => HN.out.2.1 (by omega), fun _ => hp, by omega⟩
    · cases hp : Lib.hasPrefix s [35] with
      | true =>
        go_wp2_with (go_at_call 175; refine (Tryz.strings_HasPrefix _ _ _).mono ?_; rintro e w' ⟨rfl, rfl⟩)
        go_ret
        exact ⟨by rw [HB.out, hp]; simp, rfl⟩
      | false =>
        go_wp2_with (go_at_call 175; refine (Tryz.strings_HasPrefix _ _ _).mono ?_; rintro e w' ⟨rfl, rfl⟩)
        go_roundg 0
        case measure => rw [HG.out]; omega
        case rel => exact ⟨4, by omega, by omega, rfl, rfl, fun _ => HN.out.1 (by omega), fun _ => HN.out.2.1 (by omega), fun _ => HN.out.2.2.1 (by omega), fun _ => hp⟩
    · go_wp2_with fail
      go_ret
      refine ⟨?_, rfl⟩
      rw [HB.out, HN.out.1 (by omega), HN.out.2.1 (by omega), HN.out.2.2.1 (by omega), HN.out.2.2.2 (by omega)]
      rfl
set_option maxHeartbeats 1000000 in
theorem letsAttr_any (ev av : Value) (p : Pol) (a : List UInt8 × List UInt8) (w : World) (h : PolAt w ev av p) (hl : p.2.length ≤ 1099511627776) (hg : GlobB w) :
    Calls Tryz.prog 210 #[.agg #[ev, av], .agg #[.string ⟨a.1.toArray⟩, .string ⟨a.2.toArray⟩]] w fun e w' => e = .returned (.bool (letsAP p a)) ∧ Kept [] w w' := by
  obtain ⟨h1, h2⟩ := h
  have H1 : Hid (∀ w', Kept [] w w' → Calls Tryz.prog 209 #[av, .string ⟨a.1.toArray⟩] w' fun e w'' => e = .returned (.bool (p.2.contains a.1)) ∧ w'' = w') := fun w' hk => contains_any av p.2 a.1 w' (h2.kept hk) hl
  have H2 : Hid (∀ w', Kept [] w w' → Calls Tryz.prog 227 #[.string ⟨a.2.toArray⟩] w' fun e w'' => e = .returned (.bool (beginsWellP a.2)) ∧ w'' = w') := fun w' hk => beginsWell_any a.2 w' (hg.kept hk)
  obtain ⟨a1, c1, rfl⟩ := h1.form
  obtain ⟨a2, c2, rfl⟩ := h2.form
  clear h1 h2 hg
  have e : letsAP p a = (p.2.contains a.1 && (!leadsP a.1 || beginsWellP a.2)) := rfl
  rw [e]
  have HLD := leads_any a.1
  generalize leadsP a.1 = ld at HLD ⊢
  generalize beginsWellP a.2 = bw at H2 ⊢
  generalize p.2.contains a.1 = cn at H1 ⊢
  generalize a.1 = an at *
  generalize a.2 = vl at *
  have hk1 : Kept [] w ((w.alloc (.cells #[.slice a1 p.1.length c1, .slice a2 p.2.length c2] 33)).alloc (.cells #[.string ⟨an.toArray⟩, .string ⟨vl.toArray⟩] 63)) := ((Kept.refl [] w).alloc _).alloc _
  go_enter Tryz.func210, Tryz.ntmps210
  cases cn with
  | false =>
    go_wp2_with fail
    refine (H1.out _ hk1).mono ?_
    rintro e w1 ⟨rfl, rfl⟩
    go_wp2_with fail
    go_ret
    exact ⟨rfl, hk1⟩
  | true =>
    go_wp2_with fail
    refine (H1.out _ hk1).mono ?_
    rintro e w1 ⟨rfl, rfl⟩
    go_wp2_with fail
    refine (HLD _).mono ?_
    rintro e w1 ⟨rfl, rfl⟩
    cases ld with
    | false =>
      go_wp2_with fail
      go_ret
      exact ⟨rfl, hk1⟩
    | true =>
      go_wp2_with fail
      refine (H2.out _ hk1).mono ?_
      rintro e w1 ⟨rfl, rfl⟩
      go_wp2_with fail
      go_ret
      exact ⟨rfl, hk1⟩
end Go.Proofs.YtlpmjpmefdpcmaaGreatDoor
