import Derived.Test.YtlpmjpmefdpcmaaGreatDoorQSs
import Derived.Test.YtlpmjpmefdpcmaaGreatDoorQSi
import Derived.Test.YtlpmjpmefdpcmaaGreatDoorQParse
/- The reference's reading: the tokens one after the other. No function of the program in it. -/
namespace Scrub
open Go
/-- What a token holds. -/
def TkOk (t : Tok) : Prop := (t.1 = 0 ∧ t.2.1 = [] ∧ t.2.2.1 = [] ∧ t.2.2.2 ≠ []) ∨ (t.1 = 1 ∧ t.2.1 ≠ [] ∧ (t.2.2.2 ≠ [] → kindP t.2.1 = 2)) ∨ (t.1 = 2 ∧ t.2.1 ≠ [] ∧ t.2.2.1 = [] ∧ t.2.2.2 = [])
theorem nextF_raw : ∀ (f : Nat) (r : List UInt8) (t : Tok) (rest : List UInt8), nextF f r = some (t, rest) → t.1 = 1 → t.2.2.2 ≠ [] → kindP t.2.1 = 2
  | 0, _, _, _, h => by simp [nextF] at h
  | f + 1, r, t, rest, h => by
    intro h1 h2
    unfold nextF at h
    split at h
    · cases h
    · split at h
      · exact nextF_raw f _ _ _ h h1 h2
      · split at h
        · split at h
          · injection h with h
            injection h with h _
            rw [← h] at h1
            simp at h1
          · exact nextF_raw f _ _ _ h h1 h2
        · split at h
          · split at h
            · cases h
            · rename_i nm al tx rest' hs
              injection h with h
              injection h with h _
              rw [← h] at h2 ⊢
              unfold startP at hs
              split at hs
              · cases hs
              · split at hs
                · rename_i hk
                  injection hs with hs
                  simp only [Prod.mk.injEq] at hs
                  simp only
                  rw [← hs.1]
                  exact hk
                · injection hs with hs
                  simp only [Prod.mk.injEq] at hs
                  exact absurd hs.2.2.1.symm h2
          · injection h with h
            injection h with h _
            rw [← h] at h1
            simp at h1
theorem toks_ok : ∀ (n : Nat) (r : List UInt8), r.length ≤ n → (∀ t ∈ toksP r, TkOk t) ∧ ((toksP r).map (fun t => t.2.2.2.length)).sum ≤ r.length
  | n, r, hn => by
    cases hx : nextP r with
    | none => rw [toksP_none hx]; simp
    | some p =>
      obtain ⟨⟨s, nm, al, tx⟩, rest⟩ := p
      have ok := nextP_ok hx
      have hlt := ok.lt
      have hlen := ok.len
      have hraw := nextF_raw _ _ _ _ hx
      match n, hn with
      | 0, hn => omega
      | n + 1, hn =>
        obtain ⟨i1, i2⟩ := toks_ok n rest (by omega)
        rw [toksP_some hx]
        refine ⟨fun t ht => ?_, ?_⟩
        · rcases List.mem_cons.1 ht with rfl | ht
          · rcases ok.kind with ⟨a, b, c, d⟩ | ⟨a, b⟩ | ⟨a, b, c, d⟩
            · exact .inl ⟨a, b, c, d⟩
            · exact .inr (.inl ⟨a, b, hraw a⟩)
            · exact .inr (.inr ⟨a, b, c, d⟩)
          · exact i1 t ht
        · rw [List.map_cons, List.sum_cons]
          simp only
          omega
end Scrub
namespace Go.Proofs.YtlpmjpmefdpcmaaGreatDoor
open Go.RowKit Scrub Go.Shelf
theorem fold_fits : ∀ (l : List Tok) (o : List Ev × List (List UInt8)), o.2.length ≤ 12 → (l.foldl stepTok o).2.length ≤ 12 ∧ (l.foldl stepTok o).1.length ≤ o.1.length + 66 * l.length ∧ evSize (l.foldl stepTok o).1 ≤ evSize o.1 + (l.map (fun t => t.2.2.2.length)).sum
  | [], o, h => ⟨h, by simp, by simp⟩
  | t :: r, o, h => by
    have hf := fits_step h t.1 t.2.1 t.2.2.1 t.2.2.2
    obtain ⟨a, b, c⟩ := fold_fits r (stepTok o t) hf.1
    have b2 : (stepTok o t).1.length ≤ o.1.length + 66 := hf.2.1
    have c2 : evSize (stepTok o t).1 ≤ evSize o.1 + t.2.2.2.length := hf.2.2
    rw [List.foldl_cons, List.map_cons, List.sum_cons, List.length_cons]
    exact ⟨a, by omega, by omega⟩
theorem take_sum (l : List Nat) (k : Nat) : (l.take k).sum ≤ l.sum := by
  have := congrArg List.sum (List.take_append_drop k l)
  rw [List.sum_append] at this
  omega
theorem tok_apart : ∀ (ts : List TokR), (tokFp ts).Nodup → ∀ (j k : Nat) (hj : j < ts.length) (hk : k < ts.length) (x : Nat), j ≠ k → ts[j].av.ownBlock = some x → ts[k].av.ownBlock = some x → False
  | [], _, _, _, hj, _, _, _, _, _ => by simp at hj
  | a :: t, h, 0, 0, _, _, _, hne, _, _ => hne rfl
  | a :: t, h, 0, k + 1, _, hk, x, _, h1, h2 => by
    have e : tokFp (a :: t) = a.av.ownBlock.toList ++ tokFp t := by simp [tokFp]
    rw [e, List.nodup_append] at h
    simp only [List.getElem_cons_zero, List.getElem_cons_succ] at h1 h2
    exact h.2.2 x (by rw [h1]; simp) x (mem_tokFp (List.getElem_mem _) h2) rfl
  | a :: t, h, j + 1, 0, hj, _, x, _, h1, h2 => by
    have e : tokFp (a :: t) = a.av.ownBlock.toList ++ tokFp t := by simp [tokFp]
    rw [e, List.nodup_append] at h
    simp only [List.getElem_cons_zero, List.getElem_cons_succ] at h1 h2
    exact h.2.2 x (by rw [h2]; simp) x (mem_tokFp (List.getElem_mem _) h1) rfl
  | a :: t, h, j + 1, k + 1, hj, hk, x, hne, h1, h2 => by
    have e : tokFp (a :: t) = a.av.ownBlock.toList ++ tokFp t := by simp [tokFp]
    rw [e, List.nodup_append] at h
    simp only [List.getElem_cons_succ] at h1 h2
    exact tok_apart t h.2.1 j k (by simpa using hj) (by simpa using hk) x (by omega) h1 h2
/-- The reading, the first k tokens done. -/
structure RI (w : World) (bb : Nat) (v : Value) (ts : List TokR) (o : List Ev × List (List UInt8)) (wr : World) (k : Nat) (F : List Nat) : Prop where
  bld : RBld wr bb F o.1 o.2
  kept : Kept [] w wr
  new : ∀ x, x ∈ F → w.heap.size ≤ x
  row : wr.ownsRow 0 131 4 v ts.length (tokCells ts)
  vF : ∀ x, v.ownBlock = some x → x ∉ F
  own : ∀ j (h : j < ts.length), k ≤ j → AOwn wr ts[j].av ts[j].tk.2.2.1 ∧ ∀ x, ts[j].av.ownBlock = some x → x ∉ F
theorem RI.step {w : World} {bb : Nat} {v : Value} {ts : List TokR} {o o' : List Ev × List (List UInt8)} {wr w' : World} {k : Nat} {F X : List Nat} (h : RI w bb v ts o wr k F) (hnd : (v.ownBlock.toList ++ tokFp ts).Nodup) (hnew : ∀ x, x ∈ tokFp ts → w.heap.size ≤ x) (hk : k < ts.length) (hX : ∀ x, x ∈ X → ts[k].av.ownBlock = some x) (hp : RPost bb (F ++ X) [] o'.1 o'.2 wr w') : ∃ F', RI w bb v ts o' w' (k + 1) F' := by
  obtain ⟨F', a, b, c⟩ := hp
  have c' := grow_nil c
  rw [List.nodup_append] at hnd
  have hXn : ∀ x, x ∈ F ++ X → w.heap.size ≤ x := fun x hx => by
    rcases List.mem_append.1 hx with h1 | h1
    · exact h.new x h1
    · exact hnew x (mem_tokFp (List.getElem_mem hk) (hX x h1))
  have hvX : ∀ x, v.ownBlock = some x → x ∉ F ++ X := fun x hx hc => by
    rcases List.mem_append.1 hc with h1 | h1
    · exact h.vF x hx h1
    · exact hnd.2.2 x (by rw [hx]; simp) x (mem_tokFp (List.getElem_mem hk) (hX x h1)) rfl
  have hF' : ∀ x, x < wr.heap.size → x ∉ F ++ X → x ∉ F' := fun x hx h1 hc => by
    rcases c' x hc with h2 | h2
    · exact h1 h2
    · omega
  have hjX : ∀ j (hj : j < ts.length), k + 1 ≤ j → ∀ x, ts[j].av.ownBlock = some x → x ∉ F ++ X := fun j hj hkj x hx hc => by
    rcases List.mem_append.1 hc with h1 | h1
    · exact (h.own j hj (by omega)).2 x hx h1
    · exact tok_apart ts hnd.2.1 j k hj hk x (by omega) hx (hX x h1)
  refine ⟨F', a, h.kept.trans_new b (fun i hi => .inr (hXn i hi)), ?_, ownsRow_kept h.row b hvX, ?_, ?_⟩
  · intro x hx
    rcases c' x hx with h1 | h1
    · exact hXn x h1
    · have := h.kept.size
      omega
  · intro x hx
    exact hF' x (World.ownsRow.lt h.row x hx).2 (hvX x hx)
  · intro j hj hkj
    have ho := h.own j hj (by omega)
    exact ⟨ownsRow_kept ho.1 b (hjX j hj hkj), fun x hx => hF' x (World.ownsRow.lt ho.1 x hx).2 (hjX j hj hkj x hx)⟩
end Go.Proofs.YtlpmjpmefdpcmaaGreatDoor
/- The reference: the tree of any markup. -/
namespace Go.Proofs.YtlpmjpmefdpcmaaGreatDoor
open Go.RowKit Scrub Go.Shelf
theorem mk_one (w : World) : (Instr.makeSlice 31 (.int .i64 1) (.int .i64 1)).run Tryz.prog w = .ok (.slice (some ⟨w.heap.size, 0, none⟩) 1 1) (w.alloc (.cells #[.string ⟨#[]⟩, .slice none 0 0, .slice none 0 0, .string ⟨#[]⟩] 42)) := by kernel_rfl
def topNode : NodeR := { name := [], text := [], av := .slice none 0 0, kv := .slice none 0 0, al := [], ev := [], fp := [] }
/-- The builder as it begins. -/
theorem read_start (w : World) : RBld ((w.alloc (.cells #[.string ⟨#[]⟩, .slice none 0 0, .slice none 0 0, .string ⟨#[]⟩] 42)).alloc (.cells #[.slice (some ⟨w.heap.size, 0, none⟩) 1 1] 127)) (w.heap.size + 1) [w.heap.size + 1, w.heap.size] [] [] := by
  refine ⟨.slice (some ⟨w.heap.size, 0, none⟩) 1 1, topNode, [], ⟨⟨127, ?_⟩, ⟨⟨rfl, .inr ⟨w.heap.size, 1, #[.string ⟨#[]⟩, .slice none 0 0, .slice none 0 0, .string ⟨#[]⟩], rfl, Nat.zero_le _, ?_, by simp, by unfold maxLen; decide, rfl, rfl⟩⟩, ?_⟩, ?_, ?_, ?_⟩, rfl, by simp, rfl, rfl⟩
  · have := heap_alloc_new (w.alloc (.cells #[.string ⟨#[]⟩, .slice none 0 0, .slice none 0 0, .string ⟨#[]⟩] 42)) (.cells #[.slice (some ⟨w.heap.size, 0, none⟩) 1 1] 127)
    have e : (w.alloc (.cells #[.string ⟨#[]⟩, .slice none 0 0, .slice none 0 0, .string ⟨#[]⟩] 42)).heap.size = w.heap.size + 1 := by simp
    rw [e] at this
    exact this
  · rw [Below.heap_alloc _ _ _ (by simp)]
    exact heap_alloc_new w _
  · intro n hn
    simp at hn
    subst hn
    exact ⟨[], nilA _, Tree.nil _, rfl, rfl⟩
  · intro k
    simp [fpOf, topNode, Value.ownBlock]
  · simp [fpOf, topNode, Value.ownBlock]
  · intro k hk
    simp at hk ⊢
    omega
set_option maxRecDepth 100000 in
set_option maxHeartbeats 8000000 in
theorem rRead (m : ByteArray) (w : World) (hm : m.size ≤ 4294967296) :
    Calls Tryz.prog 58 #[.string m] w fun e w' => ∃ v, e = .returned v ∧ NewTree w w' v (readP m.data.toList) := by
  have hll : m.data.toList.length = m.size := len_of m
  have hmk := mk_one
  have hb0 := read_start w
  have hk0 : Kept [] w ((w.alloc (.cells #[.string ⟨#[]⟩, .slice none 0 0, .slice none 0 0, .string ⟨#[]⟩] 42)).alloc (.cells #[.slice (some ⟨w.heap.size, 0, none⟩) 1 1] 127)) := ((Kept.refl [] w).alloc _).alloc _
  obtain ⟨htok, hsum⟩ := toks_ok m.size m.data.toList (by omega)
  go_enter Tryz.func58, Tryz.ntmps58
  go_wp2_with fail
  refine (rTokens m _ (by omega)).mono ?_
  rintro e w1 ⟨v, ts, rfl, hts, hT, hk1, hl1⟩
  have hb1 := hb0.kept hk1 (by simp)
  have hK1 := hk0.trans hk1
  have hsz0 : ((w.alloc (.cells #[.string ⟨#[]⟩, .slice none 0 0, .slice none 0 0, .string ⟨#[]⟩] 42)).alloc (.cells #[.slice (some ⟨w.heap.size, 0, none⟩) 1 1] 127)).heap.size = w.heap.size + 2 := by simp
  have hnd := hT.nd
  have hnew : ∀ x, x ∈ (v.ownBlock.toList ++ tokFp ts) → w.heap.size + 2 ≤ x := fun x hx => by have := (hT.new x hx).1; rw [hsz0] at this; exact this
  have hRI : RI w (w.heap.size + 1) v ts ([], []) w1 0 [w.heap.size + 1, w.heap.size] := by
    refine ⟨hb1, hK1, ?_, hT.row, ?_, ?_⟩
    · intro x hx
      simp at hx
      omega
    · intro x hx hc
      have := hnew x (by rw [hx]; simp)
      simp at hc
      omega
    · intro j hj _
      refine ⟨hT.own _ (List.getElem_mem hj), fun x hx hc => ?_⟩
      have := hnew x (by simp [mem_tokFp (List.getElem_mem hj) hx])
      simp at hc
      omega
  have hnew2 : ∀ x, x ∈ tokFp ts → w.heap.size ≤ x := fun x hx => by have := hnew x (by simp [hx]); omega
  obtain ⟨va, vc, rfl⟩ := ownsRow_form hT.row
  have hpos : ∀ k, k < ts.length → ∃ g, va = some ⟨g, 0, none⟩ := by
    intro k hk
    rcases hT.row.2 with ⟨_, h0⟩ | ⟨g, c, cur, hv, _⟩
    · omega
    · injection hv with e1
      exact ⟨g, e1⟩
  have HND : Hid _ := hnd
  have HNEW : Hid _ := hnew2
  have HTS : Hid _ := hts
  have HTOK : Hid _ := htok
  have HSUM : Hid _ := hsum
  have HPOS : Hid _ := hpos
  clear hb0 hk0 hT hk1 hb1 hK1 hsz0 hnd hnew hnew2 hts htok hsum hpos
  generalize w.heap.size + 1 = bb at *
  have hfold : ∀ k, k ≤ ts.length → (((ts.take k).map TokR.tk).foldl stepTok ([], [])).2.length ≤ 12 ∧ (((ts.take k).map TokR.tk).foldl stepTok ([], [])).1.length ≤ 283467841536 ∧ evSize (((ts.take k).map TokR.tk).foldl stepTok ([], [])).1 + 0 ≤ 4294967296 ∧ ∀ h : k < ts.length, evSize (((ts.take k).map TokR.tk).foldl stepTok ([], [])).1 + ts[k].tk.2.2.2.length ≤ 4294967296 := fun k hk => by
    obtain ⟨a, b, c⟩ := fold_fits ((ts.take k).map TokR.tk) ([], []) (by simp)
    have hs2 : (((ts.take k).map TokR.tk).map (fun t => t.2.2.2.length)).sum ≤ m.size := by
      have h1 := take_sum ((toksP m.data.toList).map (fun t => t.2.2.2.length)) k
      have h2 := HSUM.out
      rw [← HTS.out] at h1 h2
      rw [← List.map_take, ← List.map_take] at h1
      omega
    have hl2 : ((ts.take k).map TokR.tk).length ≤ m.size := by simp; omega
    refine ⟨a, ?_, ?_, fun h => ?_⟩
    · simp only [List.length_nil] at b
      omega
    · have : evSize ([] : List Ev) = 0 := rfl
      simp only [this] at c
      omega
    · have hs3 : (((ts.take (k + 1)).map TokR.tk).map (fun t => t.2.2.2.length)).sum ≤ m.size := by
        have h1 := take_sum ((toksP m.data.toList).map (fun t => t.2.2.2.length)) (k + 1)
        have h2 := HSUM.out
        rw [← HTS.out] at h1 h2
        rw [← List.map_take, ← List.map_take] at h1
        omega
      rw [List.take_succ_eq_append_getElem h] at hs3
      simp only [List.map_append, List.map_cons, List.map_nil, List.sum_append, List.sum_cons, List.sum_nil] at hs3
      have : evSize ([] : List Ev) = 0 := rfl
      simp only [this] at c
      omega
  have HFOLD : Hid _ := hfold
  clear hfold
  go_wp2_with fail
  go_loopg [5] ts.length (fun g x wr => ∃ (k : Nat) (F : List Nat), k ≤ ts.length ∧ g = ts.length - k ∧ x = .int .i64 (k : Int) ∧ RI w bb (.slice va ts.length vc) ts (((ts.take k).map TokR.tk).foldl stepTok ([], [])) wr k F)
  case atStart => exact ⟨0, _, by omega, by omega, rfl, by simpa using hRI⟩
  case round =>
    clear hRI
    obtain ⟨k, F, hkl, hgk, rfl, hri⟩ := hrel
    have HG : Hid _ := hgk
    clear hgk
    obtain ⟨f1, f2, f3, f4⟩ := HFOLD.out k hkl
    by_cases hlt : k < ts.length
    · have hlt' : (k : Int) < (ts.length : Int) := by omega
      have hge : (0 : Int) ≤ (k : Int) := by omega
      have f5 := f4 hlt
      obtain ⟨g, rfl⟩ := HPOS.out k hlt
      have hsnoc : ((ts.take (k + 1)).map TokR.tk).foldl stepTok ([], []) = stepTok (((ts.take k).map TokR.tk).foldl stepTok ([], [])) ts[k].tk := by
        rw [List.take_succ_eq_append_getElem hlt, List.map_append, List.foldl_append]
        rfl
      have hmem : ts[k].tk ∈ toksP m.data.toList := by
        rw [← HTS.out]
        exact List.mem_map_of_mem (List.getElem_mem hlt)
      have hok := HTOK.out _ hmem
      have hstep : ∀ (X : List Nat) (o' : List Ev × List (List UInt8)) (w' : World), (∀ x, x ∈ X → ts[k].av.ownBlock = some x) → RPost bb (F ++ X) [] o'.1 o'.2 wr w' → ∃ F', RI w bb (.slice (some ⟨g, 0, none⟩) ts.length vc) ts o' w' (k + 1) F' := fun X o' w' hX hp => hri.step HND.out HNEW.out hlt hX hp
      have HSTEP : Hid _ := hstep
      have HSNOC : Hid _ := hsnoc
      obtain ⟨c0, c1, c2, c3⟩ := tokCells_get ts k hlt
      have r0 := row_cell hri.row c0
      have r1 := row_cell hri.row c1
      have r2 := row_cell hri.row c2
      have r3 := row_cell hri.row c3
      obtain ⟨ho1, ho2⟩ := hri.own k hlt (Nat.le_refl _)
      have hrow := hri.row
      have hvF := hri.vF g rfl
      have hbld := hri.bld
      clear hstep hsnoc hmem c0 c1 c2 c3
      generalize ((ts.take k).map TokR.tk).foldl stepTok ([], []) = o at *
      obtain ⟨E, st⟩ := o
      simp only at f1 f2 f3 f5 hbld
      generalize htk : ts[k] = tk at *
      obtain ⟨⟨sk, nm, al, tx⟩, av⟩ := tk
      simp only at r0 r1 r2 r3 ho1 ho2 f5
      rcases hok with ⟨a1, a2, a3, a4⟩ | ⟨a1, a2, a3⟩ | ⟨a1, a2, a3, a4⟩
      · simp only at a1 a2 a3 a4
        subst a1 a2 a3
        have hfo := fits_open (E := E) f1
        have hfin : ∀ w', RPost bb F [] (addText (openP E st).1 tx) (openP E st).2 wr w' → ∃ F', RI w bb (.slice (some ⟨g, 0, none⟩) ts.length vc) ts (((ts.take (k + 1)).map TokR.tk).foldl stepTok ([], [])) w' (k + 1) F' := fun w' hp => by
          rw [HSNOC.out]
          refine HSTEP.out [] _ w' (by simp) ?_
          rw [List.append_nil]
          exact hp
        have HFIN : Hid _ := hfin
        clear hfin
        go_wp2_with fail
        refine (rCell bb F E st _ hbld f1 (by omega) (by omega)).mono ?_
        rintro e w2 ⟨rfl, F2, hb2, hk2, hg2⟩
        have hgl : g < wr.heap.size := (World.ownsRow.lt hrow g rfl).2
        have s3 := (hk2.cell (p := ⟨g, k * 4 + 3, none⟩) hgl hvF).trans r3
        generalize openP E st = o2 at *
        obtain ⟨E2, st2⟩ := o2
        obtain ⟨y1, y2, y3⟩ := hfo
        simp only at y1 y2 y3
        have hput := rPut bb F2 E2 st2 (NodeR.ofText tx) none none 0 0 0 0 w2 hb2 (ofTextOk w2 tx a4) rfl rfl (fun k hk => by simp [NodeR.ofText] at hk) (by simp [NodeR.ofText]) y1 (by omega) (by show _ + tx.length ≤ _; omega)
        have e2 : putE E2 (NodeR.ofText tx) = addText E2 tx := by unfold putE; rw [if_pos (show (NodeR.ofText tx).name = [] from rfl)]; rfl
        rw [e2] at hput
        clear e2 r0 r1 r2 r3
        go_wp2_with fail
        refine hput.mono ?_
        rintro e w3 ⟨rfl, hp3⟩
        obtain ⟨F', hri'⟩ := HFIN.out _ (RPost.then hk2 (grow_nil hg2) hp3)
        go_wp2_with fail
        go_roundg (ts.length - (k + 1))
        case measure => rw [HG.out]; omega
        case rel => exact ⟨k + 1, F', by omega, rfl, by go_num, hri'⟩
      · simp only at a1 a2 a3
        subst a1
        obtain ⟨xa, xc, rfl⟩ := ownsRow_form ho1
        have hfin : ∀ w', RPost bb (F ++ (Value.slice xa al.length xc).ownBlock.toList) [] (startT E st nm al tx).1 (startT E st nm al tx).2 wr w' → ∃ F', RI w bb (.slice (some ⟨g, 0, none⟩) ts.length vc) ts (((ts.take (k + 1)).map TokR.tk).foldl stepTok ([], [])) w' (k + 1) F' := fun w' hp => by
          rw [HSNOC.out]
          exact HSTEP.out _ _ w' (fun x hx => by simpa using hx) hp
        have HFIN : Hid _ := hfin
        clear hfin
        have hstart := rStartB bb F E st 1 nm xa xc al tx wr hbld ho1 a2 ho2 f1 (by omega) (by omega) (fun h => by
          have h1 := a3 h
          cases hh : holdsP nm with
          | false => rfl
          | true =>
            exfalso
            unfold holdsP at hh
            simp at hh
            rcases hh with hh | hh <;> rw [hh] at h1 <;> revert h1 <;> decide)
        go_wp2_with fail
        refine hstart.mono ?_
        rintro e w3 ⟨rfl, hp3⟩
        obtain ⟨F', hri'⟩ := HFIN.out _ hp3
        go_wp2_with fail
        go_roundg (ts.length - (k + 1))
        case measure => rw [HG.out]; omega
        case rel => exact ⟨k + 1, F', by omega, rfl, by go_num, hri'⟩
      · simp only at a1 a2 a3 a4
        subst a1
        have hfin : ∀ w', RPost bb F [] (endE E st nm).1 (endE E st nm).2 wr w' → ∃ F', RI w bb (.slice (some ⟨g, 0, none⟩) ts.length vc) ts (((ts.take (k + 1)).map TokR.tk).foldl stepTok ([], [])) w' (k + 1) F' := fun w' hp => by
          rw [HSNOC.out]
          refine HSTEP.out [] _ w' (by simp) ?_
          rw [List.append_nil]
          exact hp
        have HFIN : Hid _ := hfin
        clear hfin
        go_wp2_with fail
        refine (rEnd bb F E st ⟨nm.toArray⟩ _ hbld f1 (by omega) (by omega)).mono ?_
        rintro e w3 ⟨rfl, hp3⟩
        obtain ⟨F', hri'⟩ := HFIN.out _ hp3
        go_wp2_with fail
        go_roundg (ts.length - (k + 1))
        case measure => rw [HG.out]; omega
        case rel => exact ⟨k + 1, F', by omega, rfl, by go_num, hri'⟩
    · have hlt' : ((k : Int) < (ts.length : Int)) = False := eq_false (by omega)
      obtain rfl : k = ts.length := by omega
      have HRD : Hid (readP m.data.toList = closeE (((ts.take ts.length).map TokR.tk).foldl stepTok ([], [])).1 (((ts.take ts.length).map TokR.tk).foldl stepTok ([], [])).2 0) := by
        show _ = _
        rw [readP_toks, ← HTS.out, List.take_length]
      have hcl : Calls Tryz.prog 92 #[.pointer (some ⟨bb, 0, none⟩), .int .i64 1] wr fun e w' => e = .returned (.tuple #[]) ∧ RPost bb F [] (closeE (((ts.take ts.length).map TokR.tk).foldl stepTok ([], [])).1 (((ts.take ts.length).map TokR.tk).foldl stepTok ([], [])).2 0) ((((ts.take ts.length).map TokR.tk).foldl stepTok ([], [])).2.take 0) wr w' := rCloseTo bb 0 F _ _ wr hri.bld (by omega) f1 (by omega) (by omega)
      rw [← HRD.out] at hcl
      generalize hev0 : readP m.data.toList = ev at hcl
      have HEV : Hid _ := hev0
      clear hev0
      go_wp2_with fail
      refine hcl.mono ?_
      rintro e w2 ⟨rfl, F2, hb2, hk2, hg2⟩
      have hg2' := grow_nil hg2
      obtain ⟨ov, n0, os, hb, h0, hnn, hE, hS⟩ := hb2
      have hos : os = [] := by
        have h1 := congrArg List.length hS
        simp at h1
        exact List.eq_nil_of_length_eq_zero h1.symm
      subst hos
      have hown := hb.2.1.1
      obtain ⟨g, cap, rfl⟩ := form_pos (n := 0) hown
      obtain ⟨kfp, ha, hkt, hf, ht⟩ := hb.2.1.2 n0 (by simp)
      have c0 := hb.cells.1
      have hkg := (cellsOf_get [n0] 0 (by simp)).2.2.1
      have r2 := row_cell hown hkg
      simp only [Nat.zero_mul, Nat.zero_add, List.getElem_cons_zero] at r2
      obtain ⟨kns, hkr, _⟩ := hkt.open
      obtain ⟨ka, kc, hkv⟩ := ownsRow_form hkr
      rw [hkv] at r2 hkt
      have hev : ev = n0.ev := by rw [hE]; simp [rOut]
      have hfin : NewTree w w2 (.slice ka kns.length kc) ev := by
        refine ⟨kfp, by rw [hev]; exact hkt, ?_, ?_, ?_⟩
        · have h7 := hb.2.2.2.1
          rw [List.nodup_cons, List.nodup_append] at h7
          have h8 := h7.2.2.1
          rw [show fpOf [n0] = n0.fp by simp [fpOf], hf, List.nodup_append] at h8
          exact h8.2.1
        · intro x hx
          have hxF : x ∈ F2 := (hb.mem x).2 (.inr (.inr (mem_fpOf (n := n0) (by simp) (by rw [hf]; simp [hx]))))
          refine ⟨?_, hb.2.2.2.2 x hxF⟩
          rcases hg2' x hxF with h1 | h1
          · exact hri.new x h1
          · have := hri.kept.size
            omega
        · exact hri.kept.trans_new hk2 (fun i hi => .inr (hri.new i hi))
      clear hb hown hkt hkr hri hE hnn h0
      go_wp2_with fail
      go_ret
      rw [HEV.out]
      exact ⟨.slice ka kns.length kc, rfl, hfin⟩
end Go.Proofs.YtlpmjpmefdpcmaaGreatDoor
