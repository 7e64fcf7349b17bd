import Derived.Test.YtlpmjpmefdpcmaaGreatDoorRows
import Derived.Test.YtlpmjpmefdpcmaaGreatDoorQCl2
import Derived.LaidLaws
import Derived.ChangeSame
import Derived.Lib.LaidTab
import Derived.ProofKit
import Derived.SevenTiedAt
import Derived.SliceStrings
import Derived.SizedLaws
import Derived.Carry
namespace Go.Proofs.YtlpmjpmefdpcmaaGreatDoor
open Go.ChangeShapes Go.WideShapes Go.RowKit
/-- The table's name, as the row has it. -/
def signsName : String := (Rows.nothingRow.laid.map (·.1)).headD default
def beginsName : String := ((Rows.nothingRow.laid.map (·.1)).drop 1).headD default
theorem gBegins : Tryz.prog.globalNamed beginsName = some 2 := by kernel_rfl
theorem gBeginsType : (Tryz.prog.globals[2]?).map (·.type) = some 221 := by kernel_rfl
theorem cellsBegins : Tryz.prog.cellsOf 221 = 4 := by kernel_rfl
theorem gSigns : Tryz.prog.globalNamed signsName = some 0 := by kernel_rfl
theorem gSignsType : (Tryz.prog.globals[0]?).map (·.type) = some 212 := by kernel_rfl
theorem cellsSign : Tryz.prog.cellsOf 211 = 2 := by kernel_rfl
theorem cellsSigns : Tryz.prog.cellsOf 212 = 8 := by kernel_rfl
theorem cellsStr : Tryz.prog.cellsOf 9 = 1 := by kernel_rfl
theorem cellsU8 : Tryz.prog.cellsOf 5 = 1 := by kernel_rfl
theorem ba_of {s : ByteArray} {l : List UInt8} (h : s.data.toList = l) : s = ⟨l.toArray⟩ := by
  apply ByteArray.ext
  rw [← h]
/-- One sign of the table. -/
theorem sign_cells {w : World} {base : Nat} {sp : Nat → Bool} {held : Bool} {fuel : Nat} {cs : List Value} {p : List MemPlace} {wr : List UInt8} {rd : Int} (i : Nat)
    (h : DataW.trod (fun _ => ()) Tryz.prog w base sp held fuel 211 ((cs.drop (i * 2)).take 2) = some (.agg [.lit (.string wr), .lit (.int .u8 rd)], p)) :
    cs[i * 2]? = some (.string ⟨wr.toArray⟩) ∧ cs[i * 2 + 1]? = some (.int .u8 rd) := by
  obtain ⟨y0, y1, n, hx, hl, h0, h1⟩ := trod_struct2 Tryz.underlying211 h
  obtain ⟨s, hc0, hy0, _⟩ := DataW.trod_string Tryz.underlying9 h0
  obtain ⟨z, hc1, hy1, _⟩ := DataW.trod_int Tryz.underlying5 h1
  subst hy0 hy1
  have e1 := congrArg Prod.fst hx
  simp only [DataW.agg.injEq, List.cons.injEq, DataW.lit.injEq, Lit.string.injEq, Lit.int.injEq, and_true, true_and] at e1
  obtain ⟨e1, e2⟩ := e1
  have hs := ba_of e1.symm
  subst hs e2
  rw [cellsStr] at hc0
  rw [cellsU8] at hc1
  have g0 := congrArg (·[0]?) hc0
  have g1 := congrArg (·[0]?) hc1
  simp [List.getElem?_drop] at g0 g1
  exact ⟨g0, g1⟩
/-- WHAT THE ROW's LIST, AND THE VARIABLES' SHAPES, GIVE. -/
theorem glob_of {W : World} (h : laidMetH Tryz.prog Rows.nothingRow.laid W) (hS : W.ShapedOpen Tryz.prog) : Glob W := by
  have h' : laidMet Tryz.prog [(signsName, Rows.laid_scrub_token_signs), (beginsName, Rows.laid_scrub_clean_beginnings)] W := h
  obtain ⟨ps, ⟨g', t', cs, fuel, p, q, hg', ht', hvar, hd, _, _⟩, _⟩ := h'
  obtain rfl := Option.some.inj (gSigns.symm.trans hg')
  obtain rfl := Option.some.inj (gSignsType.symm.trans ht')
  refine ⟨Tryz.laysM219.s1_3 W hS, ?_⟩
  have hcell : ∀ i : Nat, W.cell? ⟨0, i, none⟩ = cs[i]? := by
    intro i
    have := World.var?_cell gSigns hvar i
    simpa using this
  have hu : Tryz.prog.underlying 212 = some (.array 4 211) := Tryz.underlying212
  cases fuel with
  | zero => simp [DataW.trod] at hd
  | succ fuel =>
    simp only [DataW.trod, hu, cellsSign, cellsSigns] at hd
    split at hd
    · obtain ⟨xs, hm, hx⟩ := Option.map_eq_some_iff.1 hd
      have hxs := congrArg Prod.fst hx
      simp only [Rows.laid_scrub_token_signs, DataW.agg.injEq] at hxs
      have key : ∀ (i : Nat) (wr : List UInt8) (rd : Int), i < 4 → (xs.map (·.1))[i]? = some (.agg [.lit (.string wr), .lit (.int .u8 rd)]) → cs[i * 2]? = some (.string ⟨wr.toArray⟩) ∧ cs[i * 2 + 1]? = some (.int .u8 rd) := by
        intro i wr rd hi hxi
        obtain ⟨b, hb, hf⟩ := Lib.mapM_at hm i i (by simp [hi])
        rw [List.getElem?_map, hb] at hxi
        have hb1 : b.1 = .agg [.lit (.string wr), .lit (.int .u8 rd)] := by simpa using hxi
        obtain ⟨b1, b2⟩ := b
        simp only at hb1
        subst hb1
        have := sign_cells i hf
        simpa using this
      rw [hxs] at key
      obtain ⟨a0, a1⟩ := key 0 _ _ (by omega) rfl
      obtain ⟨a2, a3⟩ := key 1 _ _ (by omega) rfl
      obtain ⟨a4, a5⟩ := key 2 _ _ (by omega) rfl
      obtain ⟨a6, a7⟩ := key 3 _ _ (by omega) rfl
      simp only [hcell]
      exact ⟨a0, a1, a2, a3, a4, a5, a6, a7⟩
    · cases hd
theorem globB_of {W : World} (h : laidMetH Tryz.prog Rows.nothingRow.laid W) : GlobB W := by
  have h' : laidMet Tryz.prog [(signsName, Rows.laid_scrub_token_signs), (beginsName, Rows.laid_scrub_clean_beginnings)] W := h
  obtain ⟨ps, ⟨_, _, _, _, _, _, _, _, _, _, ⟨g', t', cs, fuel, p, q, hg', ht', hvar, hd, _, _⟩, _⟩, _⟩ := h'
  obtain rfl := Option.some.inj (gBegins.symm.trans hg')
  obtain rfl := Option.some.inj (gBeginsType.symm.trans ht')
  have hcell : ∀ i : Nat, W.cell? ⟨2, i, none⟩ = cs[i]? := by
    intro i
    have := World.var?_cell gBegins hvar i
    simpa using this
  have hu : Tryz.prog.underlying 221 = some (.array 4 9) := Tryz.underlying221
  cases fuel with
  | zero => simp [DataW.trod] at hd
  | succ fuel =>
    simp only [DataW.trod, hu, cellsStr, cellsBegins] at hd
    split at hd
    · obtain ⟨xs, hm, hx⟩ := Option.map_eq_some_iff.1 hd
      have hxs := congrArg Prod.fst hx
      simp only [Rows.laid_scrub_clean_beginnings, DataW.agg.injEq] at hxs
      have key : ∀ (i : Nat) (wr : List UInt8), i < 4 → (xs.map (·.1))[i]? = some (.lit (.string wr)) → cs[i]? = some (.string ⟨wr.toArray⟩) := by
        intro i wr hi hxi
        obtain ⟨b, hb, hf⟩ := Lib.mapM_at hm i i (by simp [hi])
        rw [List.getElem?_map, hb] at hxi
        have hb1 : b.1 = .lit (.string wr) := by simpa using hxi
        obtain ⟨b1, b2⟩ := b
        simp only at hb1
        subst hb1
        obtain ⟨s, hc0, hy0, _⟩ := DataW.trod_string Tryz.underlying9 hf
        have e1 := congrArg Prod.fst hy0
        simp only [DataW.lit.injEq, Lit.string.injEq] at e1
        have hs := ba_of e1.symm
        subst hs
        have g0 := congrArg (·[0]?) hc0
        simpa [List.getElem?_drop] using g0
      rw [hxs] at key
      refine ⟨?_, ?_, ?_, ?_⟩
      · rw [hcell]; exact key 0 _ (by omega) rfl
      · rw [hcell]; exact key 1 _ (by omega) rfl
      · rw [hcell]; exact key 2 _ (by omega) rfl
      · rw [hcell]; exact key 3 _ (by omega) rfl
    · cases hd
end Go.Proofs.YtlpmjpmefdpcmaaGreatDoor
/- A row that says 'leaving' out of the same row that says 'alone': where nobody else is, nobody is leaving. No function of the program in it. -/
namespace Go.Proofs.YtlpmjpmefdpcmaaGreatDoor
open Go
theorem leaving_of_alone {P : Program} {last : Machine} {w : World} {t : Trace} (h : aloneAtReturn P last w t) : leavingAtReturn P last w t := by
  obtain ⟨⟨h1, h2⟩, h3, h4⟩ := h
  refine ⟨h3, ⟨fun g hg => ⟨0, ?_⟩, h2⟩, h4⟩
  have h5 := List.all_eq_true.1 h1 g hg
  exact eq_of_beq h5
theorem open_leaving {a : Assume} {C : Checked} {os : Os} {f : FuncId} {r : Reach} {ok : Program → World → Reach → Nat → FuncId → Input → Prop} {Pre : World → Array Value → Prop} {Post : World → Array Value → Value → World → Prop} {alw : Machine → Prop}
    (h : ReturnsInOpen a none C os f r ok Pre Post (aloneAtReturn C.prog) alw) : ReturnsInOpen a none C os f r ok Pre Post (leavingAtReturn C.prog) alw := by
  obtain ⟨h1, h2, h3, h4, h5⟩ := h
  refine ⟨h1, h2, h3, h4, fun w tape i hf => ?_⟩
  obtain ⟨n, v, w', g1, g2, g3, g4, ⟨j, last, k1, k2, k3⟩, g6⟩ := h5 w tape i hf
  exact ⟨n, v, w', g1, g2, g3, g4, ⟨j, last, k1, k2, leaving_of_alone k3⟩, g6⟩
theorem holds_leaving {p : Pinned} {s : OpenSpec} {c : OpenClaim} (hlv : c.leaving = true) (hwf : c.wf s = true) (hst : c.start = .entering) (hs : c.stops = []) (h : ({ c with leaving := false } : OpenClaim).holds p s) : c.holds p s := by
  obtain ⟨_, a2, a3, a4, a5, a6, a7, a8, f, fn, b⟩ := h
  refine ⟨hwf, a2, a3, a4, a5, a6, a7, a8, f, fn, ?_⟩
  revert b
  repeat refine And.imp_right ?_
  rintro ⟨L, hL, hb⟩
  refine ⟨L, hL, fun os ho hq H enc inj => ?_⟩
  have hh := hb os ho hq H enc inj
  clear hb a2 a3 a4 a5 a6 a7 a8
  unfold OpenClaim.form at hh ⊢
  have hs' : ({ c with leaving := false } : OpenClaim).stops = [] := hs
  have hst' : ({ c with leaving := false } : OpenClaim).start = .entering := hst
  have ea : c.atReturn p.checked.prog = leavingAtReturn p.checked.prog := by unfold OpenClaim.atReturn; rw [hlv]
  rw [hst', hs'] at hh
  rw [hst, hs]
  intro F
  show ReturnsInOpen _ _ _ _ _ _ _ _ _ (c.atReturn p.checked.prog) _
  rw [ea]
  exact open_leaving (hh F)
/-- A tied card of a call whose text holds a go statement. -/
theorem card_goes {p : Pinned} {s : OpenSpec} {c : OpenClaim} (kinds : List LaidKind) (tests : Bool) (har : Bool × String) (lk : Bool) (hc : c.holds p s) (hw : c.wfByText s = true) (htie : c.laidByTextAt .later p kinds tests)
    (hst : c.start = .entering) (hnb : c.noBlocks = false ∧ c.again = false) (hm : p.checked.prog.mainIs = some (har.1, har.2.toList)) (hn : (!har.1 && har.2.isEmpty && !lk) = false)
    (hl : ∀ f fn, p.checked.prog.funcNamed c.func = some f → p.checked.prog.funcs[f]? = some fn → lk = p.checked.prog.looks [] ∧ ∀ (j : Nat) t, fn.params[j]? = some t → p.checked.prog.wantsStandIn t = false)
    (hg : true = c.goesBy p.checked.prog) :
    Claim7.holds p (.plain s) { stood := { row := c, standIns := [], harness := har, looks := lk }, kinds := [], alts := [], goes := true, laidByText := true, laidKinds := kinds, laidTests := tests, laidLooks := .later } := by
  have h6 : ∀ r : OpenClaim, Claim7.isSixth { stood := { row := r, standIns := [], harness := har, looks := lk }, kinds := [] } = false := fun r => by simpa [Claim7.isSixth] using hn
  have h1 := Claim7.tied_new_at .later kinds tests (Claim7.new_of_sixth hc har lk hst hnb hm (h6 c) hl) hw
  exact ⟨h1, (fun D hD => by cases hD), htie, (fun h => by cases h), hg⟩
end Go.Proofs.YtlpmjpmefdpcmaaGreatDoor
/- A list of strings among the arguments. No function of the program in it. -/
namespace Go.Proofs.YtlpmjpmefdpcmaaGreatDoor
open Go.ChangeShapes Go.WideShapes Go.RowKit
theorem soStr : Tryz.prog.cellsOf 9 = 1 := by kernel_rfl
theorem soBytes : Tryz.prog.bytesOf 9 = 16 := by kernel_rfl
theorem strs_weight {H : Type} {l : List ByteArray} {s : ByteArray} (h : s ∈ l) : s.data.toList.length ∈ DataW.weightsAll Tryz.prog 9 (strs l : List (DataW H)) := by
  induction l with
  | nil => cases h
  | cons a t ih =>
    show _ ∈ [a.data.toList.length] ++ DataW.weightsAll Tryz.prog 9 (strs t)
    rcases List.mem_cons.1 h with rfl | h
    · simp
    · exact List.mem_append_right _ (ih h)
set_option maxRecDepth 100000 in
theorem strs_open {H : Type} {enc : TypeId × Value → H} {W : World} {base : Nat} {v : Value} {d : DataW H} {p : List MemPlace} (hval : Value.okWide Tryz.prog W .any base 22 v) (h : DataW.Trod enc Tryz.prog W 0 (fun _ => true) true 22 v d p) :
    ∃ es : List (List UInt8), StrsAt W v es ∧ (∀ x ∈ p, x.block < W.heap.size) ∧ ((∀ n ∈ d.weights Tryz.prog 22, n ≤ reachBytes) → es.length ≤ 140737488355328 ∧ ∀ e ∈ es, e.length ≤ 140737488355328) := by
  obtain ⟨a0, len0, cap0, rfl⟩ := okWide_slice Tryz.underlying22 hval
  obtain ⟨fuel, hf⟩ := h
  rcases open_strings Tryz.underlying22 Tryz.underlying9 soStr hf with ⟨hcs, hx⟩ | ⟨a, len, cap, ss, hcs, _, hl, hm, hz, hx, hcell, hsz⟩
  · have e1 : Value.slice a0 len0 cap0 = .slice none 0 0 := by simpa [Value.cells] using hcs
    injection e1 with e1 e2 e3
    subst e1 e2 e3
    injection hx with hx1 hx2
    subst hx1 hx2
    exact ⟨[], ⟨none, 0, rfl, fun i hi => absurd hi (by simp)⟩, by simp, fun _ => ⟨by simp, by simp⟩⟩
  · have e1 : Value.slice a0 len0 cap0 = .slice (some a) len cap := by simpa [Value.cells] using hcs
    injection e1 with e1 e2 e3
    subst e1 e2 e3
    injection hx with hx1 hx2
    subst hx1 hx2
    have hss : ss.length = cap0 := by simpa using hz
    have hlen : ((ss.take len0).map (fun s => s.data.toList)).length = len0 := by simp; omega
    refine ⟨(ss.take len0).map (fun s => s.data.toList), ⟨some a, cap0, by rw [hlen], fun i hi => ?_⟩, ?_, ?_⟩
    · have hi' : i < len0 := by omega
      have c0 := hcell 0 (by omega)
      have hsp : a.spot = none := by simpa [Addr.add] using World.cell?_spot c0
      have ha : a = ⟨a.block, a.off, none⟩ := by cases a; simp_all
      refine ⟨a.block, a.off, by rw [← ha], ?_⟩
      have ci := hcell i (by omega)
      have hadd : a.add i = ⟨a.block, a.off + i, none⟩ := by
        unfold Addr.add
        split
        · rename_i h0
          subst h0
          simpa using ha
        · rfl
      rw [hadd] at ci
      rw [ci]
      congr 2
      have hg : ss.getD i ByteArray.empty = ss[i]'(by omega) := by simp [List.getD, List.getElem?_eq_getElem (show i < ss.length by omega)]
      rw [hg]
      apply ByteArray.ext
      simp
    · intro x hxm
      by_cases h0 : ss.length = 0
      · rw [h0] at hxm
        simp [MemPlace.row] at hxm
      · have c0 := cell_lt (hcell 0 (by omega))
        have hb0 : (a.add 0).block = a.block := rfl
        rw [hb0] at c0
        obtain ⟨j, _, rfl⟩ := List.mem_map.1 hxm
        exact c0
    · intro hw
      have hw' : ∀ n ∈ ((strs (ss.take len0) : List (DataW H)).length + (strs (ss.drop len0) : List (DataW H)).length) * Tryz.prog.bytesOf 9 :: (DataW.weightsAll Tryz.prog 9 (strs (ss.take len0) : List (DataW H)) ++ DataW.weightsAll Tryz.prog 9 (strs (ss.drop len0) : List (DataW H))), n ≤ reachBytes := by
        intro n hn
        apply hw n
        rw [DataW.weights, Tryz.underlying22]
        exact hn
      have hrb : reachBytes ≤ 140737488355328 := by decide
      refine ⟨?_, ?_⟩
      · have h1 := hw' _ List.mem_cons_self
        rw [soBytes] at h1
        have e1 : (strs (ss.take len0) : List (DataW H)).length + (strs (ss.drop len0) : List (DataW H)).length = ss.length := by simp [strs]; omega
        rw [e1] at h1
        rw [hlen]
        omega
      · intro e he
        obtain ⟨s, hs, rfl⟩ := List.mem_map.1 he
        have := hw' _ (List.mem_cons_of_mem _ (List.mem_append_left _ (strs_weight hs)))
        omega
theorem weights_at {H : Type} {ts : List TypeId} {ds : List (DataW H)} (h : (DataW.weightsEach Tryz.prog ts ds).all (· ≤ reachBytes) = true) {j : Nat} {t : TypeId} {d : DataW H} (ht : ts[j]? = some t) (hd : ds[j]? = some d) : ∀ n ∈ d.weights Tryz.prog t, n ≤ reachBytes := by
  intro n hn
  have := List.all_eq_true.1 h n (DataW.weights_mem_each ht hd n hn)
  simpa using this
end Go.Proofs.YtlpmjpmefdpcmaaGreatDoor
/- A list of strings among the arguments, under the given bound. No function of the program in it. -/
namespace Go.Proofs.YtlpmjpmefdpcmaaGreatDoor
open Go.ChangeShapes Go.WideShapes Go.RowKit
theorem upto_pos {H : Type} (d : DataW H) : 1 ≤ Rows.uptoBulk d := by
  cases d with
  | lit l => cases l <;> simp [Rows.uptoBulk]
  | _ => simp [Rows.uptoBulk]
theorem upto_len {H : Type} : ∀ es : List (DataW H), es.length ≤ Rows.uptoBulkAll es
  | [] => Nat.zero_le _
  | e :: t => by
    have h1 := upto_pos e
    have h2 := upto_len t
    rw [Rows.uptoBulkAll, List.length_cons]
    omega
/-- A list of strings, one cell of an argument. -/
theorem strs_upto {H : Type} {enc : TypeId × Value → H} {W : World} {v : Value} {fuel : Nat} {y : DataW H × List MemPlace} (hf : DataW.trod enc Tryz.prog W 0 (fun _ => true) true fuel 22 [v] = some y) :
    ∃ es : List (List UInt8), StrsAt W v es ∧ (∀ x ∈ y.2, x.block < W.heap.size) ∧ es.length ≤ Rows.uptoBulk y.1 := by
  rcases open_strings Tryz.underlying22 Tryz.underlying9 soStr hf with ⟨hcs, hx⟩ | ⟨a, len, cap, ss, hcs, _, hl, hm, hz, hx, hcell, hsz⟩
  · have e1 : v = .slice none 0 0 := by simpa using hcs
    subst e1 hx
    exact ⟨[], ⟨none, 0, rfl, fun i hi => absurd hi (by simp)⟩, by simp, by simp⟩
  · have e1 : v = .slice (some a) len cap := by simpa using hcs
    subst e1 hx
    have hss : ss.length = cap := by simpa using hz
    have hlen : ((ss.take len).map (fun s => s.data.toList)).length = len := by simp; omega
    refine ⟨(ss.take len).map (fun s => s.data.toList), ⟨some a, cap, by rw [hlen], fun i hi => ?_⟩, ?_, ?_⟩
    · have hi' : i < len := by omega
      have c0 := hcell 0 (by omega)
      have hsp : a.spot = none := by simpa [Addr.add] using World.cell?_spot c0
      have ha : a = ⟨a.block, a.off, none⟩ := by cases a; simp_all
      refine ⟨a.block, a.off, by rw [← ha], ?_⟩
      have ci := hcell i (by omega)
      have hadd : a.add i = ⟨a.block, a.off + i, none⟩ := by
        unfold Addr.add
        split
        · rename_i h0
          subst h0
          simpa using ha
        · rfl
      rw [hadd] at ci
      rw [ci]
      congr 2
      have hg : ss.getD i ByteArray.empty = ss[i]'(by omega) := by simp [List.getD, List.getElem?_eq_getElem (show i < ss.length by omega)]
      rw [hg]
      apply ByteArray.ext
      simp
    · intro x hxm
      by_cases h0 : ss.length = 0
      · rw [h0] at hxm
        simp [MemPlace.row] at hxm
      · have c0 := cell_lt (hcell 0 (by omega))
        have hb0 : (a.add 0).block = a.block := rfl
        rw [hb0] at c0
        obtain ⟨j, _, rfl⟩ := List.mem_map.1 hxm
        exact c0
    · rw [hlen, Rows.uptoBulk]
      have h1 := upto_len (strs (ss.take len) : List (DataW H))
      have h2 : (strs (ss.take len) : List (DataW H)).length = len := by simp [strs]; omega
      omega
end Go.Proofs.YtlpmjpmefdpcmaaGreatDoor
