import Derived.Test.YtlpmjpmefdpcmaaGreatDoorRows
import Derived.Test.YtlpmjpmefdpcmaaGreatDoorQCl2
import Derived.LaidLaws
import Derived.ChangeSame
import Derived.Lib.LaidTab
import Derived.ProofKit
import Derived.SevenTiedAt
namespace Go.Proofs.YtlpmjpmefdpcmaaGreatDoor
open Go.ChangeShapes Go.WideShapes Go.RowKit
/-- The table's name, as the row has it. -/
def signsName : String := (Rows.nothingRow.laid.map (·.1)).headD default
def beginsName : String := ((Rows.nothingRow.laid.map (·.1)).drop 1).headD default
theorem gBegins : Tryz.prog.globalNamed beginsName = some 2 := by kernel_rfl
theorem gBeginsType : (Tryz.prog.globals[2]?).map (·.type) = some 221 := by kernel_rfl
theorem cellsBegins : Tryz.prog.cellsOf 221 = 4 := by kernel_rfl
theorem gSigns : Tryz.prog.globalNamed signsName = some 0 := by kernel_rfl
theorem gSignsType : (Tryz.prog.globals[0]?).map (·.type) = some 212 := by kernel_rfl
theorem cellsSign : Tryz.prog.cellsOf 211 = 2 := by kernel_rfl
theorem cellsSigns : Tryz.prog.cellsOf 212 = 8 := by kernel_rfl
theorem cellsStr : Tryz.prog.cellsOf 9 = 1 := by kernel_rfl
theorem cellsU8 : Tryz.prog.cellsOf 5 = 1 := by kernel_rfl
theorem ba_of {s : ByteArray} {l : List UInt8} (h : s.data.toList = l) : s = ⟨l.toArray⟩ := by
  apply ByteArray.ext
  rw [← h]
/-- One sign of the table. -/
theorem sign_cells {w : World} {base : Nat} {sp : Nat → Bool} {held : Bool} {fuel : Nat} {cs : List Value} {p : List MemPlace} {wr : List UInt8} {rd : Int} (i : Nat)
    (h : DataW.trod (fun _ => ()) Tryz.prog w base sp held fuel 211 ((cs.drop (i * 2)).take 2) = some (.agg [.lit (.string wr), .lit (.int .u8 rd)], p)) :
    cs[i * 2]? = some (.string ⟨wr.toArray⟩) ∧ cs[i * 2 + 1]? = some (.int .u8 rd) := by
  obtain ⟨y0, y1, n, hx, hl, h0, h1⟩ := trod_struct2 Tryz.underlying211 h
  obtain ⟨s, hc0, hy0, _⟩ := DataW.trod_string Tryz.underlying9 h0
  obtain ⟨z, hc1, hy1, _⟩ := DataW.trod_int Tryz.underlying5 h1
  subst hy0 hy1
  have e1 := congrArg Prod.fst hx
  simp only [DataW.agg.injEq, List.cons.injEq, DataW.lit.injEq, Lit.string.injEq, Lit.int.injEq, and_true, true_and] at e1
  obtain ⟨e1, e2⟩ := e1
  have hs := ba_of e1.symm
  subst hs e2
  rw [cellsStr] at hc0
  rw [cellsU8] at hc1
  have g0 := congrArg (·[0]?) hc0
  have g1 := congrArg (·[0]?) hc1
  simp [List.getElem?_drop] at g0 g1
  exact ⟨g0, g1⟩
/-- WHAT THE ROW's LIST, AND THE VARIABLES' SHAPES, GIVE. -/
theorem glob_of {W : World} (h : laidMetH Tryz.prog Rows.nothingRow.laid W) (hS : W.ShapedOpen Tryz.prog) : Glob W := by
  have h' : laidMet Tryz.prog [(signsName, Rows.laid_scrub_token_signs), (beginsName, Rows.laid_scrub_clean_beginnings)] W := h
  obtain ⟨ps, ⟨g', t', cs, fuel, p, q, hg', ht', hvar, hd, _, _⟩, _⟩ := h'
  obtain rfl := Option.some.inj (gSigns.symm.trans hg')
  obtain rfl := Option.some.inj (gSignsType.symm.trans ht')
  refine ⟨Tryz.laysM219.s1_3 W hS, ?_⟩
  have hcell : ∀ i : Nat, W.cell? ⟨0, i, none⟩ = cs[i]? := by
    intro i
    have := World.var?_cell gSigns hvar i
    simpa using this
  have hu : Tryz.prog.underlying 212 = some (.array 4 211) := Tryz.underlying212
  cases fuel with
  | zero => simp [DataW.trod] at hd
  | succ fuel =>
    simp only [DataW.trod, hu, cellsSign, cellsSigns] at hd
    split at hd
    · obtain ⟨xs, hm, hx⟩ := Option.map_eq_some_iff.1 hd
      have hxs := congrArg Prod.fst hx
      simp only [Rows.laid_scrub_token_signs, DataW.agg.injEq] at hxs
      have key : ∀ (i : Nat) (wr : List UInt8) (rd : Int), i < 4 → (xs.map (·.1))[i]? = some (.agg [.lit (.string wr), .lit (.int .u8 rd)]) → cs[i * 2]? = some (.string ⟨wr.toArray⟩) ∧ cs[i * 2 + 1]? = some (.int .u8 rd) := by
        intro i wr rd hi hxi
        obtain ⟨b, hb, hf⟩ := Lib.mapM_at hm i i (by simp [hi])
        rw [List.getElem?_map, hb] at hxi
        have hb1 : b.1 = .agg [.lit (.string wr), .lit (.int .u8 rd)] := by simpa using hxi
        obtain ⟨b1, b2⟩ := b
        simp only at hb1
        subst hb1
        have := sign_cells i hf
        simpa using this
      rw [hxs] at key
      obtain ⟨a0, a1⟩ := key 0 _ _ (by omega) rfl
      obtain ⟨a2, a3⟩ := key 1 _ _ (by omega) rfl
      obtain ⟨a4, a5⟩ := key 2 _ _ (by omega) rfl
      obtain ⟨a6, a7⟩ := key 3 _ _ (by omega) rfl
      simp only [hcell]
      exact ⟨a0, a1, a2, a3, a4, a5, a6, a7⟩
    · cases hd
theorem globB_of {W : World} (h : laidMetH Tryz.prog Rows.nothingRow.laid W) : GlobB W := by
  have h' : laidMet Tryz.prog [(signsName, Rows.laid_scrub_token_signs), (beginsName, Rows.laid_scrub_clean_beginnings)] W := h
  obtain ⟨ps, ⟨_, _, _, _, _, _, _, _, _, _, ⟨g', t', cs, fuel, p, q, hg', ht', hvar, hd, _, _⟩, _⟩, _⟩ := h'
  obtain rfl := Option.some.inj (gBegins.symm.trans hg')
  obtain rfl := Option.some.inj (gBeginsType.symm.trans ht')
  have hcell : ∀ i : Nat, W.cell? ⟨2, i, none⟩ = cs[i]? := by
    intro i
    have := World.var?_cell gBegins hvar i
    simpa using this
  have hu : Tryz.prog.underlying 221 = some (.array 4 9) := Tryz.underlying221
  cases fuel with
  | zero => simp [DataW.trod] at hd
  | succ fuel =>
    simp only [DataW.trod, hu, cellsStr, cellsBegins] at hd
    split at hd
    · obtain ⟨xs, hm, hx⟩ := Option.map_eq_some_iff.1 hd
      have hxs := congrArg Prod.fst hx
      simp only [Rows.laid_scrub_clean_beginnings, DataW.agg.injEq] at hxs
      have key : ∀ (i : Nat) (wr : List UInt8), i < 4 → (xs.map (·.1))[i]? = some (.lit (.string wr)) → cs[i]? = some (.string ⟨wr.toArray⟩) := by
        intro i wr hi hxi
        obtain ⟨b, hb, hf⟩ := Lib.mapM_at hm i i (by simp [hi])
        rw [List.getElem?_map, hb] at hxi
        have hb1 : b.1 = .lit (.string wr) := by simpa using hxi
        obtain ⟨b1, b2⟩ := b
        simp only at hb1
        subst hb1
        obtain ⟨s, hc0, hy0, _⟩ := DataW.trod_string Tryz.underlying9 hf
        have e1 := congrArg Prod.fst hy0
        simp only [DataW.lit.injEq, Lit.string.injEq] at e1
        have hs := ba_of e1.symm
        subst hs
        have g0 := congrArg (·[0]?) hc0
        simpa [List.getElem?_drop] using g0
      rw [hxs] at key
      refine ⟨?_, ?_, ?_, ?_⟩
      · rw [hcell]; exact key 0 _ (by omega) rfl
      · rw [hcell]; exact key 1 _ (by omega) rfl
      · rw [hcell]; exact key 2 _ (by omega) rfl
      · rw [hcell]; exact key 3 _ (by omega) rfl
    · cases hd
end Go.Proofs.YtlpmjpmefdpcmaaGreatDoor
/- A row that says 'leaving' out of the same row that says 'alone': where nobody else is, nobody is leaving. No function of the program in it. -/
namespace Go.Proofs.YtlpmjpmefdpcmaaGreatDoor
open Go
theorem leaving_of_alone {P : Program} {last : Machine} {w : World} {t : Trace} (h : aloneAtReturn P last w t) : leavingAtReturn P last w t := by
  obtain ⟨⟨h1, h2⟩, h3, h4⟩ := h
  refine ⟨h3, ⟨fun g hg => ⟨0, ?_⟩, h2⟩, h4⟩
  have h5 := List.all_eq_true.1 h1 g hg
  exact eq_of_beq h5
theorem open_leaving {a : Assume} {C : Checked} {os : Os} {f : FuncId} {r : Reach} {ok : Program → World → Reach → Nat → FuncId → Input → Prop} {Pre : World → Array Value → Prop} {Post : World → Array Value → Value → World → Prop} {alw : Machine → Prop}
    (h : ReturnsInOpen a none C os f r ok Pre Post (aloneAtReturn C.prog) alw) : ReturnsInOpen a none C os f r ok Pre Post (leavingAtReturn C.prog) alw := by
  obtain ⟨h1, h2, h3, h4, h5⟩ := h
  refine ⟨h1, h2, h3, h4, fun w tape i hf => ?_⟩
  obtain ⟨n, v, w', g1, g2, g3, g4, ⟨j, last, k1, k2, k3⟩, g6⟩ := h5 w tape i hf
  exact ⟨n, v, w', g1, g2, g3, g4, ⟨j, last, k1, k2, leaving_of_alone k3⟩, g6⟩
theorem holds_leaving {p : Pinned} {s : OpenSpec} {c : OpenClaim} (hlv : c.leaving = true) (hwf : c.wf s = true) (hst : c.start = .entering) (hs : c.stops = []) (h : ({ c with leaving := false } : OpenClaim).holds p s) : c.holds p s := by
  obtain ⟨_, a2, a3, a4, a5, a6, a7, a8, f, fn, b⟩ := h
  refine ⟨hwf, a2, a3, a4, a5, a6, a7, a8, f, fn, ?_⟩
  revert b
  repeat refine And.imp_right ?_
  rintro ⟨L, hL, hb⟩
  refine ⟨L, hL, fun os ho hq H enc inj => ?_⟩
  have hh := hb os ho hq H enc inj
  clear hb a2 a3 a4 a5 a6 a7 a8
  unfold OpenClaim.form at hh ⊢
  have hs' : ({ c with leaving := false } : OpenClaim).stops = [] := hs
  have hst' : ({ c with leaving := false } : OpenClaim).start = .entering := hst
  have ea : c.atReturn p.checked.prog = leavingAtReturn p.checked.prog := by unfold OpenClaim.atReturn; rw [hlv]
  rw [hst', hs'] at hh
  rw [hst, hs]
  intro F
  show ReturnsInOpen _ _ _ _ _ _ _ _ _ (c.atReturn p.checked.prog) _
  rw [ea]
  exact open_leaving (hh F)
/-- A tied card of a call whose text holds a go statement. -/
theorem card_goes {p : Pinned} {s : OpenSpec} {c : OpenClaim} (kinds : List LaidKind) (tests : Bool) (har : Bool × String) (lk : Bool) (hc : c.holds p s) (hw : c.wfByText s = true) (htie : c.laidByTextAt .later p kinds tests)
    (hst : c.start = .entering) (hnb : c.noBlocks = false ∧ c.again = false) (hm : p.checked.prog.mainIs = some (har.1, har.2.toList)) (hn : (!har.1 && har.2.isEmpty && !lk) = false)
    (hl : ∀ f fn, p.checked.prog.funcNamed c.func = some f → p.checked.prog.funcs[f]? = some fn → lk = p.checked.prog.looks [] ∧ ∀ (j : Nat) t, fn.params[j]? = some t → p.checked.prog.wantsStandIn t = false)
    (hg : true = c.goesBy p.checked.prog) :
    Claim7.holds p (.plain s) { stood := { row := c, standIns := [], harness := har, looks := lk }, kinds := [], alts := [], goes := true, laidByText := true, laidKinds := kinds, laidTests := tests, laidLooks := .later } := by
  have h6 : ∀ r : OpenClaim, Claim7.isSixth { stood := { row := r, standIns := [], harness := har, looks := lk }, kinds := [] } = false := fun r => by simpa [Claim7.isSixth] using hn
  have h1 := Claim7.tied_new_at .later kinds tests (Claim7.new_of_sixth hc har lk hst hnb hm (h6 c) hl) hw
  exact ⟨h1, (fun D hD => by cases hD), htie, (fun h => by cases h), hg⟩
end Go.Proofs.YtlpmjpmefdpcmaaGreatDoor
