import Derived.Test.YtlpmjpmefdpcmaaDoorRows
import Derived.Test.YtlpmjpmefdpcmaaDoorQSigns
import Derived.LaidLaws
import Derived.ChangeSame
import Derived.Lib.LaidTab
namespace Go.Proofs.YtlpmjpmefdpcmaaDoor
open Go.ChangeShapes Go.WideShapes Go.RowKit
/-- The table's name, as the row has it. -/
def signsName : String := (Rows.againRow.laid.map (·.1)).headD default
theorem gSigns : Tryd.prog.globalNamed signsName = some 0 := by kernel_rfl
theorem gSignsType : (Tryd.prog.globals[0]?).map (·.type) = some 108 := by kernel_rfl
theorem cellsSign : Tryd.prog.cellsOf 107 = 2 := by kernel_rfl
theorem cellsSigns : Tryd.prog.cellsOf 108 = 8 := by kernel_rfl
theorem cellsStr : Tryd.prog.cellsOf 9 = 1 := by kernel_rfl
theorem cellsU8 : Tryd.prog.cellsOf 5 = 1 := by kernel_rfl
theorem ba_of {s : ByteArray} {l : List UInt8} (h : s.data.toList = l) : s = ⟨l.toArray⟩ := by
  apply ByteArray.ext
  rw [← h]
/-- One sign of the table. -/
theorem sign_cells {w : World} {base : Nat} {sp : Nat → Bool} {held : Bool} {fuel : Nat} {cs : List Value} {p : List MemPlace} {wr : List UInt8} {rd : Int} (i : Nat)
    (h : DataW.trod (fun _ => ()) Tryd.prog w base sp held fuel 107 ((cs.drop (i * 2)).take 2) = some (.agg [.lit (.string wr), .lit (.int .u8 rd)], p)) :
    cs[i * 2]? = some (.string ⟨wr.toArray⟩) ∧ cs[i * 2 + 1]? = some (.int .u8 rd) := by
  obtain ⟨y0, y1, n, hx, hl, h0, h1⟩ := trod_struct2 Tryd.underlying107 h
  obtain ⟨s, hc0, hy0, _⟩ := DataW.trod_string Tryd.underlying9 h0
  obtain ⟨z, hc1, hy1, _⟩ := DataW.trod_int Tryd.underlying5 h1
  subst hy0 hy1
  have e1 := congrArg Prod.fst hx
  simp only [DataW.agg.injEq, List.cons.injEq, DataW.lit.injEq, Lit.string.injEq, Lit.int.injEq, and_true, true_and] at e1
  obtain ⟨e1, e2⟩ := e1
  have hs := ba_of e1.symm
  subst hs e2
  rw [cellsStr] at hc0
  rw [cellsU8] at hc1
  have g0 := congrArg (·[0]?) hc0
  have g1 := congrArg (·[0]?) hc1
  simp [List.getElem?_drop] at g0 g1
  exact ⟨g0, g1⟩
/-- WHAT THE ROW's LIST, AND THE VARIABLES' SHAPES, GIVE. -/
theorem glob_of {W : World} (h : laidMetH Tryd.prog Rows.againRow.laid W) (hS : W.ShapedOpen Tryd.prog) : Glob W := by
  have h' : laidMet Tryd.prog [(signsName, Rows.laid_scrub_token_signs)] W := h
  obtain ⟨ps, ⟨g', t', cs, fuel, p, q, hg', ht', hvar, hd, _, _⟩, _⟩ := h'
  obtain rfl := Option.some.inj (gSigns.symm.trans hg')
  obtain rfl := Option.some.inj (gSignsType.symm.trans ht')
  refine ⟨Tryd.laysM219.s1_3 W hS, ?_⟩
  have hcell : ∀ i : Nat, W.cell? ⟨0, i, none⟩ = cs[i]? := by
    intro i
    have := World.var?_cell gSigns hvar i
    simpa using this
  have hu : Tryd.prog.underlying 108 = some (.array 4 107) := Tryd.underlying108
  cases fuel with
  | zero => simp [DataW.trod] at hd
  | succ fuel =>
    simp only [DataW.trod, hu, cellsSign, cellsSigns] at hd
    split at hd
    · obtain ⟨xs, hm, hx⟩ := Option.map_eq_some_iff.1 hd
      have hxs := congrArg Prod.fst hx
      simp only [Rows.laid_scrub_token_signs, DataW.agg.injEq] at hxs
      have key : ∀ (i : Nat) (wr : List UInt8) (rd : Int), i < 4 → (xs.map (·.1))[i]? = some (.agg [.lit (.string wr), .lit (.int .u8 rd)]) → cs[i * 2]? = some (.string ⟨wr.toArray⟩) ∧ cs[i * 2 + 1]? = some (.int .u8 rd) := by
        intro i wr rd hi hxi
        obtain ⟨b, hb, hf⟩ := Lib.mapM_at hm i i (by simp [hi])
        rw [List.getElem?_map, hb] at hxi
        have hb1 : b.1 = .agg [.lit (.string wr), .lit (.int .u8 rd)] := by simpa using hxi
        obtain ⟨b1, b2⟩ := b
        simp only at hb1
        subst hb1
        have := sign_cells i hf
        simpa using this
      rw [hxs] at key
      obtain ⟨a0, a1⟩ := key 0 _ _ (by omega) rfl
      obtain ⟨a2, a3⟩ := key 1 _ _ (by omega) rfl
      obtain ⟨a4, a5⟩ := key 2 _ _ (by omega) rfl
      obtain ⟨a6, a7⟩ := key 3 _ _ (by omega) rfl
      simp only [hcell]
      exact ⟨a0, a1, a2, a3, a4, a5, a6, a7⟩
    · cases hd
end Go.Proofs.YtlpmjpmefdpcmaaDoor
