/- Every Clean is the document's: Cleans answers true for every policy and every string, of whatever lengths; what is handed in reads as it did; the tables of signs and of beginnings start as the program's text lays them. -/
import Derived.Test.YtlpmjpmefdpcmaaGreatDoorCards
import Derived.Test.YtlpmjpmefdpcmaaGreatDoorTie
import Derived.Test.YtlpmjpmefdpcmaaGreatDoorQSo2
import Derived.Test.YtlpmjpmefdpcmaaGreatDoorQTf
import Derived.WalkKit
import Derived.ProofKit
import Derived.OpenShut
import Derived.Deep.DeepHandedRow
import Derived.ChangeMaps5
namespace Go.Proofs.YtlpmjpmefdpcmaaGreatDoor.cleanss
open Go.ChangeShapes Go.WideShapes Go.RowKit Go.ChangeMaps
theorem own : ownKnob Tryz.prog.godebug = none := by kernel_rfl
set_option maxRecDepth 100000 in
theorem contract (H : Type) (enc : TypeId × Value → H) (W : World) (base : Nat) (args : Array Value) (ds gs : List (DataW H)) (before : List MemPlace)
    (hval : ∀ (j : Nat) t v, Tryz.f5.params[j]? = some t → args[j]? = some v → Value.okWide Tryz.prog W .any base t v)
    (hW : DataW.Whole enc Tryz.prog Tryz.f5.params.toList Rows.cleansSpec.vars false W args.toList ds gs before)
    (hwt : (DataW.weightsEach Tryz.prog (Tryz.f5.params.toList ++ (OpenSpec.ofChange Rows.cleansSpec).bare.plain.varTypes Tryz.prog) (ds ++ gs)).all (· ≤ reachBytes) = true) (hL : laidMetH Tryz.prog Rows.cleansRow.laid W) (hS : W.ShapedOpen Tryz.prog) :
    Calls Tryz.prog 5 args W fun e W' => ∃ v, e = .returned v ∧ Rows.cleansSpec.post enc Tryz.prog Tryz.f5 false true false false W args v W' := by
  have hW' := hW
  obtain ⟨p, q, hA0, hV, rfl, hfz, hnd⟩ := hW
  have hA : DataW.TrodAll enc Tryz.prog W 0 (fun _ => true) true Tryz.f5.params.toList args.toList ds p := hA0
  rw [Tryz.params5] at hA hval hwt
  obtain ⟨v0, vs0, d0, ds0, p0, q0, hargs, rfl, rfl, h0, r0⟩ := trodAll_cons hA
  obtain ⟨v1, vs1, d1, ds1, p1, q1, rfl, rfl, rfl, h1, r1⟩ := trodAll_cons r0
  obtain ⟨rfl, rfl, rfl⟩ := trodAll_nil r1
  obtain rfl : args = #[v0, v1] := by cases args; simp_all
  obtain ⟨rfl, rfl⟩ := trodVars_none hV
  obtain ⟨ev, av, pol, rfl, hpol, hp0, hw0⟩ := pol_open (hval 0 33 v0 rfl rfl) h0
  obtain ⟨he1, he2⟩ := hw0 (weights_at hwt (j := 0) rfl rfl)
  obtain ⟨s, rfl, rfl, rfl, hsz⟩ := open_string Tryz.underlying9 (hval 1 9 v1 rfl rfl) h1
  clear hA0
  simp only [List.append_nil] at hW'
  have hg := glob_of hL hS
  have hsl : s = ⟨s.data.toList.toArray⟩ := by
    apply ByteArray.ext
    simp
  have hcl := cleans_any ev av pol s.data.toList W hpol he1 he2 ⟨hg, globB_of hL⟩
  rw [← hsl] at hcl
  refine hcl.mono fun e W' ⟨he, hk⟩ => ?_
  subst he
  have b0 := Below.trod (by kernel_rfl) (by kernel_rfl) (of_decide_eq_true (by kernel_rfl)) h0 hk.toBelow hp0
  refine ⟨_, rfl, _, _, _, [], p0 ++ ([] ++ []), [], hW', ?_, ?_, rfl, (hk.toBelow).frame _, fun h => by cases h⟩
  · exact trodAll_cons_mk (shut_bool Tryz.underlying4 _) trodAll_mk0
  · exact trodAll_cons_mk b0 (trodAll_cons_mk (shut_string Tryz.underlying9 hsz) trodAll_mk0)
/-- A world for the witness: the settled one, the table holding what its initialiser lays. -/
def setSigns : Obj → Obj
  | .cells _ t frozen => .cells #[.string ⟨#[38, 97, 109, 112, 59]⟩, .int .u8 38, .string ⟨#[38, 108, 116, 59]⟩, .int .u8 60, .string ⟨#[38, 103, 116, 59]⟩, .int .u8 62, .string ⟨#[38, 113, 117, 111, 116, 59]⟩, .int .u8 34] t frozen
  | o => o
def setBegins : Obj → Obj
  | .cells _ t frozen => .cells #[.string ⟨#[104, 116, 116, 112, 58]⟩, .string ⟨#[104, 116, 116, 112, 115, 58]⟩, .string ⟨#[47]⟩, .string ⟨#[35]⟩] t frozen
  | o => o
def IsLaid (os : Os) (W : World) : Prop :=
  W = { World.holding Tryz.prog os ⟨#[], #[], []⟩ with heap := ((World.holding Tryz.prog os ⟨#[], #[], []⟩).heap.modify 0 setSigns).modify 2 setBegins }
theorem laid_met (os : Os) (W : World) (h : IsLaid os W) : laidMet Tryz.prog Rows.cleansRow.laid (W.forCall (fun _ _ => 0) ⟨#[], #[.agg #[.slice none 0 0, .slice none 0 0], .string ⟨#[]⟩], []⟩).memory := by
  unfold IsLaid at h
  subst h
  exact laidMet_of_run' 8 (by kernel_rfl) (by kernel_rfl)
theorem reads (os : Os) (W : World) (h : IsLaid os W) {H : Type} (enc : TypeId × Value → H) : ∃ places, DataW.whole enc Tryz.prog (W.forCall (fun _ _ => 0) ⟨#[], #[.agg #[.slice none 0 0, .slice none 0 0], .string ⟨#[]⟩], []⟩).memory Tryz.f5.params.toList Rows.cleansSpec.vars false #[Value.agg #[.slice none 0 0, .slice none 0 0], .string ⟨#[]⟩].toList 8 = some ([.agg [.nil, .nil], .lit (.string [])], [], places) := by
  unfold IsLaid at h
  subst h
  exact ⟨[], by kernel_rfl⟩
set_option maxRecDepth 100000 in
theorem lifted (os : Os) (started : os.Started) (H : Type) (enc : TypeId × Value → H) (F : Stop.Interp) :
    ReturnsInHanded {} Tryz.checked os 5 .any ((OpenSpec.ofChange Rows.cleansSpec).preRow enc Tryz.prog Tryz.f5 Rows.cleansRow.domain false Rows.cleansRow.laid) (((OpenSpec.ofChange Rows.cleansSpec).at F).post enc Tryz.prog Tryz.f5 false true false false) := by
  obtain ⟨W0, hW0⟩ : ∃ W, IsLaid os W := ⟨_, rfl⟩
  obtain ⟨places, hx⟩ := reads os W0 hW0 enc
  have hm := laid_met os W0 hW0
  unfold IsLaid at hW0
  subst hW0
  refine returnsInHanded_of_row (C := Tryz.checked) (s := OpenSpec.ofChange Rows.cleansSpec) own started (by kernel_rfl) Tryz.func5
    (witness_row_at (enc := enc) (C := Tryz.checked) false _ #[.agg #[.slice none 0 0, .slice none 0 0], .string ⟨#[]⟩] rfl (by kernel_rfl) (by kernel_rfl) (by kernel_rfl)
      (OpenSpec.preRow_of_cond 8 hx (by kernel_rfl) (fun k hk => by cases hk) (by kernel_rfl) hm)) ?_
  intro W base args ds gs before hval hW _ _ hwt hL hS _
  exact contract H enc W base args ds gs before hval hW hwt hL hS
theorem said : Rows.CleansSaid :=
  holds_leaving rfl (by kernel_rfl) rfl rfl (OpenClaim.holds_of_cond 5 Tryz.f5 rfl rfl rfl rfl rfl rfl rfl ⟨rfl, rfl, rfl, rfl, rfl⟩ rfl rfl rfl rfl rfl (by kernel_rfl) Tryz.func5 (by kernel_rfl)
    (of_decide_eq_true (by kernel_rfl)) (by unfold Func.isWrapper; first | (rw [if_pos (by decide +kernel)]; kernel_rfl) | (rw [if_neg (by decide +kernel)]; exact ⟨rfl, rfl⟩))
    (fun os started H enc _ F => by rw [OpenClaim.pre_eq_preRow]; exact lifted os started H enc F))
theorem plain (f : FuncId) (fn : Func) (hf : Tryz.pinned.checked.prog.funcNamed Rows.cleansRow.func = some f) (hfn : Tryz.pinned.checked.prog.funcs[f]? = some fn) :
    false = Tryz.pinned.checked.prog.looks [] ∧ ∀ (j : Nat) t, fn.params[j]? = some t → Tryz.pinned.checked.prog.wantsStandIn t = false := by
  obtain rfl : f = 5 := Option.some.inj ((show Tryz.prog.funcNamed Rows.cleansRow.func = some 5 by kernel_rfl).symm.trans hf) |>.symm
  obtain rfl : fn = Tryz.f5 := (Option.some.inj (Tryz.func5.symm.trans hfn)).symm
  refine ⟨by kernel_rfl, fun j t ht => ?_⟩
  rw [Tryz.params5] at ht
  have hm := Array.mem_of_getElem? ht
  simp only [List.mem_toArray, List.mem_cons, List.not_mem_nil, or_false] at hm
  rcases hm with rfl | rfl
  · exact (show Tryz.prog.wantsStandIn 33 = false by kernel_rfl)
  · exact (show Tryz.prog.wantsStandIn 9 = false by kernel_rfl)
end Go.Proofs.YtlpmjpmefdpcmaaGreatDoor.cleanss
namespace Go.Proofs.YtlpmjpmefdpcmaaGreatDoor
theorem cleans_holds : Rows.CleansCardSaid :=
  card_goes _ _ _ _ cleanss.said (by kernel_rfl) cleans_row_tie rfl ⟨rfl, rfl⟩ (by kernel_rfl) rfl cleanss.plain (by kernel_rfl)
end Go.Proofs.YtlpmjpmefdpcmaaGreatDoor
