import Derived.Test.YtlpmjpmefdpcmaaGreatDoorRows
import Derived.Test.YtlpmjpmefdpcmaaGreatDoorQCl3
import Derived.SliceStrings
import Derived.SizedLaws
import Derived.Carry
import Derived.ProofKit
/- A list of strings among the arguments. No function of the program in it. -/
namespace Go.Proofs.YtlpmjpmefdpcmaaGreatDoor
open Go.ChangeShapes Go.WideShapes Go.RowKit
theorem soStr : Tryz.prog.cellsOf 9 = 1 := by kernel_rfl
theorem soBytes : Tryz.prog.bytesOf 9 = 16 := by kernel_rfl
theorem strs_weight {H : Type} {l : List ByteArray} {s : ByteArray} (h : s ∈ l) : s.data.toList.length ∈ DataW.weightsAll Tryz.prog 9 (strs l : List (DataW H)) := by
  induction l with
  | nil => cases h
  | cons a t ih =>
    show _ ∈ [a.data.toList.length] ++ DataW.weightsAll Tryz.prog 9 (strs t)
    rcases List.mem_cons.1 h with rfl | h
    · simp
    · exact List.mem_append_right _ (ih h)
set_option maxRecDepth 100000 in
theorem strs_open {H : Type} {enc : TypeId × Value → H} {W : World} {base : Nat} {v : Value} {d : DataW H} {p : List MemPlace} (hval : Value.okWide Tryz.prog W .any base 22 v) (h : DataW.Trod enc Tryz.prog W 0 (fun _ => true) true 22 v d p) :
    ∃ es : List (List UInt8), StrsAt W v es ∧ (∀ x ∈ p, x.block < W.heap.size) ∧ ((∀ n ∈ d.weights Tryz.prog 22, n ≤ reachBytes) → es.length ≤ 140737488355328 ∧ ∀ e ∈ es, e.length ≤ 140737488355328) := by
  obtain ⟨a0, len0, cap0, rfl⟩ := okWide_slice Tryz.underlying22 hval
  obtain ⟨fuel, hf⟩ := h
  rcases open_strings Tryz.underlying22 Tryz.underlying9 soStr hf with ⟨hcs, hx⟩ | ⟨a, len, cap, ss, hcs, _, hl, hm, hz, hx, hcell, hsz⟩
  · have e1 : Value.slice a0 len0 cap0 = .slice none 0 0 := by simpa [Value.cells] using hcs
    injection e1 with e1 e2 e3
    subst e1 e2 e3
    injection hx with hx1 hx2
    subst hx1 hx2
    exact ⟨[], ⟨none, 0, rfl, fun i hi => absurd hi (by simp)⟩, by simp, fun _ => ⟨by simp, by simp⟩⟩
  · have e1 : Value.slice a0 len0 cap0 = .slice (some a) len cap := by simpa [Value.cells] using hcs
    injection e1 with e1 e2 e3
    subst e1 e2 e3
    injection hx with hx1 hx2
    subst hx1 hx2
    have hss : ss.length = cap0 := by simpa using hz
    have hlen : ((ss.take len0).map (fun s => s.data.toList)).length = len0 := by simp; omega
    refine ⟨(ss.take len0).map (fun s => s.data.toList), ⟨some a, cap0, by rw [hlen], fun i hi => ?_⟩, ?_, ?_⟩
    · have hi' : i < len0 := by omega
      have c0 := hcell 0 (by omega)
      have hsp : a.spot = none := by simpa [Addr.add] using World.cell?_spot c0
      have ha : a = ⟨a.block, a.off, none⟩ := by cases a; simp_all
      refine ⟨a.block, a.off, by rw [← ha], ?_⟩
      have ci := hcell i (by omega)
      have hadd : a.add i = ⟨a.block, a.off + i, none⟩ := by
        unfold Addr.add
        split
        · rename_i h0
          subst h0
          simpa using ha
        · rfl
      rw [hadd] at ci
      rw [ci]
      congr 2
      have hg : ss.getD i ByteArray.empty = ss[i]'(by omega) := by simp [List.getD, List.getElem?_eq_getElem (show i < ss.length by omega)]
      rw [hg]
      apply ByteArray.ext
      simp
    · intro x hxm
      by_cases h0 : ss.length = 0
      · rw [h0] at hxm
        simp [MemPlace.row] at hxm
      · have c0 := cell_lt (hcell 0 (by omega))
        have hb0 : (a.add 0).block = a.block := rfl
        rw [hb0] at c0
        obtain ⟨j, _, rfl⟩ := List.mem_map.1 hxm
        exact c0
    · intro hw
      have hw' : ∀ n ∈ ((strs (ss.take len0) : List (DataW H)).length + (strs (ss.drop len0) : List (DataW H)).length) * Tryz.prog.bytesOf 9 :: (DataW.weightsAll Tryz.prog 9 (strs (ss.take len0) : List (DataW H)) ++ DataW.weightsAll Tryz.prog 9 (strs (ss.drop len0) : List (DataW H))), n ≤ reachBytes := by
        intro n hn
        apply hw n
        rw [DataW.weights, Tryz.underlying22]
        exact hn
      have hrb : reachBytes ≤ 140737488355328 := by decide
      refine ⟨?_, ?_⟩
      · have h1 := hw' _ List.mem_cons_self
        rw [soBytes] at h1
        have e1 : (strs (ss.take len0) : List (DataW H)).length + (strs (ss.drop len0) : List (DataW H)).length = ss.length := by simp [strs]; omega
        rw [e1] at h1
        rw [hlen]
        omega
      · intro e he
        obtain ⟨s, hs, rfl⟩ := List.mem_map.1 he
        have := hw' _ (List.mem_cons_of_mem _ (List.mem_append_left _ (strs_weight hs)))
        omega
theorem weights_at {H : Type} {ts : List TypeId} {ds : List (DataW H)} (h : (DataW.weightsEach Tryz.prog ts ds).all (· ≤ reachBytes) = true) {j : Nat} {t : TypeId} {d : DataW H} (ht : ts[j]? = some t) (hd : ds[j]? = some d) : ∀ n ∈ d.weights Tryz.prog t, n ≤ reachBytes := by
  intro n hn
  have := List.all_eq_true.1 h n (DataW.weights_mem_each ht hd n hn)
  simpa using this
end Go.Proofs.YtlpmjpmefdpcmaaGreatDoor
