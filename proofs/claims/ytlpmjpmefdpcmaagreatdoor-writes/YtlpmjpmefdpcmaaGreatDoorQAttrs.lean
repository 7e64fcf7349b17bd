import Derived.Test.YtlpmjpmefdpcmaaGreatDoorQTok5
import Derived.Test.YtlpmjpmefdpcmaaGreatDoorQPure5
namespace Go.Proofs.YtlpmjpmefdpcmaaGreatDoor
open Go.RowKit Scrub Go.Shelf
theorem infoAttr : (Tryz.prog.info? 63).map (fun i => (i.zero, i.size, i.bytes)) = some (some (.agg #[.string ⟨#[]⟩, .string ⟨#[]⟩]), 2, 32) := by kernel_rfl
/-- Attributes that a call owns. -/
def AOwn (w : World) (v : Value) (al : List (List UInt8 × List UInt8)) : Prop := w.ownsRow 0 63 2 v al.length (attrCells al)
set_option maxHeartbeats 1000000 in
theorem withAttr_any (v : Value) (al : List (List UInt8 × List UInt8)) (n x : List UInt8) (w : World) (h : AOwn w v al) (hl : al.length ≤ 1099511627776) :
    Calls Tryz.prog 185 #[v, .agg #[.string ⟨n.toArray⟩, .string ⟨x.toArray⟩]] w
      fun e w' => ∃ v', e = .returned v' ∧ AOwn w' v' (withP al (n, x)) ∧ Moved w v v' ∧ Kept v.ownBlock.toList w w' := by
  obtain ⟨i0, hi, hz0, hz1, hz2⟩ := info_parts infoAttr
  rcases h.2 with ⟨rfl, hn0⟩ | ⟨g, cap, cur, rfl, _, hgg, hnc, hcm, hcs, htk⟩
  · have : al = [] := List.eq_nil_of_length_eq_zero hn0
    subst this
    have hno : NoName [] n 0 := fun j hj => by simp at hj
    go_enter Tryz.func185, Tryz.ntmps185
    go_wp2_with fail
    go_loopg [9] 0 (fun _ k wr => k = .int .i64 0 ∧ Kept [] w wr ∧ wr.heap[w.heap.size]? = some (.cells #[.string ⟨n.toArray⟩, .string ⟨x.toArray⟩] 63 (0, 0)))
    case atStart => exact ⟨rfl, (Kept.refl _ _).alloc _, heap_alloc_new w _⟩
    case round =>
      obtain ⟨rfl, hkept, hbx⟩ := hrel
      have q0 : wr.cell? ⟨w.heap.size, 0, none⟩ = some (.string ⟨n.toArray⟩) := by simp [World.cell?, hbx]
      have q1 : wr.cell? ⟨w.heap.size, 1, none⟩ = some (.string ⟨x.toArray⟩) := by simp [World.cell?, hbx]
      clear hbx
      go_wp2_with (at_builtin; refine wpList_append_fp _ rfl _ _ 40 rfl 0 63 i0 _ 2 32 Tryz.underlying40 hi hz0 hz1 hz2 rfl (by decide) _ 0 [] rfl ?own _ 1 1 [.string ⟨n.toArray⟩, .string ⟨x.toArray⟩] rfl rfl ?news ?one ?len ?bytes (Nat.zero_le _) ?_)
      case own => exact ownsRow_kept h (hkept.alloc _) (by simp)
      case news => exact new_cells wr [.string ⟨n.toArray⟩, .string ⟨x.toArray⟩] 63
      case one => intro u hu; simp at hu; rcases hu with rfl | rfl <;> rfl
      case len => unfold maxLen; omega
      case bytes => omega
      intro v' w' hown hgr hmv
      go_wp2_with fail
      go_ret
      refine ⟨v', rfl, ?_, ?_, ?_⟩
      · rw [withP_new _ (n, x) hno]
        have e : ([] ++ [(n, x)]).length = 0 + 1 := by simp
        show w'.ownsRow _ _ _ _ ([] ++ [(n, x)]).length _
        rw [e, ← attrCells_snoc]
        exact hown
      · exact hmv.kept (hkept.alloc _).size
      · exact (((hkept.alloc _).mono (by simp))).trans (Kept.own hgr)
  · have hgs : g < w.heap.size := (Array.getElem?_eq_some_iff.1 hgg).1
    go_enter Tryz.func185, Tryz.ntmps185
    go_wp2_with fail
    go_loopg [9] al.length (fun gg i wr => ∃ k : Nat, k ≤ al.length ∧ gg = al.length - k ∧ i = .int .i64 (k : Int) ∧ Kept [] w wr ∧ wr.heap[w.heap.size]? = some (.cells #[.string ⟨n.toArray⟩, .string ⟨x.toArray⟩] 63 (0, 0)) ∧ NoName al n k)
    case atStart => exact ⟨0, by omega, rfl, rfl, (Kept.refl _ _).alloc _, heap_alloc_new w _, fun j hj => by omega⟩
    case round =>
      obtain ⟨k, hk, hgk, rfl, hkept, hbx, hno⟩ := hrel
      have HG : Hid (gk = al.length - k) := hgk
      have HB : Hid _ := hbx
      have q0 : wr.cell? ⟨w.heap.size, 0, none⟩ = some (.string ⟨n.toArray⟩) := by simp [World.cell?, hbx]
      have q1 : wr.cell? ⟨w.heap.size, 1, none⟩ = some (.string ⟨x.toArray⟩) := by simp [World.cell?, hbx]
      have hlt0 : w.heap.size < wr.heap.size := (Array.getElem?_eq_some_iff.1 hbx).1
      clear hgk hbx
      by_cases hlt : k < al.length
      · have hown : wr.ownsRow 0 63 2 (.slice (some ⟨g, 0, none⟩) al.length cap) al.length (attrCells al) := ownsRow_kept h hkept (by simp)
        have r0 := row_cell hown (attrCells_get al k hlt).1
        have r1 := row_cell hown (attrCells_get al k hlt).2
        clear hown
        cases hq : (al[k].1 == n) with
        | true =>
          set_option maxRecDepth 100000 in
          go_wp2_with fail
          go_ret
          refine ⟨_, rfl, ?_, .inl rfl, ((hkept.alloc _).mono (by simp))⟩
          rw [withP_old al (n, x) k hlt (by simpa using hq)]
          exact ownsRow_kept h (hkept.alloc _) (by simp)
        | false =>
          clear h hgg htk
          set_option maxRecDepth 100000 in
          go_wp2_with fail
          go_roundg (al.length - (k + 1))
          case measure => rw [HG.out]; omega
          case rel =>
            refine ⟨k + 1, by omega, rfl, by go_num, hkept.alloc _, by rw [Below.heap_alloc _ _ _ hlt0]; exact HB.out, fun j hj hjk => ?_⟩
            by_cases e : j = k
            · subst e; simpa using hq
            · exact hno j hj (by omega)
      · have hkl : k = al.length := by omega
        subst hkl
        clear hlt HB hgg htk
        go_wp2_with (at_builtin; refine wpList_append_fp _ rfl _ _ 40 rfl 0 63 i0 _ 2 32 Tryz.underlying40 hi hz0 hz1 hz2 rfl (by decide) _ al.length (attrCells al) rfl ?own _ 1 1 [.string ⟨n.toArray⟩, .string ⟨x.toArray⟩] rfl rfl ?news ?one ?len ?bytes (Nat.zero_le _) ?_)
        case own => exact ownsRow_kept h (hkept.alloc _) (by simp)
        case news => exact new_cells wr [.string ⟨n.toArray⟩, .string ⟨x.toArray⟩] 63
        case one => intro u hu; simp at hu; rcases hu with rfl | rfl <;> rfl
        case len => unfold maxLen; omega
        case bytes => omega
        intro v' w' hown hgr hmv
        go_wp2_with fail
        go_ret
        refine ⟨v', rfl, ?_, ?_, ?_⟩
        · rw [withP_new _ (n, x) hno]
          have e : (al ++ [(n, x)]).length = al.length + 1 := by simp
          show w'.ownsRow _ _ _ _ (al ++ [(n, x)]).length _
          rw [e, ← attrCells_snoc]
          exact hown
        · exact hmv.kept (hkept.alloc _).size
        · exact (((hkept.alloc _).mono (by simp))).trans (Kept.own hgr)
end Go.Proofs.YtlpmjpmefdpcmaaGreatDoor
