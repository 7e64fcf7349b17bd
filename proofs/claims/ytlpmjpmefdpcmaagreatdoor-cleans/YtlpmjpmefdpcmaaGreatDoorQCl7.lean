import Derived.Test.YtlpmjpmefdpcmaaGreatDoorQCl3
import Derived.Test.YtlpmjpmefdpcmaaGreatDoorQBld4
import Derived.Test.YtlpmjpmefdpcmaaGreatDoorQTree1
import Derived.Test.YtlpmjpmefdpcmaaGreatDoorQBld2
import Derived.Deep.RegionHeld3
import Derived.Test.YtlpmjpmefdpcmaaGreatDoorQLiesH
import Derived.Deep.LoopGhost
namespace Go.Proofs.YtlpmjpmefdpcmaaGreatDoor
open Go.RowKit Scrub Go.Shelf
/-- A node is put behind, nothing is joined. -/
def Puts (v : Value) (ns : List NodeR) (x : NodeR) (w : World) : Prop :=
  Calls Tryz.prog 107 #[v, .agg #[.string ⟨x.name.toArray⟩, x.av, x.kv, .string ⟨x.text.toArray⟩]] w
    fun e w' => ∃ v', e = .returned v' ∧ w'.ownsRow 0 42 4 v' (joinR ns x).length (cellsOf (joinR ns x)) ∧ Moved w v v' ∧ Kept v.ownBlock.toList w w'
set_option maxRecDepth 100000 in
set_option maxHeartbeats 2000000 in
theorem with_elem (v : Value) (ns : List NodeR) (x : NodeR) (w : World) (hr : w.ownsRow 0 42 4 v ns.length (cellsOf ns)) (ha : ∃ a n c, x.av = .slice a n c) (hk : ∃ a n c, x.kv = .slice a n c) (hl : ns.length < 1099511627776)
    (hx : x.name ≠ []) : Puts v ns x w := by
  unfold Puts
  obtain ⟨i0, hi, hz0, hz1, hz2⟩ := info_parts infoNode
  have ej : joinR ns x = ns ++ [x] := joinR_name ns x hx
  rw [ej]
  have ec : cellsOf (ns ++ [x]) = cellsOf ns ++ [.string ⟨x.name.toArray⟩, x.av, x.kv, .string ⟨x.text.toArray⟩] := by rw [cellsOf_append]; simp [cellsOf, NodeR.cells]
  have el : (ns ++ [x]).length = ns.length + 1 := by simp
  rw [ec, el]
  clear ec el ej
  obtain ⟨a1, n1, c1, e1⟩ := ha
  obtain ⟨a2, n2, c2, e2⟩ := hk
  rw [e1, e2]
  generalize x.text = tx at *
  have HR : Hid _ := hr
  obtain ⟨va, vc, hv⟩ := ownsRow_form hr
  clear hr
  subst hv
  generalize cellsOf ns = cs at *
  generalize x.name = nm at *
  generalize ns.length = n at *
  go_enter Tryz.func107, Tryz.ntmps107
  go_wp2_with (at_builtin; refine wpList_append_fp _ rfl _ _ 31 rfl 0 42 i0 _ 4 80 Tryz.underlying31 hi hz0 hz1 hz2 rfl (by decide) _ n cs rfl ?own _ 1 1 [.string ⟨nm.toArray⟩, .slice a1 n1 c1, .slice a2 n2 c2, .string ⟨tx.toArray⟩] rfl rfl ?news ?one ?len ?bytes (Nat.zero_le _) ?_)
  case own => exact ownsRow_kept HR.out (((Kept.refl [] w).alloc _).alloc _) (by simp)
  case news =>
    have hsz : (w.alloc (.cells #[.string ⟨nm.toArray⟩, .slice a1 n1 c1, .slice a2 n2 c2, .string ⟨tx.toArray⟩] 42)).heap.size = w.heap.size + 1 := by simp
    rw [← hsz]
    exact new_cells _ [.string ⟨nm.toArray⟩, .slice a1 n1 c1, .slice a2 n2 c2, .string ⟨tx.toArray⟩] 42
  case one => intro u hu; simp at hu; rcases hu with rfl | rfl | rfl | rfl <;> rfl
  case len => unfold maxLen; omega
  case bytes => omega
  intro v' w' hown3 hgr hmv
  have HO3 : Hid _ := hown3
  have hm : Moved w (.slice va n vc) v' := hmv.kept (((Kept.refl [] w).alloc _).alloc _).size
  have hk3 : Kept (Value.slice va n vc).ownBlock.toList w w' := ((((Kept.refl [] w).alloc _).alloc _).mono (by simp)).trans (Kept.own hgr)
  have HM : Hid _ := hm
  have HK : Hid _ := hk3
  clear hgr hmv hm hk3
  go_wp2_with fail
  go_ret
  exact ⟨v', rfl, HO3.out, HM.out, HK.out⟩
set_option maxRecDepth 100000 in
set_option maxHeartbeats 2000000 in
theorem with_none (v : Value) (ns : List NodeR) (x : NodeR) (w : World) (hr : w.ownsRow 0 42 4 v ns.length (cellsOf ns)) (ha : ∃ a n c, x.av = .slice a n c) (hk : ∃ a n c, x.kv = .slice a n c) (hl : ns.length < 1099511627776)
    (hx : x.name = []) (hns : ns = []) : Puts v ns x w := by
  unfold Puts
  obtain ⟨i0, hi, hz0, hz1, hz2⟩ := info_parts infoNode
  have ej : joinR ns x = ns ++ [x] := by rw [hns, joinR_nil]; rfl
  rw [ej]
  have ec : cellsOf (ns ++ [x]) = cellsOf ns ++ [.string ⟨x.name.toArray⟩, x.av, x.kv, .string ⟨x.text.toArray⟩] := by rw [cellsOf_append]; simp [cellsOf, NodeR.cells]
  have el : (ns ++ [x]).length = ns.length + 1 := by simp
  rw [ec, el]
  clear ec el ej
  obtain ⟨a1, n1, c1, e1⟩ := ha
  obtain ⟨a2, n2, c2, e2⟩ := hk
  rw [e1, e2]
  generalize x.text = tx at *
  rw [hx]
  subst hns
  have hr' : w.ownsRow 0 42 4 v 0 [] := hr
  clear hr
  have HR : Hid _ := hr'
  obtain ⟨va, vc, hv⟩ := ownsRow_form hr'
  clear hr'
  subst hv
  show Calls _ _ #[.slice va 0 vc, .agg #[.string ⟨#[]⟩, .slice a1 n1 c1, .slice a2 n2 c2, .string ⟨tx.toArray⟩]] w fun e w' => ∃ v', e = .returned v' ∧ w'.ownsRow 0 42 4 v' (0 + 1) ([] ++ [.string ⟨#[]⟩, .slice a1 n1 c1, .slice a2 n2 c2, .string ⟨tx.toArray⟩]) ∧ Moved w (.slice va 0 vc) v' ∧ Kept (Value.slice va 0 vc).ownBlock.toList w w'
  go_enter Tryz.func107, Tryz.ntmps107
  go_wp2_with (at_builtin; refine wpList_append_fp _ rfl _ _ 31 rfl 0 42 i0 _ 4 80 Tryz.underlying31 hi hz0 hz1 hz2 rfl (by decide) _ 0 [] rfl ?own _ 1 1 [.string ⟨#[]⟩, .slice a1 n1 c1, .slice a2 n2 c2, .string ⟨tx.toArray⟩] rfl rfl ?news ?one ?len ?bytes (Nat.zero_le _) ?_)
  case own =>
    have h0 : w.ownsRow 0 42 4 (.slice va 0 vc) 0 [] := by simpa [World.ownsRow] using HR.out
    exact ownsRow_kept h0 (((Kept.refl [] w).alloc _).alloc _) (by simp)
  case one => exact ⟨rfl, rfl, rfl, rfl⟩
  case len => unfold maxLen; omega
  intro v' w' hown3 hgr hmv
  have HO3 : Hid _ := hown3
  have hm : Moved w (.slice va 0 vc) v' := hmv.kept (((Kept.refl [] w).alloc _).alloc _).size
  have hk3 : Kept (Value.slice va 0 vc).ownBlock.toList w w' := ((((Kept.refl [] w).alloc _).alloc _).mono (by simp)).trans (Kept.own hgr)
  have HM : Hid _ := hm
  have HK : Hid _ := hk3
  clear hgr hmv hm hk3
  go_wp2_with fail
  go_ret
  exact ⟨v', rfl, HO3.out, HM.out, HK.out⟩
set_option maxRecDepth 100000 in
set_option maxHeartbeats 2000000 in
theorem with_text (v : Value) (ns : List NodeR) (x : NodeR) (w : World) (hr : w.ownsRow 0 42 4 v ns.length (cellsOf ns)) (ha : ∃ a n c, x.av = .slice a n c) (hk : ∃ a n c, x.kv = .slice a n c) (hl : ns.length < 1099511627776)
    (hx : x.name = []) (l : List NodeR) (z : NodeR) (hns : ns = l ++ [z]) (hz : z.name ≠ []) : Puts v ns x w := by
  unfold Puts
  obtain ⟨i0, hi, hz0, hz1, hz2⟩ := info_parts infoNode
  have ej : joinR ns x = ns ++ [x] := by rw [hns, joinR_elem l z x hz]
  rw [ej]
  have ec : cellsOf (ns ++ [x]) = cellsOf ns ++ [.string ⟨x.name.toArray⟩, x.av, x.kv, .string ⟨x.text.toArray⟩] := by rw [cellsOf_append]; simp [cellsOf, NodeR.cells]
  have el : (ns ++ [x]).length = ns.length + 1 := by simp
  rw [ec, el]
  clear ec el ej
  obtain ⟨a1, n1, c1, e1⟩ := ha
  obtain ⟨a2, n2, c2, e2⟩ := hk
  rw [e1, e2]
  generalize x.text = tx at *
  rw [hx]
  have hll : ns.length = l.length + 1 := by rw [hns]; simp
  rw [hll] at hr hl ⊢
  have HR : Hid _ := hr
  obtain ⟨g, vc, hv⟩ := form_pos hr
  subst hv
  have c0 := row_cell hr (by
    have := (cellsOf_get ns l.length (by omega)).1
    have e : ns[l.length]'(by omega) = z := by subst hns; simp
    rw [e] at this
    exact this)
  clear hr
  have hlt : g < w.heap.size := cell_lt c0
  generalize cellsOf ns = cs at *
  have hz' : z.name.isEmpty = false := by
    cases hzn : z.name with
    | nil => exact absurd hzn hz
    | cons _ _ => rfl
  generalize z.name = zn at *
  generalize l.length = k at *
  show Calls _ _ #[.slice (some ⟨g, 0, none⟩) (k + 1) vc, .agg #[.string ⟨#[]⟩, .slice a1 n1 c1, .slice a2 n2 c2, .string ⟨tx.toArray⟩]] w fun e w' => ∃ v', e = .returned v' ∧ w'.ownsRow 0 42 4 v' (k + 1 + 1) (cs ++ [.string ⟨#[]⟩, .slice a1 n1 c1, .slice a2 n2 c2, .string ⟨tx.toArray⟩]) ∧ Moved w (.slice (some ⟨g, 0, none⟩) (k + 1) vc) v' ∧ Kept (Value.slice (some ⟨g, 0, none⟩) (k + 1) vc).ownBlock.toList w w'
  go_enter Tryz.func107, Tryz.ntmps107
  go_wp2_with (at_builtin; refine wpList_append_fp _ rfl _ _ 31 rfl 0 42 i0 _ 4 80 Tryz.underlying31 hi hz0 hz1 hz2 rfl (by decide) _ (k + 1) cs rfl ?own _ 1 1 [.string ⟨#[]⟩, .slice a1 n1 c1, .slice a2 n2 c2, .string ⟨tx.toArray⟩] rfl rfl ?news ?one ?len ?bytes (Nat.zero_le _) ?_)
  case own => exact ownsRow_kept HR.out (((Kept.refl [] w).alloc _).alloc _) (by simp)
  case news =>
    have hsz : (w.alloc (.cells #[.string ⟨#[]⟩, .slice a1 n1 c1, .slice a2 n2 c2, .string ⟨tx.toArray⟩] 42)).heap.size = w.heap.size + 1 := by simp
    rw [← hsz]
    exact new_cells _ [.string ⟨#[]⟩, .slice a1 n1 c1, .slice a2 n2 c2, .string ⟨tx.toArray⟩] 42
  case one => intro u hu; simp at hu; rcases hu with rfl | rfl | rfl | rfl <;> rfl
  case len => unfold maxLen; omega
  case bytes => omega
  intro v' w' hown3 hgr hmv
  have HO3 : Hid _ := hown3
  have hm : Moved w (.slice (some ⟨g, 0, none⟩) (k + 1) vc) v' := hmv.kept (((Kept.refl [] w).alloc _).alloc _).size
  have hk3 : Kept (Value.slice (some ⟨g, 0, none⟩) (k + 1) vc).ownBlock.toList w w' := ((((Kept.refl [] w).alloc _).alloc _).mono (by simp)).trans (Kept.own hgr)
  have HM : Hid _ := hm
  have HK : Hid _ := hk3
  clear hgr hmv hm hk3
  go_wp2_with fail
  go_ret
  exact ⟨v', rfl, HO3.out, HM.out, HK.out⟩
theorem ba_app (a b : List UInt8) : (⟨a.toArray⟩ ++ ⟨b.toArray⟩ : ByteArray) = ⟨(a ++ b).toArray⟩ := by
  apply ByteArray.ext
  simp
set_option maxRecDepth 100000 in
set_option maxHeartbeats 2000000 in
theorem with_join (v : Value) (ns : List NodeR) (x : NodeR) (w : World) (hr : w.ownsRow 0 42 4 v ns.length (cellsOf ns)) (ha : ∃ a n c, x.av = .slice a n c) (hk : ∃ a n c, x.kv = .slice a n c) (hl : ns.length < 1099511627776)
    (hx : x.name = []) (l : List NodeR) (z : NodeR) (hns : ns = l ++ [z]) (hz : z.name = []) (ht : z.text.length ≤ 1099511627776) (hxt : x.text.length ≤ 1099511627776) : Puts v ns x w := by
  unfold Puts
  have ej : joinR ns x = l ++ [z.withText x.text] := by rw [hns, joinR_text l z x hx hz]
  rw [ej]
  have ec := cellsOf_setText l z x.text
  rw [← ec]
  have el : (l ++ [z.withText x.text]).length = l.length + 1 := by simp
  rw [el]
  clear ec el ej
  obtain ⟨a1, n1, c1, e1⟩ := ha
  obtain ⟨a2, n2, c2, e2⟩ := hk
  rw [e1, e2]
  rw [hx]
  have hll : ns.length = l.length + 1 := by rw [hns]; simp
  rw [hll] at hr hl
  have ez : ns[l.length]'(by omega) = z := by subst hns; simp
  obtain ⟨g, vc, hv⟩ := form_pos hr
  subst hv
  have c0 := row_cell hr (by
    have := (cellsOf_get ns l.length (by omega)).1
    rw [ez] at this
    exact this)
  have c3 := row_cell hr (by
    have := (cellsOf_get ns l.length (by omega)).2.2.2
    rw [ez] at this
    exact this)
  have cf := row_free hr (l.length * 4 + 3)
  rw [hns] at hr
  have hset : ∀ w', Kept [] w w' → (w'.setCell ⟨g, l.length * 4 + 3, none⟩ (.string ⟨(z.text ++ x.text).toArray⟩)).ownsRow 0 42 4 (.slice (some ⟨g, 0, none⟩) (l.length + 1) vc) (l.length + 1) ((cellsOf (l ++ [z])).set (l.length * 4 + 3) (.string ⟨(z.text ++ x.text).toArray⟩)) :=
    fun w' hk => own_setCell (ownsRow_kept hr hk (by simp)) _ (by rw [cellsOf_length]; simp; omega) _
  have HS : Hid _ := hset
  clear hset hr
  have hlt : g < w.heap.size := cell_lt c0
  rw [hz] at c0
  generalize z.text = zt at *
  generalize x.text = tx at *
  generalize (cellsOf (l ++ [z])).set (l.length * 4 + 3) (.string ⟨(zt ++ tx).toArray⟩) = cs at *
  clear hll ez
  generalize l.length = k at *
  show Calls _ _ #[.slice (some ⟨g, 0, none⟩) (k + 1) vc, .agg #[.string ⟨#[]⟩, .slice a1 n1 c1, .slice a2 n2 c2, .string ⟨tx.toArray⟩]] w fun e w' => ∃ v', e = .returned v' ∧ w'.ownsRow 0 42 4 v' (k + 1) cs ∧ Moved w (.slice (some ⟨g, 0, none⟩) (k + 1) vc) v' ∧ Kept (Value.slice (some ⟨g, 0, none⟩) (k + 1) vc).ownBlock.toList w w'
  go_enter Tryz.func107, Tryz.ntmps107
  go_wp2_with fail
  go_region
  go_wp2_with fail
  go_ret
  refine ⟨_, rfl, ?_, .inl rfl, ?_⟩
  · have h := HS.out w (Kept.refl [] w)
    rw [← ba_app zt tx] at h
    exact ownsRow_kept h (((Kept.refl [] _).alloc _).drew) (by simp)
  · have e : (Value.slice (some ⟨g, 0, none⟩) (k + 1) vc).ownBlock.toList = [g] := rfl
    rw [e]
    exact (((Kept.refl [g] w).setCell (p := ⟨g, k * 4 + 3, none⟩) (.inl (by simp)) _).alloc _).drew
theorem withNode_any (v : Value) (ns : List NodeR) (x : NodeR) (w : World) (hr : w.ownsRow 0 42 4 v ns.length (cellsOf ns)) (ha : ∃ a n c, x.av = .slice a n c) (hk : ∃ a n c, x.kv = .slice a n c) (hb : evBulk (evsOf ns) < 1099511627776) (hxb : evBulk x.evs < 1099511627776) : Puts v ns x w := by
  have hl := evBulk_evs ns
  by_cases hx : x.name = []
  · rcases List.eq_nil_or_concat ns with h0 | ⟨l, z, h0⟩
    · exact with_none v ns x w hr ha hk (by omega) hx h0
    · have h0' : ns = l ++ [z] := by simpa using h0
      by_cases hz : z.name = []
      · have h1 := evBulk_mem (ns := ns) (x := z) (by simp [h0'])
        rw [evs_text hz] at h1
        rw [evs_text hx] at hxb
        simp [evBulk] at h1 hxb
        exact with_join v ns x w hr ha hk (by omega) hx l z h0' hz (by omega) (by omega)
      · exact with_text v ns x w hr ha hk (by omega) hx l z h0' hz
  · exact with_elem v ns x w hr ha hk (by omega) hx
end Go.Proofs.YtlpmjpmefdpcmaaGreatDoor
namespace Go.Proofs.YtlpmjpmefdpcmaaGreatDoor
open Go.RowKit Scrub Go.Shelf
/-- What cleaning by a policy asks of the world. -/
def PreC (ev av : Value) (p : Pol) (w : World) : Prop := PolAt w ev av p ∧ GlobB w ∧ p.1.length ≤ 1099511627776 ∧ p.2.length ≤ 1099511627776
theorem PreC.kept {ev av : Value} {p : Pol} {w w' : World} (h : PreC ev av p w) (hk : Kept [] w w') : PreC ev av p w' := ⟨h.1.kept hk, h.2.1.kept hk, h.2.2⟩
/-- filter, to a depth. -/
def FilterOk (ev av : Value) (p : Pol) (d : Nat) : Prop := ∀ (f : GF d) (v : Value) (w : World), PreC ev av p w → Lies d w v f → niceF d f → bulkF d f < 1099511627776 →
  Calls Tryz.prog 74 #[.agg #[ev, av], v] w fun e w' => ∃ v' ns, e = .returned v' ∧ Left (w.heap.size + 1) w' v' ns ∧ evsOf ns = mergeE (rawF p d f) ∧ Kept [] w w'
/-- What leftOf leaves. -/
def LeftPost (p : Pol) (d : Nat) (n : GN d) (w : World) (e : Ending) (w' : World) : Prop := ∃ v' ms, e = .returned v' ∧ NodesAt w.heap.size w' v' ms ∧ evsOf ms = mergeE (rawN p (rawF p d) n) ∧ Kept [] w w'
/-- A list of one node, in a block of its own. -/
theorem nodesAt_one {lo : Nat} {w : World} (x : NodeR) (hx : NodeOk Tree w x) (hfp : ∀ k ∈ x.fp, lo ≤ k ∧ k < w.heap.size) (hlo : lo ≤ w.heap.size) :
    NodesAt lo (w.alloc (.cells #[.string ⟨x.name.toArray⟩, x.av, x.kv, .string ⟨x.text.toArray⟩] 42)) (.slice (some ⟨w.heap.size, 0, none⟩) 1 1) [x] := by
  have hb := heap_alloc_new w (.cells #[.string ⟨x.name.toArray⟩, x.av, x.kv, .string ⟨x.text.toArray⟩] 42)
  have hk : Kept [] w (w.alloc (.cells #[.string ⟨x.name.toArray⟩, x.av, x.kv, .string ⟨x.text.toArray⟩] 42)) := (Kept.refl [] w).alloc _
  refine ⟨_, _, rfl, fun i hi => ?_, fun y hy => ?_⟩
  · have : i = 0 := by simp at hi; omega
    subst this
    exact ⟨_, rfl, ⟨hlo, by simp⟩, by unfold World.cell?; rw [hb]; rfl, by unfold World.cell?; rw [hb]; rfl, by unfold World.cell?; rw [hb]; rfl, by unfold World.cell?; rw [hb]; rfl⟩
  · simp at hy
    subst hy
    have := hk.size
    exact ⟨hx.keep (fun k hk' => hk.block k (hfp k hk').2 (by simp)), fun k hk' => ⟨(hfp k hk').1, by have := (hfp k hk').2; omega⟩⟩
theorem NodesAt.mono {lo lo' : Nat} {w : World} {v : Value} {ms : List NodeR} (h : NodesAt lo w v ms) (hl : lo' ≤ lo) : NodesAt lo' w v ms := by
  obtain ⟨a, c, h1, h2, h3⟩ := h
  refine ⟨a, c, h1, fun i hi => ?_, fun x hx => ⟨(h3 x hx).1, fun k hk => ⟨Nat.le_trans hl ((h3 x hx).2 k hk).1, ((h3 x hx).2 k hk).2⟩⟩⟩
  obtain ⟨g, e, ⟨l1, l2⟩, c0⟩ := h2 i hi
  exact ⟨g, e, ⟨Nat.le_trans hl l1, l2⟩, c0⟩
theorem notEmpty {l : List UInt8} (h : l ≠ []) : l.isEmpty = false := by
  cases l with
  | nil => exact absurd rfl h
  | cons _ _ => rfl
set_option maxRecDepth 100000 in
set_option maxHeartbeats 2000000 in
theorem left_text (ev av : Value) (p : Pol) (d : Nat) (n : GN d) (na nk : Value) (w : World) (hp : PreC ev av p w) (hA : LiesA w na n.2.1) (hK : Lies d w nk n.2.2.1) (hn : n.1 = []) (ht : n.2.2.2 ≠ []) :
    Calls Tryz.prog 106 #[.agg #[ev, av], .agg #[.string ⟨n.1.toArray⟩, na, nk, .string ⟨n.2.2.2.toArray⟩]] w (LeftPost p d n w) := by
  unfold LeftPost
  have er : mergeE (rawN p (rawF p d) n) = [evText n.2.2.2] := by rw [rawN, if_pos hn]; rfl
  rw [er, hn]
  obtain ⟨a1, c1, rfl⟩ := hp.1.1.form
  obtain ⟨a2, c2, rfl⟩ := hp.1.2.form
  obtain ⟨a3, c3, rfl⟩ := hA.form
  obtain ⟨a4, c4, rfl⟩ := hK.form
  clear hp hA hK er
  generalize n.2.2.2 = tx at *
  generalize n.2.1.length = l3 at *
  generalize glen d n.2.2.1 = l4 at *
  go_enter Tryz.func106, Tryz.ntmps106
  go_wp2_with fail
  go_ret
  refine ⟨_, [NodeR.ofText tx], rfl, ?_, rfl, ((((Kept.refl [] w).alloc _).alloc _).alloc _)⟩
  have hsz : ((w.alloc (.cells #[.slice a1 p.1.length c1, .slice a2 p.2.length c2] 33)).alloc (.cells #[.string ⟨#[]⟩, .slice a3 l3 c3, .slice a4 l4 c4, .string ⟨tx.toArray⟩] 42)).heap.size = w.heap.size + 1 + 1 := by simp
  have h := nodesAt_one (lo := w.heap.size) (w := ((w.alloc (.cells #[.slice a1 p.1.length c1, .slice a2 p.2.length c2] 33)).alloc (.cells #[.string ⟨#[]⟩, .slice a3 l3 c3, .slice a4 l4 c4, .string ⟨tx.toArray⟩] 42))) (NodeR.ofText tx) (ofTextOk _ tx ht) (by intro k hk; simp [NodeR.ofText] at hk) (by omega)
  rw [hsz] at h
  exact h
set_option maxRecDepth 100000 in
set_option maxHeartbeats 2000000 in
theorem left_keep (ev av : Value) (p : Pol) (d : Nat) (ih : FilterOk ev av p d) (n : GN d) (na nk : Value) (w : World) (hp : PreC ev av p w) (hA : LiesA w na n.2.1) (hK : Lies d w nk n.2.2.1) (hnice : niceN (niceF d) n) (hb : bulkN (bulkF d) n < 1099511627776) (hn : n.1 ≠ []) (hc : p.1.contains n.1 = true) :
    Calls Tryz.prog 106 #[.agg #[ev, av], .agg #[.string ⟨n.1.toArray⟩, na, nk, .string ⟨n.2.2.2.toArray⟩]] w (LeftPost p d n w) := by
  unfold LeftPost
  have er : mergeE (rawN p (rawF p d) n) = evOpen n.1 (n.2.1.filter (letsAP p)) :: (mergeE (rawF p d n.2.2.1) ++ [none]) := by
    rw [rawN, if_neg hn, if_pos hc]
    show evOpen _ _ :: mergeE (rawF p d n.2.2.1 ++ [none]) = _
    rw [merge_none]
    rfl
  rw [er]
  have hbl := bulkA_len n.2.1
  have HLE : Hid (∀ w', Kept [] w w' → Calls Tryz.prog 171 #[.agg #[ev, av], .string ⟨n.1.toArray⟩] w' fun e w'' => e = .returned (.bool true) ∧ Kept [] w' w'') := fun w' hk => by
    have := letsElement_any ev av p n.1 w' (hp.kept hk).1 hp.2.2.1
    rw [hc] at this
    exact this
  have HFA : Hid (∀ w', Kept [] w w' → Calls Tryz.prog 172 #[.agg #[ev, av], na] w' fun e w'' => ∃ v', e = .returned v' ∧ AOwn w'' v' (n.2.1.filter (letsAP p)) ∧ (∀ k, v'.ownBlock = some k → w'.heap.size < k) ∧ Kept [] w' w'') := fun w' hk =>
    filterAttrs_any ev av p na n.2.1 w' (hp.kept hk).1 hp.2.2.2 (hp.kept hk).2.1 (hA.kept hk) (by unfold bulkN at hb; omega)
  have HFK : Hid (∀ w', Kept [] w w' → Calls Tryz.prog 74 #[.agg #[ev, av], nk] w' fun e w'' => ∃ v' ns, e = .returned v' ∧ Left (w'.heap.size + 1) w'' v' ns ∧ evsOf ns = mergeE (rawF p d n.2.2.1) ∧ Kept [] w' w'') := fun w' hk =>
    ih n.2.2.1 nk w' (hp.kept hk) (hK.kept d hk) hnice.2.2 (by unfold bulkN at hb; omega)
  have htx : n.2.2.2 = [] := hnice.2.1 hn
  rw [htx]
  obtain ⟨a1, c1, rfl⟩ := hp.1.1.form
  obtain ⟨a2, c2, rfl⟩ := hp.1.2.form
  obtain ⟨a3, c3, rfl⟩ := hA.form
  obtain ⟨a4, c4, rfl⟩ := hK.form
  have hne := notEmpty hn
  clear hp hA hK er hnice hb htx hbl hc ih
  generalize n.2.1.length = l3 at *
  generalize glen d n.2.2.1 = l4 at *
  generalize n.2.1.filter (letsAP p) = fal at *
  generalize mergeE (rawF p d n.2.2.1) = ME at *
  generalize n.1 = nm at *
  have hk1 : Kept [] w ((w.alloc (.cells #[.slice a1 p.1.length c1, .slice a2 p.2.length c2] 33)).alloc (.cells #[.string ⟨nm.toArray⟩, .slice a3 l3 c3, .slice a4 l4 c4, .string ⟨#[]⟩] 42)) := ((Kept.refl [] w).alloc _).alloc _
  show Calls _ _ #[.agg #[.slice a1 p.1.length c1, .slice a2 p.2.length c2], .agg #[.string ⟨nm.toArray⟩, .slice a3 l3 c3, .slice a4 l4 c4, .string ⟨#[]⟩]] w _
  have g0 : ((w.alloc (.cells #[.slice a1 p.1.length c1, .slice a2 p.2.length c2] 33)).alloc (.cells #[.string ⟨nm.toArray⟩, .slice a3 l3 c3, .slice a4 l4 c4, .string ⟨#[]⟩] 42)).heap[w.heap.size]? = some (.cells #[.slice a1 p.1.length c1, .slice a2 p.2.length c2] 33 (0, 0)) := (((Kept.refl [] (w.alloc _)).alloc _).block _ (by simp) (by simp)).trans (heap_alloc_new w _)
  have g1 : ((w.alloc (.cells #[.slice a1 p.1.length c1, .slice a2 p.2.length c2] 33)).alloc (.cells #[.string ⟨nm.toArray⟩, .slice a3 l3 c3, .slice a4 l4 c4, .string ⟨#[]⟩] 42)).heap[w.heap.size + 1]? = some (.cells #[.string ⟨nm.toArray⟩, .slice a3 l3 c3, .slice a4 l4 c4, .string ⟨#[]⟩] 42 (0, 0)) := by
    have h := heap_alloc_new (w.alloc (.cells #[.slice a1 p.1.length c1, .slice a2 p.2.length c2] 33)) (.cells #[.string ⟨nm.toArray⟩, .slice a3 l3 c3, .slice a4 l4 c4, .string ⟨#[]⟩] 42)
    simpa using h
  have hsz : ((w.alloc (.cells #[.slice a1 p.1.length c1, .slice a2 p.2.length c2] 33)).alloc (.cells #[.string ⟨nm.toArray⟩, .slice a3 l3 c3, .slice a4 l4 c4, .string ⟨#[]⟩] 42)).heap.size = w.heap.size + 2 := by simp
  have hbox : ∀ w', Kept [] ((w.alloc (.cells #[.slice a1 p.1.length c1, .slice a2 p.2.length c2] 33)).alloc (.cells #[.string ⟨nm.toArray⟩, .slice a3 l3 c3, .slice a4 l4 c4, .string ⟨#[]⟩] 42)) w' →
      (w'.cell? ⟨w.heap.size, 0, none⟩ = some (.slice a1 p.1.length c1) ∧ w'.cell? ⟨w.heap.size, 1, none⟩ = some (.slice a2 p.2.length c2)) ∧
      (w'.cell? ⟨w.heap.size + 1, 0, none⟩ = some (.string ⟨nm.toArray⟩) ∧ w'.cell? ⟨w.heap.size + 1, 1, none⟩ = some (.slice a3 l3 c3) ∧ w'.cell? ⟨w.heap.size + 1, 2, none⟩ = some (.slice a4 l4 c4) ∧ w'.cell? ⟨w.heap.size + 1, 3, none⟩ = some (.string ⟨#[]⟩)) := by
    intro w' hk
    have e0 := (hk.block w.heap.size (by rw [hsz]; omega) (by simp)).trans g0
    have e1 := (hk.block (w.heap.size + 1) (by rw [hsz]; omega) (by simp)).trans g1
    exact ⟨⟨by simp [World.cell?, e0], by simp [World.cell?, e0]⟩, by simp [World.cell?, e1], by simp [World.cell?, e1], by simp [World.cell?, e1], by simp [World.cell?, e1]⟩
  have HBX : Hid _ := hbox
  have HSZ : Hid _ := hsz
  clear hbox g0 g1 hsz
  go_enter Tryz.func106, Tryz.ntmps106
  go_wp2_with fail
  refine (HLE.out _ hk1).mono ?_
  rintro e w1 ⟨rfl, hk2⟩
  obtain ⟨⟨b0, b1⟩, b2, b3, b4, b5⟩ := HBX.out w1 hk2
  go_wp2_with fail
  have hk3 : Kept [] w w1 := hk1.trans hk2
  have hs1 := hk2.size
  rw [HSZ.out] at hs1
  go_region_held3 (fun w' => (w'.cell? ⟨w.heap.size, 0, none⟩ = some (.slice a1 p.1.length c1) ∧ w'.cell? ⟨w.heap.size, 1, none⟩ = some (.slice a2 p.2.length c2)) ∧
      (w'.cell? ⟨w.heap.size + 1, 0, none⟩ = some (.string ⟨nm.toArray⟩) ∧ w'.cell? ⟨w.heap.size + 1, 1, none⟩ = some (.slice a3 l3 c3) ∧ w'.cell? ⟨w.heap.size + 1, 2, none⟩ = some (.slice a4 l4 c4))) (first | go_keep | (refine ⟨⟨?_, ?_⟩, ?_, ?_, ?_⟩ <;> first | assumption | (simp [*]; done)))
   (first
    | (go_at_call 172; refine (HFA.out _ (by first | exact hk3.drew | exact hk3 | exact hk3.drewN _)).mono ?_; rintro e w2 ⟨v2, rfl, hao, hnb, hk4'⟩; obtain ⟨a5, c5, rfl⟩ := ownsRow_form hao; have hk4 : Kept [] w1 w2 := ((Kept.refl [] w1).drew).trans hk4'; have HAO : Hid _ := hao; have HNB : Hid _ := hnb; clear hao hnb; obtain ⟨⟨d0, d1⟩, d2, d3, d4, d5⟩ := HBX.out w2 (hk2.trans hk4))
    | (go_at_call 74; refine (HFK.out _ (by exact hk3.trans hk4)).mono ?_; rintro e w3 ⟨v3, ns, rfl, hlf, hev, hk5⟩; obtain ⟨a6, c6, rfl⟩ := ownsRow_form hlf.1; have hk6 : Kept [] w1 w3 := hk4.trans hk5; have HLF : Hid _ := hlf; have HEV : Hid _ := hev; clear hlf hev; obtain ⟨⟨f0, f1⟩, f2, f3, f4, f5⟩ := HBX.out w3 (hk2.trans hk6)))
  go_wp2_with fail
  go_ret
  have hlf := HLF.out
  have hao := HAO.out
  have hz4 := hk4.size
  have hz5 := hk5.size
  have hbnd : ∀ k ∈ (Value.slice a5 fal.length c5).ownBlock.toList ++ ((Value.slice a6 ns.length c6).ownBlock.toList ++ fpOf ns), w.heap.size ≤ k ∧ k < w3.heap.size := by
    intro k hk
    rcases List.mem_append.1 hk with h | h
    · have hk' : (Value.slice a5 fal.length c5).ownBlock = some k := Option.mem_toList.1 h
      have h1 := HNB.out k hk'
      have h2 := own_lt hao hk'
      have h3 : w1.drew.heap.size = w1.heap.size := rfl
      rw [h3] at h1
      omega
    · rcases List.mem_append.1 h with h | h
      · have hk' : (Value.slice a6 ns.length c6).ownBlock = some k := Option.mem_toList.1 h
        have h1 := hlf.2.2.1 k hk'
        have h2 := own_lt hlf.1 hk'
        omega
      · obtain ⟨y, hy, hky⟩ := List.mem_flatMap.1 h
        have := (hlf.2.2.2 y hy k hky).1
        omega
  have hx : NodeOk Tree w3 { name := nm, text := [], av := .slice a5 fal.length c5, kv := .slice a6 ns.length c6, al := fal, ev := evsOf ns, fp := (Value.slice a5 fal.length c5).ownBlock.toList ++ ((Value.slice a6 ns.length c6).ownBlock.toList ++ fpOf ns) } :=
    ⟨_, ownsRow_kept hao hk5 (by simp), Left.tree (lo := w2.heap.size + 1) hlf, rfl, fun h => absurd h hn, fun _ => rfl⟩
  refine ⟨_, [{ name := nm, text := [], av := .slice a5 fal.length c5, kv := .slice a6 ns.length c6, al := fal, ev := evsOf ns, fp := (Value.slice a5 fal.length c5).ownBlock.toList ++ ((Value.slice a6 ns.length c6).ownBlock.toList ++ fpOf ns) }], rfl, nodesAt_one _ hx hbnd (by omega), ?_, (hk3.trans hk6).alloc _⟩
  rw [evsOf_one, evs_elem hn, ← HEV.out]
set_option maxRecDepth 100000 in
set_option maxHeartbeats 2000000 in
theorem left_raw (ev av : Value) (p : Pol) (d : Nat) (n : GN d) (na nk : Value) (w : World) (hp : PreC ev av p w) (hA : LiesA w na n.2.1) (hK : Lies d w nk n.2.2.1) (hn : n.1 ≠ []) (hc : p.1.contains n.1 = false) (hk2 : kindP n.1 = 2) :
    Calls Tryz.prog 106 #[.agg #[ev, av], .agg #[.string ⟨n.1.toArray⟩, na, nk, .string ⟨n.2.2.2.toArray⟩]] w (LeftPost p d n w) := by
  unfold LeftPost
  have er : mergeE (rawN p (rawF p d) n) = [] := by rw [rawN, if_neg hn, if_neg (by rw [hc]; simp), if_pos hk2]; rfl
  rw [er]
  have HLE : Hid (∀ w', Kept [] w w' → Calls Tryz.prog 171 #[.agg #[ev, av], .string ⟨n.1.toArray⟩] w' fun e w'' => e = .returned (.bool false) ∧ Kept [] w' w'') := fun w' hk => by
    have := letsElement_any ev av p n.1 w' (hp.kept hk).1 hp.2.2.1
    rw [hc] at this
    exact this
  have HKO : Hid (∀ w', Calls Tryz.prog 169 #[.string ⟨n.1.toArray⟩] w' fun e w'' => e = .returned (.int .i64 2) ∧ w'' = w') := fun w' => by
    have h := kindOf_any ⟨n.1.toArray⟩ w'
    have e : (⟨n.1.toArray⟩ : ByteArray).data.toList = n.1 := by simp
    rw [e, hk2] at h
    exact h
  obtain ⟨a1, c1, rfl⟩ := hp.1.1.form
  obtain ⟨a2, c2, rfl⟩ := hp.1.2.form
  obtain ⟨a3, c3, rfl⟩ := hA.form
  obtain ⟨a4, c4, rfl⟩ := hK.form
  have hne := notEmpty hn
  clear hp hA hK er hc
  generalize n.2.1.length = l3 at *
  generalize glen d n.2.2.1 = l4 at *
  generalize n.1 = nm at *
  generalize n.2.2.2 = tx at *
  have hk1 : Kept [] w ((w.alloc (.cells #[.slice a1 p.1.length c1, .slice a2 p.2.length c2] 33)).alloc (.cells #[.string ⟨nm.toArray⟩, .slice a3 l3 c3, .slice a4 l4 c4, .string ⟨tx.toArray⟩] 42)) := ((Kept.refl [] w).alloc _).alloc _
  have g1 : ((w.alloc (.cells #[.slice a1 p.1.length c1, .slice a2 p.2.length c2] 33)).alloc (.cells #[.string ⟨nm.toArray⟩, .slice a3 l3 c3, .slice a4 l4 c4, .string ⟨tx.toArray⟩] 42)).heap[w.heap.size + 1]? = some (.cells #[.string ⟨nm.toArray⟩, .slice a3 l3 c3, .slice a4 l4 c4, .string ⟨tx.toArray⟩] 42 (0, 0)) := by
    have h := heap_alloc_new (w.alloc (.cells #[.slice a1 p.1.length c1, .slice a2 p.2.length c2] 33)) (.cells #[.string ⟨nm.toArray⟩, .slice a3 l3 c3, .slice a4 l4 c4, .string ⟨tx.toArray⟩] 42)
    simpa using h
  have HG1 : Hid _ := g1
  clear g1
  go_enter Tryz.func106, Tryz.ntmps106
  go_wp2_with fail
  refine (HLE.out _ hk1).mono ?_
  rintro e w1 ⟨rfl, hk3⟩
  have e1 := (hk3.block (w.heap.size + 1) (by simp) (by simp)).trans HG1.out
  have b2 : w1.cell? ⟨w.heap.size + 1, 0, none⟩ = some (.string ⟨nm.toArray⟩) := by unfold World.cell?; rw [e1]; rfl
  clear e1
  go_wp2_with fail
  refine (HKO.out _).mono ?_
  rintro e w2 ⟨rfl, rfl⟩
  go_wp2_with fail
  go_ret
  exact ⟨_, [], rfl, ⟨none, 0, rfl, by simp, by simp⟩, rfl, hk1.trans hk3⟩
set_option maxRecDepth 100000 in
set_option maxHeartbeats 2000000 in
theorem left_open (ev av : Value) (p : Pol) (d : Nat) (ih : FilterOk ev av p d) (n : GN d) (na nk : Value) (w : World) (hp : PreC ev av p w) (hA : LiesA w na n.2.1) (hK : Lies d w nk n.2.2.1) (hnice : niceN (niceF d) n) (hb : bulkN (bulkF d) n < 1099511627776) (hn : n.1 ≠ []) (hc : p.1.contains n.1 = false) (hk2 : kindP n.1 ≠ 2) :
    Calls Tryz.prog 106 #[.agg #[ev, av], .agg #[.string ⟨n.1.toArray⟩, na, nk, .string ⟨n.2.2.2.toArray⟩]] w (LeftPost p d n w) := by
  unfold LeftPost
  have er : mergeE (rawN p (rawF p d) n) = mergeE (rawF p d n.2.2.1) := by rw [rawN, if_neg hn, if_neg (by rw [hc]; simp), if_neg hk2]
  rw [er]
  have HLE : Hid (∀ w', Kept [] w w' → Calls Tryz.prog 171 #[.agg #[ev, av], .string ⟨n.1.toArray⟩] w' fun e w'' => e = .returned (.bool false) ∧ Kept [] w' w'') := fun w' hk => by
    have := letsElement_any ev av p n.1 w' (hp.kept hk).1 hp.2.2.1
    rw [hc] at this
    exact this
  have HKO : Hid (∀ w', Calls Tryz.prog 169 #[.string ⟨n.1.toArray⟩] w' fun e w'' => e = .returned (.int .i64 (kindP n.1)) ∧ w'' = w') := fun w' => by
    have h := kindOf_any ⟨n.1.toArray⟩ w'
    have e : (⟨n.1.toArray⟩ : ByteArray).data.toList = n.1 := by simp
    rw [e] at h
    exact h
  have HFK : Hid (∀ w', Kept [] w w' → Calls Tryz.prog 74 #[.agg #[ev, av], nk] w' fun e w'' => ∃ v' ns, e = .returned v' ∧ Left (w'.heap.size + 1) w'' v' ns ∧ evsOf ns = mergeE (rawF p d n.2.2.1) ∧ Kept [] w' w'') := fun w' hk =>
    ih n.2.2.1 nk w' (hp.kept hk) (hK.kept d hk) hnice.2.2 (by unfold bulkN at hb; omega)
  obtain ⟨a1, c1, rfl⟩ := hp.1.1.form
  obtain ⟨a2, c2, rfl⟩ := hp.1.2.form
  obtain ⟨a3, c3, rfl⟩ := hA.form
  obtain ⟨a4, c4, rfl⟩ := hK.form
  have hne := notEmpty hn
  clear hp hA hK er hc hnice hb ih
  generalize mergeE (rawF p d n.2.2.1) = ME at *
  generalize n.2.1.length = l3 at *
  generalize glen d n.2.2.1 = l4 at *
  generalize n.1 = nm at *
  generalize n.2.2.2 = tx at *
  have hk1 : Kept [] w ((w.alloc (.cells #[.slice a1 p.1.length c1, .slice a2 p.2.length c2] 33)).alloc (.cells #[.string ⟨nm.toArray⟩, .slice a3 l3 c3, .slice a4 l4 c4, .string ⟨tx.toArray⟩] 42)) := ((Kept.refl [] w).alloc _).alloc _
  have g0 : ((w.alloc (.cells #[.slice a1 p.1.length c1, .slice a2 p.2.length c2] 33)).alloc (.cells #[.string ⟨nm.toArray⟩, .slice a3 l3 c3, .slice a4 l4 c4, .string ⟨tx.toArray⟩] 42)).heap[w.heap.size]? = some (.cells #[.slice a1 p.1.length c1, .slice a2 p.2.length c2] 33 (0, 0)) := (((Kept.refl [] (w.alloc _)).alloc _).block _ (by simp) (by simp)).trans (heap_alloc_new w _)
  have g1 : ((w.alloc (.cells #[.slice a1 p.1.length c1, .slice a2 p.2.length c2] 33)).alloc (.cells #[.string ⟨nm.toArray⟩, .slice a3 l3 c3, .slice a4 l4 c4, .string ⟨tx.toArray⟩] 42)).heap[w.heap.size + 1]? = some (.cells #[.string ⟨nm.toArray⟩, .slice a3 l3 c3, .slice a4 l4 c4, .string ⟨tx.toArray⟩] 42 (0, 0)) := by
    have h := heap_alloc_new (w.alloc (.cells #[.slice a1 p.1.length c1, .slice a2 p.2.length c2] 33)) (.cells #[.string ⟨nm.toArray⟩, .slice a3 l3 c3, .slice a4 l4 c4, .string ⟨tx.toArray⟩] 42)
    simpa using h
  have HG0 : Hid _ := g0
  have HG1 : Hid _ := g1
  clear g0 g1
  go_enter Tryz.func106, Tryz.ntmps106
  go_wp2_with fail
  refine (HLE.out _ hk1).mono ?_
  rintro e w1 ⟨rfl, hk3⟩
  have e0 := (hk3.block w.heap.size (by simp; omega) (by simp)).trans HG0.out
  have e1 := (hk3.block (w.heap.size + 1) (by simp) (by simp)).trans HG1.out
  have b0 : w1.cell? ⟨w.heap.size, 0, none⟩ = some (.slice a1 p.1.length c1) := by unfold World.cell?; rw [e0]; rfl
  have b1 : w1.cell? ⟨w.heap.size, 1, none⟩ = some (.slice a2 p.2.length c2) := by unfold World.cell?; rw [e0]; rfl
  have b2 : w1.cell? ⟨w.heap.size + 1, 0, none⟩ = some (.string ⟨nm.toArray⟩) := by unfold World.cell?; rw [e1]; rfl
  have b3 : w1.cell? ⟨w.heap.size + 1, 2, none⟩ = some (.slice a4 l4 c4) := by unfold World.cell?; rw [e1]; rfl
  clear e0 e1
  go_wp2_with fail
  refine (HKO.out _).mono ?_
  rintro e w2 ⟨rfl, rfl⟩
  go_wp2_with fail
  refine (HFK.out _ (hk1.trans hk3)).mono ?_
  rintro e w3 ⟨v3, ns, rfl, hlf, hev, hk5⟩
  have hz := (hk1.trans hk3).size
  have HN : Hid _ := hlf.nodes
  obtain ⟨a6, c6, rfl⟩ := ownsRow_form hlf.1
  clear hlf
  go_wp2_with fail
  go_ret
  exact ⟨_, ns, rfl, NodesAt.mono (lo := w2.heap.size + 1) HN.out (by omega), hev, (hk1.trans hk3).trans hk5⟩
theorem leftOf_any (ev av : Value) (p : Pol) (d : Nat) (ih : FilterOk ev av p d) (n : GN d) (na nk : Value) (w : World) (hp : PreC ev av p w) (hA : LiesA w na n.2.1) (hK : Lies d w nk n.2.2.1) (hnice : niceN (niceF d) n) (hb : bulkN (bulkF d) n < 1099511627776) :
    Calls Tryz.prog 106 #[.agg #[ev, av], .agg #[.string ⟨n.1.toArray⟩, na, nk, .string ⟨n.2.2.2.toArray⟩]] w (LeftPost p d n w) := by
  by_cases hn : n.1 = []
  · exact left_text ev av p d n na nk w hp hA hK hn (hnice.1 hn).1
  · cases hc : p.1.contains n.1 with
    | true => exact left_keep ev av p d ih n na nk w hp hA hK hnice hb hn hc
    | false =>
      by_cases hk : kindP n.1 = 2
      · exact left_raw ev av p d n na nk w hp hA hK hn hc hk
      · exact left_open ev av p d ih n na nk w hp hA hK hnice hb hn hc hk
end Go.Proofs.YtlpmjpmefdpcmaaGreatDoor
namespace Go.Proofs.YtlpmjpmefdpcmaaGreatDoor
open Go.RowKit Scrub Go.Shelf
/-- filter, k nodes on: A is what was left of them. -/
def FInv (w : World) (bx : Obj) (A : List Ev) (lv : Value) (wr : World) : Prop := ∃ ns, Kept [] w wr ∧ wr.heap[w.heap.size]? = some bx ∧ Left (w.heap.size + 1) wr lv ns ∧ evsOf ns = mergeE A
/-- .. and j nodes on of what is left of the next. -/
def JInv (w w2 : World) (s1 : Nat) (bx : Obj) (A : List Ev) (ms : List NodeR) (j : Nat) (lv : Value) (wi : World) : Prop :=
  ∃ ns, (Kept [] w wi ∧ wi.heap[w.heap.size]? = some bx ∧ Left (w.heap.size + 1) wi lv ns ∧ evsOf ns = mergeE (A ++ evsOf (ms.take j))) ∧
    (∀ k, lv.ownBlock = some k → k < s1 ∨ w2.heap.size ≤ k) ∧ (∀ k, s1 ≤ k → k < w2.heap.size → wi.heap[k]? = w2.heap[k]?) ∧ w2.heap.size ≤ wi.heap.size
theorem JInv.start {w w1 w2 : World} {bx : Obj} {A : List Ev} {ms : List NodeR} {lv : Value} (h : FInv w bx A lv w1) (s1 : Nat) (hs : w1.heap.size ≤ s1) (hk : Kept [] w1 w2) : JInv w w2 s1 bx A ms 0 lv w2 := by
  obtain ⟨ns, h1, h2, h3, h4⟩ := h
  refine ⟨ns, ⟨h1.trans hk, (hk.block _ (Array.getElem?_eq_some_iff.1 h2).1 (by simp)).trans h2, h3.kept hk, by simpa [evsOf] using h4⟩, fun k hk' => .inl ?_, fun _ _ _ => rfl, Nat.le_refl _⟩
  have := own_lt h3.1 hk'
  omega
theorem JInv.done {w w2 : World} {s1 : Nat} {bx : Obj} {A X : List Ev} {ms : List NodeR} {lv : Value} {wi : World} (h : JInv w w2 s1 bx A ms ms.length lv wi) (hX : evsOf ms = mergeE X) : FInv w bx (A ++ X) lv wi := by
  obtain ⟨ns, ⟨h1, h2, h3, h4⟩, _⟩ := h
  refine ⟨ns, h1, h2, h3, ?_⟩
  rw [h4, List.take_length, hX, merge_right]
/-- What the next node is, j on. -/
theorem JInv.node {w w2 : World} {s1 : Nat} {bx : Obj} {A : List Ev} {ms : List NodeR} {v2 : Value} {j : Nat} {lv : Value} {wi : World} (h : JInv w w2 s1 bx A ms j lv wi) (hms : NodesAt s1 w2 v2 ms) (hj : j < ms.length) :
    (∃ g c, v2 = .slice (some ⟨g, 0, none⟩) ms.length c ∧ wi.cell? ⟨g, j * 4, none⟩ = some (.string ⟨(ms[j]).name.toArray⟩) ∧ wi.cell? ⟨g, j * 4 + 1, none⟩ = some (ms[j]).av ∧ wi.cell? ⟨g, j * 4 + 2, none⟩ = some (ms[j]).kv ∧ wi.cell? ⟨g, j * 4 + 3, none⟩ = some (.string ⟨(ms[j]).text.toArray⟩)) ∧
      (∃ a n c, (ms[j]).av = .slice a n c) ∧ ∃ a n c, (ms[j]).kv = .slice a n c := by
  obtain ⟨a, c, rfl, h2, h3⟩ := hms
  obtain ⟨ns, _, _, hsame, _⟩ := h
  obtain ⟨g, rfl, ⟨l1, l2⟩, c0, c1, c2, c3⟩ := h2 j hj
  have hc : ∀ o, wi.cell? ⟨g, o, none⟩ = w2.cell? ⟨g, o, none⟩ := fun o => World.cell?_of_block (w := w2) (a := ⟨g, o, none⟩) (hsame g l1 l2)
  refine ⟨⟨g, c, rfl, (hc _).trans c0, (hc _).trans c1, (hc _).trans c2, (hc _).trans c3⟩, ?_, ?_⟩
  · obtain ⟨kfp, h4, _⟩ := (h3 ms[j] (List.getElem_mem hj)).1
    obtain ⟨a, c, e⟩ := ownsRow_form h4
    exact ⟨a, _, c, e⟩
  · obtain ⟨kfp, _, h4, _⟩ := (h3 ms[j] (List.getElem_mem hj)).1
    obtain ⟨ks, h5, _⟩ := h4.open
    obtain ⟨a, c, e⟩ := ownsRow_form h5
    exact ⟨a, _, c, e⟩
/-- A node more. -/
theorem JInv.step {w w2 : World} {s1 : Nat} {bx ob : Obj} {A : List Ev} {ms : List NodeR} {v2 : Value} {j : Nat} {lv : Value} {wi : World} (h : JInv w w2 s1 bx A ms j lv wi) (hms : NodesAt s1 w2 v2 ms) (hna : noAdj (evsOf ms)) (hlo : w.heap.size < s1) (hj : j < ms.length)
    (hb : evBulk A + evBulk (evsOf ms) < 1099511627776) :
    Calls Tryz.prog 107 #[lv, .agg #[.string ⟨(ms[j]).name.toArray⟩, (ms[j]).av, (ms[j]).kv, .string ⟨(ms[j]).text.toArray⟩]] (wi.alloc ob)
      fun e w' => ∃ v', e = .returned v' ∧ (∃ a n c, v' = .slice a n c) ∧ JInv w w2 s1 bx A ms (j + 1) v' w' := by
  obtain ⟨_, hav, hkv⟩ := h.node hms hj
  obtain ⟨ns, ⟨h1, h2, h3, h4⟩, h5, h6, h7⟩ := h
  have hka : Kept [] wi (wi.alloc ob) := (Kept.refl [] wi).alloc _
  have hza := hka.size
  have hzw := h1.size
  have hltw : w.heap.size < wi.heap.size := (Array.getElem?_eq_some_iff.1 h2).1
  have hl3 := h3.kept hka
  have hn := hna
  have hxm : ms[j] ∈ ms := List.getElem_mem hj
  obtain ⟨_, _, _, _, hnodes⟩ := hms
  obtain ⟨hx, hfp⟩ := hnodes ms[j] hxm
  have hxe := evBulk_mem hxm
  have htk : evsOf (ms.take (j + 1)) = evsOf (ms.take j) ++ (ms[j]).evs := by rw [List.take_succ_eq_append_getElem hj, evsOf_append, evsOf_one]
  have hbt : evBulk (evsOf (ms.take j)) ≤ evBulk (evsOf ms) := by
    have e : evsOf ms = evsOf (ms.take j) ++ evsOf (ms.drop j) := by rw [← evsOf_append, List.take_append_drop]
    rw [e, evBulk_append]
    omega
  have hbn : evBulk (evsOf ns) < 1099511627776 := by
    rw [h4]
    have := evBulk_merge (A ++ evsOf (ms.take j))
    rw [evBulk_append] at this
    omega
  have hown : ∀ k, lv.ownBlock = some k → w.heap.size < k := fun k hk => by have := h3.2.2.1 k hk; omega
  refine (withNode_any lv ns ms[j] (wi.alloc ob) hl3.1 hav hkv hbn (by omega)).mono ?_
  rintro e w' ⟨v', rfl, hr, hm, hk⟩
  have hzk := hk.size
  have hnotown : ∀ k, k ∈ lv.ownBlock.toList → lv.ownBlock = some k := fun k hk' => Option.mem_toList.1 hk'
  refine ⟨v', rfl, ?_, joinR ns ms[j], ⟨?_, ?_, ?_, ?_⟩, ?_, ?_, by omega⟩
  · obtain ⟨a, c, e⟩ := ownsRow_form hr
    exact ⟨a, _, c, e⟩
  · exact (h1.trans hka).trans_new hk (fun k hk' => .inr (by have := hown k (hnotown k hk'); omega))
  · have hlt : w.heap.size < wi.heap.size := (Array.getElem?_eq_some_iff.1 h2).1
    refine (hk.block _ (by omega) (fun hc => ?_)).trans ((hka.block _ hlt (by simp)).trans h2)
    have := hown _ (hnotown _ hc)
    omega
  · refine hl3.join (by omega) ?_ ?_ hr hm hk
    · exact hx.keep (fun k hk' => (hka.block k (by have := (hfp k hk').2; omega) (by simp)).trans (h6 k (hfp k hk').1 (hfp k hk').2))
    · intro k hk'
      obtain ⟨f1, f2⟩ := hfp k hk'
      refine ⟨⟨by omega, by omega⟩, fun hc => ?_⟩
      rcases h5 k hc with h | h <;> omega
  · rw [htk, ← List.append_assoc]
    exact joinR_merge h4 (noAdj_mem hn hxm)
  · intro k hk'
    rcases hm with hm | ⟨b, hm, hb'⟩
    · exact h5 k (hm ▸ hk')
    · rw [hm] at hk'
      have : b = k := by simpa using hk'
      omega
  · intro k hs hz
    refine (hk.block k (by omega) (fun hc => ?_)).trans ((hka.block k (by omega) (by simp)).trans (h6 k hs hz))
    rcases h5 k (hnotown k hc) with h | h <;> omega
theorem rawF_bulk (p : Pol) (d : Nat) (f : GF d) (h : niceF d f) : evBulk (rawF p d f) ≤ bulkF d f := by
  rw [bulkF_ev d f h, ← rawE_tree]
  exact evBulk_raw p _ _
set_option maxRecDepth 100000 in
set_option maxHeartbeats 4000000 in
theorem filter_succ (ev av : Value) (p : Pol) (d : Nat) (ih : FilterOk ev av p d) : FilterOk ev av p (d + 1) := by
  intro f v w hp hL hnice hb
  have hrb := rawF_bulk p (d + 1) f hnice
  have HP : Hid (∀ w', Kept [] w w' → PreC ev av p w') := fun w' hk => hp.kept hk
  obtain ⟨a1, c1, rfl⟩ := hp.1.1.form
  obtain ⟨a2, c2, rfl⟩ := hp.1.2.form
  clear hp
  have er : rawF p (d + 1) f = (gnodes d f).flatMap (rawN p (rawF p d)) := rfl
  rw [er] at hrb ⊢
  clear er
  have hbl := bulkF_len f
  have HBM : Hid (∀ n ∈ gnodes d f, bulkN (bulkF d) n < 1099511627776) := fun n hn => Nat.lt_of_le_of_lt (bulkF_mem hn) hb
  have hni : ∀ n ∈ gnodes d f, niceN (niceF d) n := hnice
  have HNI : Hid _ := hni
  obtain ⟨a, c, hv, hc⟩ := hL
  subst hv
  have HC : Hid (∀ i (h : i < (gnodes d f).length), ∃ g o, a = some ⟨g, o, none⟩ ∧ LiesN (Lies d w) w g (o + i * 4) (gnodes d f)[i]) := hc
  clear hc hnice hni
  generalize gnodes d f = l at *
  have HRB : Hid (evBulk (l.flatMap (rawN p (rawF p d))) < 1099511627776) := Nat.lt_of_le_of_lt hrb hb
  have hll : l.length < 1099511627776 := by omega
  clear hrb hb hbl
  have hk1 : Kept [] w (w.alloc (.cells #[.slice a1 p.1.length c1, .slice a2 p.2.length c2] 33)) := (Kept.refl [] w).alloc _
  go_enter Tryz.func74, Tryz.ntmps74
  go_wp2_with fail
  go_loopg [5, 12] l.length (fun g lv x wr => ∃ k : Nat, k ≤ l.length ∧ g = l.length - k ∧ x = .int .i64 (k : Int) ∧ (∃ a n c, lv = .slice a n c) ∧ FInv w (.cells #[.slice a1 p.1.length c1, .slice a2 p.2.length c2] 33 (0, 0)) ((l.take k).flatMap (rawN p (rawF p d))) lv wr)
  case atStart => exact ⟨0, by omega, rfl, rfl, ⟨_, _, _, rfl⟩, [], hk1, heap_alloc_new w _, Left.nil _ _, rfl⟩
  case round =>
    obtain ⟨wo, rfl⟩ : ∃ x, x = wr := ⟨wr, rfl⟩
    obtain ⟨k, hk, hgk, rfl, ⟨la, ln, lc, rfl⟩, hF⟩ := hrel
    have HG : Hid _ := hgk
    have HF : Hid (FInv _ _ _ _ _) := hF
    obtain ⟨ns, hkept, hbx, hlf, hev⟩ := hF
    have q0 : wo.cell? ⟨w.heap.size, 0, none⟩ = some (.slice a1 p.1.length c1) := by simp [World.cell?, hbx]
    have q1 : wo.cell? ⟨w.heap.size, 1, none⟩ = some (.slice a2 p.2.length c2) := by simp [World.cell?, hbx]
    have hlt0 : w.heap.size < wo.heap.size := (Array.getElem?_eq_some_iff.1 hbx).1
    have HLF : Hid (Left _ _ _ _) := hlf
    clear hgk hbx hlf
    by_cases hlt : k < l.length
    · have hlt' : (k : Int) < (l.length : Int) := by omega
      have hge : (0 : Int) ≤ (k : Int) := by omega
      obtain ⟨g, o, rfl, hn⟩ := HC.out k hlt
      obtain ⟨na, nk, e0, e1, e2, e3, hA, hK⟩ := hn
      have c0 := cell_kept hkept e0
      have c1' := cell_kept hkept e1
      have c2' := cell_kept hkept e2
      have c3 := cell_kept hkept e3
      have HBN := HBM.out l[k] (List.getElem_mem hlt)
      have HNN := HNI.out l[k] (List.getElem_mem hlt)
      have htk : (l.take (k + 1)).flatMap (rawN p (rawF p d)) = (l.take k).flatMap (rawN p (rawF p d)) ++ rawN p (rawF p d) l[k] := by rw [List.take_succ_eq_append_getElem hlt, List.flatMap_append]; simp
      have hbt : evBulk ((l.take k).flatMap (rawN p (rawF p d))) + evBulk (rawN p (rawF p d) l[k]) < 1099511627776 := by
        have h1 := HRB.out
        have e : l.flatMap (rawN p (rawF p d)) = (l.take (k + 1)).flatMap (rawN p (rawF p d)) ++ (l.drop (k + 1)).flatMap (rawN p (rawF p d)) := by rw [← List.flatMap_append, List.take_append_drop]
        rw [e, htk, evBulk_append, evBulk_append] at h1
        omega
      have HTK : Hid _ := htk
      have HBT : Hid _ := hbt
      have HLO : Hid (∀ w', Kept [] w w' → Calls Tryz.prog 106 #[.agg #[.slice a1 p.1.length c1, .slice a2 p.2.length c2], .agg #[.string ⟨(l[k]).1.toArray⟩, na, nk, .string ⟨(l[k]).2.2.2.toArray⟩]] w' (LeftPost p d l[k] w')) := fun w' hkk =>
        leftOf_any _ _ p d ih l[k] na nk w' (HP.out w' hkk) (hA.kept hkk) (hK.kept d hkk) HNN HBN
      obtain ⟨a3, c3', rfl⟩ := hA.form
      obtain ⟨a4, c4, rfl⟩ := hK.form
      clear hA hK e0 e1 e2 e3 HBN HNN htk hbt
      generalize (l[k]).2.1.length = l3 at *
      generalize glen d (l[k]).2.2.1 = l4 at *
      generalize (l[k]).1 = nm at *
      generalize (l[k]).2.2.2 = tx at *
      go_wp2_with fail
      refine (HLO.out _ (hkept.alloc _)).mono ?_
      rintro e w2 ⟨v2, ms, rfl, hms, hme, hk2⟩
      have hJ := JInv.start (ms := ms) HF.out (wo.heap.size + 1) (by omega) (((Kept.refl [] wo).alloc _).trans hk2)
      have hz2 : (wo.alloc (.cells #[.string ⟨nm.toArray⟩, .slice a3 l3 c3', .slice a4 l4 c4, .string ⟨tx.toArray⟩] 42)).heap.size = wo.heap.size + 1 := by simp
      rw [hz2] at hms
      have HMS : Hid (NodesAt (wo.heap.size + 1) w2 v2 ms) := hms
      have hna : noAdj (evsOf ms) := by rw [hme]; exact noAdj_merge _
      have HNA : Hid (noAdj (evsOf ms)) := hna
      have hbb : evBulk ((l.take k).flatMap (rawN p (rawF p d))) + evBulk (evsOf ms) < 1099511627776 := by
        rw [hme]
        have h1 := evBulk_merge (rawN p (rawF p d) l[k])
        have h2 := HBT.out
        omega
      have HBB : Hid (evBulk ((l.take k).flatMap (rawN p (rawF p d))) + evBulk (evsOf ms) < 1099511627776) := hbb
      have HJ0 : Hid (JInv _ _ _ _ _ _ _ _ _) := hJ
      have HME : Hid (evsOf ms = mergeE (rawN p (rawF p d) l[k])) := hme
      have hml := evBulk_evs ms
      have hmlen : ms.length < 1099511627776 := by omega
      obtain ⟨ma, mc, hv2, _, _⟩ := hms
      subst hv2
      clear hJ hna hbb hme hml hz2 c0 c1' c2' c3
      go_wp2_with fail
      go_loopg [5, 20] ms.length (fun g lv x wi => ∃ j : Nat, j ≤ ms.length ∧ g = ms.length - j ∧ x = .int .i64 (j : Int) ∧ (∃ a n c, lv = .slice a n c) ∧ JInv w w2 (wo.heap.size + 1) (.cells #[.slice a1 p.1.length c1, .slice a2 p.2.length c2] 33 (0, 0)) ((l.take k).flatMap (rawN p (rawF p d))) ms j lv wi)
      case atStart => exact ⟨0, by omega, rfl, rfl, ⟨_, _, _, rfl⟩, HJ0.out⟩
      case round =>
        obtain ⟨j, hj, hgj, rfl, ⟨ja, jn, jc, rfl⟩, hJ⟩ := hrel
        have HGJ : Hid _ := hgj
        have HJ : Hid (JInv _ _ _ _ _ _ _ _ _) := hJ
        clear hgj
        by_cases hjl : j < ms.length
        · have hjl' : (j : Int) < (ms.length : Int) := by omega
          have hjg : (0 : Int) ≤ (j : Int) := by omega
          obtain ⟨⟨g2, c2, hsl, d0, d1, d2, d3⟩, ⟨x1, y1, z1, hxa⟩, ⟨x2, y2, z2, hxk⟩⟩ := hJ.node HMS.out hjl
          injection hsl with hs1 hs2 hs3
          subst hs1 hs3
          have HST : Hid (∀ ob, Calls Tryz.prog 107 #[.slice ja jn jc, .agg #[.string ⟨(ms[j]).name.toArray⟩, (ms[j]).av, (ms[j]).kv, .string ⟨(ms[j]).text.toArray⟩]] (wr.alloc ob) fun e w' => ∃ v', e = .returned v' ∧ (∃ a n c, v' = .slice a n c) ∧ JInv w w2 (wo.heap.size + 1) (.cells #[.slice a1 p.1.length c1, .slice a2 p.2.length c2] 33 (0, 0)) ((l.take k).flatMap (rawN p (rawF p d))) ms (j + 1) v' w') := fun ob => hJ.step HMS.out HNA.out (by omega) hjl HBB.out
          rw [hxa] at d1 HST
          rw [hxk] at d2 HST
          clear hJ hxa hxk hs2
          generalize (ms[j]).name = xn at *
          generalize (ms[j]).text = xt at *
          go_wp2_with fail
          refine (HST.out _).mono ?_
          rintro e w3 ⟨v3, rfl, ⟨b1, b2, b3, rfl⟩, hJ2⟩
          have HJ2 : Hid (JInv _ _ _ _ _ _ _ _ _) := hJ2
          clear hJ2
          go_wp2_with fail
          go_roundg (ms.length - (j + 1))
          case measure => rw [HGJ.out]; omega
          case rel => exact ⟨j + 1, by omega, rfl, rfl, ⟨_, _, _, rfl⟩, HJ2.out⟩
        · have hjl' : ((j : Int) < (ms.length : Int)) = False := by simp; omega
          have hje : j = ms.length := by omega
          subst hje
          have hfin := JInv.done hJ HME.out
          rw [← HTK.out] at hfin
          have HFIN : Hid (FInv _ _ _ _ _) := hfin
          clear hJ hfin
          go_wp2_with fail
          go_roundg (l.length - (k + 1))
          case measure => rw [HG.out]; omega
          case rel => exact ⟨k + 1, by omega, rfl, rfl, ⟨_, _, _, rfl⟩, HFIN.out⟩
    · have hlt' : ((k : Int) < (l.length : Int)) = False := by simp; omega
      go_wp2_with fail
      go_ret
      have e : l.take k = l := List.take_of_length_le (by omega)
      rw [e] at hev
      exact ⟨_, ns, rfl, HLF.out, hev, hkept⟩
set_option maxRecDepth 100000 in
set_option maxHeartbeats 1000000 in
theorem filter_zero (ev av : Value) (p : Pol) : FilterOk ev av p 0 := by
  intro f v w hp hL _ _
  obtain ⟨a, c, rfl⟩ := hL
  obtain ⟨a1, c1, rfl⟩ := hp.1.1.form
  obtain ⟨a2, c2, rfl⟩ := hp.1.2.form
  clear hp
  have er : mergeE (rawF p 0 f) = [] := rfl
  rw [er]
  have hk1 : Kept [] w (w.alloc (.cells #[.slice a1 p.1.length c1, .slice a2 p.2.length c2] 33)) := (Kept.refl [] w).alloc _
  go_enter Tryz.func74, Tryz.ntmps74
  go_wp2_with fail
  go_loopg [5, 12] 0 (fun g lv x wr => g = 0 ∧ x = .int .i64 0 ∧ lv = .slice none 0 0 ∧ wr = w.alloc (.cells #[.slice a1 p.1.length c1, .slice a2 p.2.length c2] 33))
  case atStart => exact ⟨rfl, rfl, rfl, rfl⟩
  case round =>
    obtain ⟨rfl, rfl, rfl, rfl⟩ := hrel
    go_wp2_with fail
    go_ret
    exact ⟨_, [], rfl, Left.nil _ _, rfl, hk1⟩
theorem filter_any (ev av : Value) (p : Pol) : ∀ d, FilterOk ev av p d
  | 0 => filter_zero ev av p
  | d + 1 => filter_succ ev av p d (filter_any ev av p d)
end Go.Proofs.YtlpmjpmefdpcmaaGreatDoor
namespace Go.Proofs.YtlpmjpmefdpcmaaGreatDoor
open Go.RowKit Scrub Go.Shelf
theorem take_same {α : Type} {a b : List α} {k : Nat} (h1 : k < a.length) (h2 : k < b.length) (h : a.take k = b.take k) (he : a[k] = b[k]) : a.take (k + 1) = b.take (k + 1) := by
  rw [List.take_succ_eq_append_getElem h1, List.take_succ_eq_append_getElem h2, h, he]
/-- What is answered tells if G; nothing that was there is changed. -/
def EFPost (G : Prop) (w : World) (e : Ending) (w' : World) : Prop := ∃ r, e = .returned (.bool r) ∧ (r = true ↔ G) ∧ Kept [] w w'
set_option maxRecDepth 100000 in
set_option maxHeartbeats 2000000 in
theorem equalAttrs_any (v1 v2 : Value) (al bl : List (List UInt8 × List UInt8)) (w : World) (h1 : LiesA w v1 al) (h2 : LiesA w v2 bl) (hl : al.length ≤ 1099511627776) :
    Calls Tryz.prog 173 #[v1, v2] w (EFPost (al = bl) w) := by
  obtain ⟨a1, c1, rfl, hc1⟩ := h1
  obtain ⟨a2, c2, rfl, hc2⟩ := h2
  have HC1 : Hid (∀ i (h : i < al.length), ∃ g o, a1 = some ⟨g, o, none⟩ ∧ w.cell? ⟨g, o + i * 2, none⟩ = some (.string ⟨(al[i]).1.toArray⟩) ∧ w.cell? ⟨g, o + i * 2 + 1, none⟩ = some (.string ⟨(al[i]).2.toArray⟩)) := hc1
  have HC2 : Hid (∀ i (h : i < bl.length), ∃ g o, a2 = some ⟨g, o, none⟩ ∧ w.cell? ⟨g, o + i * 2, none⟩ = some (.string ⟨(bl[i]).1.toArray⟩) ∧ w.cell? ⟨g, o + i * 2 + 1, none⟩ = some (.string ⟨(bl[i]).2.toArray⟩)) := hc2
  clear hc1 hc2
  by_cases hlen : al.length = bl.length
  · rw [← hlen]
    have HLEN : Hid (al.length = bl.length) := hlen
    clear hlen
    go_enter Tryz.func173, Tryz.ntmps173
    go_wp2_with fail
    go_loopg [13] al.length (fun g x wr => ∃ k : Nat, k ≤ al.length ∧ g = al.length - k ∧ x = .int .i64 (k : Int) ∧ (∃ n, wr = w.drewN n) ∧ al.take k = bl.take k)
    case atStart => exact ⟨0, by omega, rfl, rfl, ⟨0, rfl⟩, by simp⟩
    case round =>
      obtain ⟨k, hk, hgk, rfl, ⟨n, rfl⟩, hno⟩ := hrel
      have HG : Hid _ := hgk
      have HNO : Hid _ := hno
      clear hgk hno
      by_cases hlt : k < al.length
      · have hlt2 : k < bl.length := by rw [← HLEN.out]; exact hlt
        have hlt' : (k : Int) < (al.length : Int) := by omega
        have hge : (0 : Int) ≤ (k : Int) := by omega
        obtain ⟨g1, o1, rfl, d0, d1⟩ := HC1.out k hlt
        obtain ⟨g2, o2, rfl, e0, e1⟩ := HC2.out k hlt2
        by_cases heq : al[k] = bl[k]
        · have hst := take_same hlt hlt2 HNO.out heq
          have HST : Hid _ := hst
          rw [← heq] at e0 e1
          clear hst heq
          generalize al[k] = x at *
          go_wp2_with fail
          go_quiet (fail)
          go_wp2_with fail
          go_roundg (al.length - (k + 1))
          case measure => rw [HG.out]; omega
          case rel => exact ⟨k + 1, by omega, rfl, rfl, ⟨_, by first | rfl | exact drewN2 _ _ _⟩, HST.out⟩
        · have HNE : Hid (¬ al = bl) := fun h => heq (by simp [h])
          by_cases h1 : (al[k]).1 = (bl[k]).1
          · rw [← h1] at e0
            have h2 : ((al[k]).2 == (bl[k]).2) = false := by
              have : ¬ (al[k]).2 = (bl[k]).2 := fun h => heq (Prod.ext h1 h)
              simpa using this
            clear h1 heq
            generalize (al[k]).1 = x1 at *
            generalize (al[k]).2 = x2 at *
            generalize (bl[k]).2 = y2 at *
            go_wp2_with fail
            go_quiet (fail)
            go_wp2_with fail
            go_ret
            exact ⟨false, rfl, ⟨fun h => by simp at h, fun h => absurd h HNE.out⟩, ((Kept.refl [] w).drewN _).drewN _⟩
          · have h2 : ((al[k]).1 == (bl[k]).1) = false := by simpa using h1
            clear h1 heq
            generalize (al[k]).1 = x1 at *
            generalize (al[k]).2 = x2 at *
            generalize (bl[k]).1 = y1 at *
            generalize (bl[k]).2 = y2 at *
            go_wp2_with fail
            go_quiet (fail)
            go_wp2_with fail
            go_ret
            exact ⟨false, rfl, ⟨fun h => by simp at h, fun h => absurd h HNE.out⟩, ((Kept.refl [] w).drewN _).drewN _⟩
      · have hlt' : ((k : Int) < (al.length : Int)) = False := by simp; omega
        have e1 : al.take k = al := List.take_of_length_le (by omega)
        have e2 : bl.take k = bl := List.take_of_length_le (by rw [← HLEN.out]; omega)
        have h := HNO.out
        rw [e1, e2] at h
        have HH : Hid (al = bl) := h
        clear h e1 e2
        go_wp2_with fail
        go_ret
        exact ⟨true, rfl, ⟨fun _ => HH.out, fun _ => rfl⟩, (Kept.refl [] w).drewN _⟩
  · have hne : ((al.length : Int) != (bl.length : Int)) = true := by simp; omega
    have HNE : Hid (¬ al = bl) := fun h => hlen (by rw [h])
    clear hlen
    go_enter Tryz.func173, Tryz.ntmps173
    go_wp2_with fail
    go_ret
    exact ⟨false, rfl, ⟨fun h => by simp at h, fun h => absurd h HNE.out⟩, Kept.refl _ _⟩
/-- Two nodes are the same. -/
def SameNd {d1 d2 : Nat} (x : GN d1) (y : GN d2) : Prop := x.1 = y.1 ∧ x.2.1 = y.2.1 ∧ x.2.2.2 = y.2.2.2 ∧ SameF d1 d2 x.2.2.1 y.2.2.1
theorem sameL_mk {d1 d2 : Nat} : ∀ {l : List (GN d1)} {m : List (GN d2)}, l.length = m.length → (∀ i (h1 : i < l.length) (h2 : i < m.length), SameNd l[i] m[i]) → SameL d1 d2 (SameF d1 d2) l m
  | [], [], _, _ => trivial
  | x :: l, y :: m, h, hi => ⟨hi 0 (by simp) (by simp), sameL_mk (l := l) (m := m) (by simpa using h) (fun i h1 h2 => hi (i + 1) (by simpa using h1) (by simpa using h2))⟩
  | [], _ :: _, h, _ => by simp at h
  | _ :: _, [], h, _ => by simp at h
/-- clean's same, to a depth. -/
def SameC (d1 : Nat) : Prop := ∀ (d2 : Nat) (f : GF d1) (g : GF d2) (v1 v2 : Value) (w : World), Lies d1 w v1 f → Lies d2 w v2 g → bulkF d1 f ≤ 1099511627776 →
  Calls Tryz.prog 75 #[v1, v2] w (EFPost (SameF d1 d2 f g) w)
set_option maxRecDepth 100000 in
set_option maxHeartbeats 2000000 in
theorem sameNode_any (d1 d2 : Nat) (ih : SameC d1) (x : GN d1) (y : GN d2) (na nk ma mk : Value) (w : World) (hA : LiesA w na x.2.1) (hK : Lies d1 w nk x.2.2.1) (hB : LiesA w ma y.2.1) (hM : Lies d2 w mk y.2.2.1) (hb : bulkN (bulkF d1) x ≤ 1099511627776) :
    Calls Tryz.prog 109 #[.agg #[.string ⟨x.1.toArray⟩, na, nk, .string ⟨x.2.2.2.toArray⟩], .agg #[.string ⟨y.1.toArray⟩, ma, mk, .string ⟨y.2.2.2.toArray⟩]] w
      (EFPost (SameNd x y) w) := by
  have hal : x.2.1.length ≤ 1099511627776 := by have := bulkA_len x.2.1; unfold bulkN at hb; omega
  have HEQ : Hid (∀ w', Kept [] w w' → Calls Tryz.prog 173 #[na, ma] w' (EFPost (x.2.1 = y.2.1) w')) := fun w' hk => equalAttrs_any na ma x.2.1 y.2.1 w' (hA.kept hk) (hB.kept hk) hal
  have HSM : Hid (∀ w', Kept [] w w' → Calls Tryz.prog 75 #[nk, mk] w' (EFPost (SameF d1 d2 x.2.2.1 y.2.2.1) w')) := fun w' hk => ih d2 x.2.2.1 y.2.2.1 nk mk w' (hK.kept d1 hk) (hM.kept d2 hk) (by unfold bulkN at hb; omega)
  obtain ⟨a1, c1, rfl⟩ := hA.form
  obtain ⟨a2, c2, rfl⟩ := hK.form
  obtain ⟨a3, c3, rfl⟩ := hB.form
  obtain ⟨a4, c4, rfl⟩ := hM.form
  have HDEF : Hid (SameNd x y ↔ (x.1 = y.1 ∧ x.2.1 = y.2.1 ∧ x.2.2.2 = y.2.2.2 ∧ SameF d1 d2 x.2.2.1 y.2.2.1)) := Iff.rfl
  clear hA hK hB hM hb hal ih
  generalize SameNd x y = G at *
  generalize SameF d1 d2 x.2.2.1 y.2.2.1 = H at *
  generalize x.2.1.length = n1 at *
  generalize y.2.1.length = n3 at *
  generalize glen d1 x.2.2.1 = n2 at *
  generalize glen d2 y.2.2.1 = n4 at *
  generalize x.2.1 = al at *
  generalize y.2.1 = bl at *
  generalize x.1 = nm at *
  generalize y.1 = mm at *
  generalize x.2.2.2 = tx at *
  generalize y.2.2.2 = ty at *
  have hk1 : Kept [] w ((w.alloc (.cells #[.string ⟨nm.toArray⟩, .slice a1 n1 c1, .slice a2 n2 c2, .string ⟨tx.toArray⟩] 42)).alloc (.cells #[.string ⟨mm.toArray⟩, .slice a3 n3 c3, .slice a4 n4 c4, .string ⟨ty.toArray⟩] 42)) := ((Kept.refl [] w).alloc _).alloc _
  have g0 : ((w.alloc (.cells #[.string ⟨nm.toArray⟩, .slice a1 n1 c1, .slice a2 n2 c2, .string ⟨tx.toArray⟩] 42)).alloc (.cells #[.string ⟨mm.toArray⟩, .slice a3 n3 c3, .slice a4 n4 c4, .string ⟨ty.toArray⟩] 42)).heap[w.heap.size]? = some (.cells #[.string ⟨nm.toArray⟩, .slice a1 n1 c1, .slice a2 n2 c2, .string ⟨tx.toArray⟩] 42 (0, 0)) := (((Kept.refl [] (w.alloc _)).alloc _).block _ (by simp) (by simp)).trans (heap_alloc_new w _)
  have g1 : ((w.alloc (.cells #[.string ⟨nm.toArray⟩, .slice a1 n1 c1, .slice a2 n2 c2, .string ⟨tx.toArray⟩] 42)).alloc (.cells #[.string ⟨mm.toArray⟩, .slice a3 n3 c3, .slice a4 n4 c4, .string ⟨ty.toArray⟩] 42)).heap[w.heap.size + 1]? = some (.cells #[.string ⟨mm.toArray⟩, .slice a3 n3 c3, .slice a4 n4 c4, .string ⟨ty.toArray⟩] 42 (0, 0)) := by
    have h := heap_alloc_new (w.alloc (.cells #[.string ⟨nm.toArray⟩, .slice a1 n1 c1, .slice a2 n2 c2, .string ⟨tx.toArray⟩] 42)) (.cells #[.string ⟨mm.toArray⟩, .slice a3 n3 c3, .slice a4 n4 c4, .string ⟨ty.toArray⟩] 42)
    simpa using h
  have HG0 : Hid _ := g0
  have HG1 : Hid _ := g1
  clear g0 g1
  by_cases h1 : nm = mm
  · subst h1
    by_cases h3 : tx = ty
    · subst h3
      go_enter Tryz.func109, Tryz.ntmps109
      go_wp2_with fail
      refine (HEQ.out _ hk1).mono ?_
      rintro e w1 ⟨r, rfl, hr, hk2⟩
      have e0 := (hk2.block w.heap.size (by simp; omega) (by simp)).trans HG0.out
      have e1 := (hk2.block (w.heap.size + 1) (by simp) (by simp)).trans HG1.out
      have q0 : w1.cell? ⟨w.heap.size, 2, none⟩ = some (.slice a2 n2 c2) := by unfold World.cell?; rw [e0]; rfl
      have q1 : w1.cell? ⟨w.heap.size + 1, 2, none⟩ = some (.slice a4 n4 c4) := by unfold World.cell?; rw [e1]; rfl
      have HR : Hid _ := hr
      clear e0 e1 hr
      cases r with
      | false =>
        go_wp2_with fail
        go_ret
        exact ⟨false, rfl, ⟨fun h => by simp at h, fun h => HR.out.2 (HDEF.out.1 h).2.1⟩, hk1.trans hk2⟩
      | true =>
        go_wp2_with fail
        refine (HSM.out _ (hk1.trans hk2)).mono ?_
        rintro e w2 ⟨r, rfl, hr, hk3⟩
        have HR2 : Hid _ := hr
        clear hr
        go_wp2_with fail
        go_ret
        exact ⟨r, rfl, ⟨fun h => HDEF.out.2 ⟨by simp, HR.out.1 (by simp), by simp, HR2.out.1 h⟩, fun h => HR2.out.2 (HDEF.out.1 h).2.2.2⟩, (hk1.trans hk2).trans hk3⟩
    · have hne : (tx == ty) = false := by simpa using h3
      have HNE : Hid (¬ G) := fun h => h3 (HDEF.out.1 h).2.2.1
      clear h3
      go_enter Tryz.func109, Tryz.ntmps109
      go_wp2_with fail
      go_ret
      exact ⟨false, rfl, ⟨fun h => by simp at h, fun h => absurd h HNE.out⟩, hk1⟩
  · have hne : (nm == mm) = false := by simpa using h1
    have HNE : Hid (¬ G) := fun h => h1 (HDEF.out.1 h).1
    clear h1
    go_enter Tryz.func109, Tryz.ntmps109
    go_wp2_with fail
    go_ret
    exact ⟨false, rfl, ⟨fun h => by simp at h, fun h => absurd h HNE.out⟩, hk1⟩
set_option maxRecDepth 100000 in
set_option maxHeartbeats 2000000 in
theorem equalFunc_ne (a1 a2 : Option Addr) (c1 c2 n1 n2 : Nat) (w : World) (hn : ¬ n1 = n2) :
    Calls Tryz.prog 108 #[.slice a1 n1 c1, .slice a2 n2 c2, .func (.func 109) #[] #[]] w (EFPost (n1 = n2) w) := by
  have hne : ((n1 : Int) != (n2 : Int)) = true := by simp; omega
  have HNE : Hid (¬ n1 = n2) := hn
  clear hn
  go_enter Tryz.func108, Tryz.ntmps108
  go_wp2_with fail
  go_ret
  exact ⟨false, rfl, ⟨fun h => by simp at h, fun h => absurd h HNE.out⟩, Kept.refl _ _⟩
set_option maxRecDepth 100000 in
set_option maxHeartbeats 2000000 in
theorem equalFunc_len (a1 a2 : Option Addr) (c1 c2 n1 n2 : Nat) (w : World) (hz : n1 = 0 ∨ n2 = 0) :
    Calls Tryz.prog 108 #[.slice a1 n1 c1, .slice a2 n2 c2, .func (.func 109) #[] #[]] w (EFPost (n1 = n2) w) := by
  by_cases hn : n1 = n2
  · have h0 : n1 = 0 := by omega
    subst hn h0
    go_enter Tryz.func108, Tryz.ntmps108
    go_wp2_with fail
    go_loopg [17] 0 (fun g x wr => g = 0 ∧ wr = w ∧ x = .int .i64 0)
    case atStart => exact ⟨rfl, rfl, rfl⟩
    case round =>
      obtain ⟨rfl, rfl, rfl⟩ := hrel
      go_wp2_with fail
      go_ret
      exact ⟨true, rfl, by simp, Kept.refl _ _⟩
  · exact equalFunc_ne a1 a2 c1 c2 n1 n2 w hn
set_option maxRecDepth 100000 in
set_option maxHeartbeats 4000000 in
theorem equalFunc_any (d1 d2 : Nat) (ih : SameC d1) (l : List (GN d1)) (m : List (GN d2)) (a1 a2 : Option Addr) (c1 c2 : Nat) (w : World) (hlen : l.length = m.length) (hll : l.length ≤ 1099511627776)
    (hc1 : ∀ i (h : i < l.length), ∃ g o, a1 = some ⟨g, o, none⟩ ∧ LiesN (Lies d1 w) w g (o + i * 4) l[i]) (hc2 : ∀ i (h : i < m.length), ∃ g o, a2 = some ⟨g, o, none⟩ ∧ LiesN (Lies d2 w) w g (o + i * 4) m[i]) (hb : ∀ n ∈ l, bulkN (bulkF d1) n ≤ 1099511627776) :
    Calls Tryz.prog 108 #[.slice a1 l.length c1, .slice a2 l.length c2, .func (.func 109) #[] #[]] w (EFPost (SameL d1 d2 (SameF d1 d2) l m) w) := by
  have HC1 : Hid _ := hc1
  have HC2 : Hid _ := hc2
  have HB : Hid _ := hb
  have HLEN : Hid _ := hlen
  clear hc1 hc2 hb hlen
  go_enter Tryz.func108, Tryz.ntmps108
  go_wp2_with fail
  go_loopg [17] l.length (fun g x wr => ∃ k : Nat, k ≤ l.length ∧ g = l.length - k ∧ x = .int .i64 (k : Int) ∧ Kept [] w wr ∧ ∀ i (h1 : i < l.length) (h2 : i < m.length), i < k → SameNd l[i] m[i])
  case atStart => exact ⟨0, by omega, rfl, rfl, Kept.refl _ _, by omega⟩
  case round =>
    obtain ⟨k, hk, hgk, rfl, hkept, hno⟩ := hrel
    have HG : Hid _ := hgk
    have HNO : Hid _ := hno
    clear hgk hno
    by_cases hlt : k < l.length
    · have hlt2 : k < m.length := by rw [← HLEN.out]; exact hlt
      have hlt' : (k : Int) < (l.length : Int) := by omega
      have hge : (0 : Int) ≤ (k : Int) := by omega
      obtain ⟨g1, o1, rfl, hn1⟩ := HC1.out k hlt
      obtain ⟨g2, o2, rfl, hn2⟩ := HC2.out k hlt2
      obtain ⟨av1, kv1, e0, e1, e2, e3, hA1, hK1⟩ := hn1
      obtain ⟨av2, kv2, p0, p1, p2, p3, hA2, hK2⟩ := hn2
      have i0 := cell_kept hkept e0
      have i1 := cell_kept hkept e1
      have i2 := cell_kept hkept e2
      have i3 := cell_kept hkept e3
      have j0 := cell_kept hkept p0
      have j1 := cell_kept hkept p1
      have j2 := cell_kept hkept p2
      have j3 := cell_kept hkept p3
      have HSN : Hid (∀ w', Kept [] w w' → Calls Tryz.prog 109 #[.agg #[.string ⟨(l[k]).1.toArray⟩, av1, kv1, .string ⟨(l[k]).2.2.2.toArray⟩], .agg #[.string ⟨(m[k]).1.toArray⟩, av2, kv2, .string ⟨(m[k]).2.2.2.toArray⟩]] w' (EFPost (SameNd l[k] m[k]) w')) := fun w' hk' =>
        sameNode_any d1 d2 ih l[k] m[k] av1 kv1 av2 kv2 w' (hA1.kept hk') (hK1.kept d1 hk') (hA2.kept hk') (hK2.kept d2 hk') (HB.out _ (List.getElem_mem hlt))
      have HYES : Hid (SameNd l[k] m[k] → ∀ i (h1 : i < l.length) (h2 : i < m.length), i < k + 1 → SameNd l[i] m[i]) := fun h i h1 h2 hi => by
        by_cases hik : i = k
        · subst hik
          exact h
        · exact HNO.out i h1 h2 (by omega)
      have HNOT : Hid (¬ SameNd l[k] m[k] → ¬ SameL d1 d2 (SameF d1 d2) l m) := fun h hs => h (hs.get k hlt hlt2)
      obtain ⟨b1, q1, rfl⟩ := hA1.form
      obtain ⟨b2, q2, rfl⟩ := hK1.form
      obtain ⟨b3, q3, rfl⟩ := hA2.form
      obtain ⟨b4, q4, rfl⟩ := hK2.form
      clear hA1 hK1 hA2 hK2 e0 e1 e2 e3 p0 p1 p2 p3
      generalize SameNd l[k] m[k] = G at *
      generalize (l[k]).2.1.length = y1 at *
      generalize (m[k]).2.1.length = y3 at *
      generalize glen d1 (l[k]).2.2.1 = y2 at *
      generalize glen d2 (m[k]).2.2.1 = y4 at *
      generalize (l[k]).1 = nm at *
      generalize (m[k]).1 = mm at *
      generalize (l[k]).2.2.2 = tx at *
      generalize (m[k]).2.2.2 = ty at *
      have hka : Kept [] wr (wr.alloc (.cells #[.string ⟨nm.toArray⟩, .slice b1 y1 q1, .slice b2 y2 q2, .string ⟨tx.toArray⟩] 42)) := (Kept.refl [] wr).alloc _
      have k0 := cell_kept hka j0
      have k1 := cell_kept hka j1
      have k2 := cell_kept hka j2
      have k3 := cell_kept hka j3
      go_wp2_with fail
      refine (HSN.out _ ((hkept.alloc _).alloc _)).mono ?_
      rintro e w2 ⟨r, rfl, hr, hk2⟩
      have hk3 : Kept [] w w2 := ((hkept.alloc _).alloc _).trans hk2
      have HR : Hid _ := hr
      clear hr
      cases r with
      | true =>
        go_wp2_with fail
        go_roundg (l.length - (k + 1))
        case measure => rw [HG.out]; omega
        case rel => exact ⟨k + 1, by omega, rfl, rfl, hk3, HYES.out (HR.out.1 (by simp))⟩
      | false =>
        go_wp2_with fail
        go_ret
        exact ⟨false, rfl, ⟨fun h => by simp at h, fun h => absurd h (HNOT.out (fun hG => by have := HR.out.2 hG; simp at this))⟩, hk3⟩
    · have hlt' : ((k : Int) < (l.length : Int)) = False := by simp; omega
      have hs : SameL d1 d2 (SameF d1 d2) l m := sameL_mk HLEN.out (fun i h1 h2 => HNO.out i h1 h2 (by omega))
      have HS : Hid _ := hs
      clear hs
      go_wp2_with fail
      go_ret
      exact ⟨true, rfl, ⟨fun _ => HS.out, fun _ => rfl⟩, hkept⟩
set_option maxHeartbeats 1000000 in
theorem same_by (v1 v2 : Value) (G : Prop) (w : World) (h1 : ∃ a n c, v1 = .slice a n c) (h2 : ∃ a n c, v2 = .slice a n c) (h : Calls Tryz.prog 108 #[v1, v2, .func (.func 109) #[] #[]] w (EFPost G w)) :
    Calls Tryz.prog 75 #[v1, v2] w (EFPost (G) w) := by
  obtain ⟨a1, n1, c1, rfl⟩ := h1
  obtain ⟨a2, n2, c2, rfl⟩ := h2
  have HH : Hid _ := h
  clear h
  go_enter Tryz.func75, Tryz.ntmps75
  go_wp2_with fail
  refine Calls.mono HH.out ?_
  rintro e w1 ⟨r, rfl, hr, hk⟩
  have HR : Hid _ := hr
  clear hr
  go_wp2_with fail
  go_ret
  exact ⟨r, rfl, HR.out, hk⟩
theorem sameC_any : ∀ d1, SameC d1
  | 0 => by
    intro d2 f g v1 v2 w h1 h2 _
    obtain ⟨a1, c1, rfl⟩ := h1
    obtain ⟨a2, c2, rfl⟩ := h2.form
    refine same_by _ _ _ w ⟨_, _, _, rfl⟩ ⟨_, _, _, rfl⟩ ((equalFunc_len a1 a2 c1 c2 0 (glen d2 g) w (.inl rfl)).mono ?_)
    rintro e w' ⟨r, h3, h4, h5⟩
    exact ⟨r, h3, h4.trans ⟨fun h => h.symm, fun h => Eq.symm h⟩, h5⟩
  | d1 + 1 => by
    intro d2 f g v1 v2 w h1 h2 hb
    cases d2 with
    | zero =>
      obtain ⟨a1, c1, rfl⟩ := h1.form
      obtain ⟨a2, c2, rfl⟩ := h2
      exact same_by _ _ _ w ⟨_, _, _, rfl⟩ ⟨_, _, _, rfl⟩ (equalFunc_len a1 a2 c1 c2 (glen (d1 + 1) f) 0 w (.inr rfl))
    | succ d2 =>
      by_cases hlen : glen (d1 + 1) f = glen (d2 + 1) g
      · obtain ⟨a1, c1, rfl, hc1⟩ := h1
        obtain ⟨a2, c2, rfl, hc2⟩ := h2
        have hl : (gnodes d1 f).length = (gnodes d2 g).length := hlen
        rw [← hl]
        exact same_by _ _ _ w ⟨_, _, _, rfl⟩ ⟨_, _, _, rfl⟩ (equalFunc_any d1 d2 (sameC_any d1) (gnodes d1 f) (gnodes d2 g) a1 a2 c1 c2 w hl (Nat.le_trans (bulkF_len f) hb) hc1 hc2 (fun n hn => Nat.le_trans (bulkF_mem hn) hb))
      · obtain ⟨a1, c1, rfl⟩ := h1.form
        obtain ⟨a2, c2, rfl⟩ := h2.form
        refine same_by _ _ _ w ⟨_, _, _, rfl⟩ ⟨_, _, _, rfl⟩ ((equalFunc_ne a1 a2 c1 c2 (glen (d1 + 1) f) (glen (d2 + 1) g) w hlen).mono ?_)
        rintro e w' ⟨r, h3, h4, h5⟩
        exact ⟨r, h3, h4.trans ⟨fun h => absurd h hlen, fun h => absurd h.len hlen⟩, h5⟩
end Go.Proofs.YtlpmjpmefdpcmaaGreatDoor
