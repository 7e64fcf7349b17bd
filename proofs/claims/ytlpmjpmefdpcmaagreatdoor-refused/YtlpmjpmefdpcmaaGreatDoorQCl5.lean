import Derived.Test.YtlpmjpmefdpcmaaGreatDoorQCl3
import Derived.Test.YtlpmjpmefdpcmaaGreatDoorQBld4
import Derived.Test.YtlpmjpmefdpcmaaGreatDoorQTree1
import Derived.Test.YtlpmjpmefdpcmaaGreatDoorQBld2
import Derived.Deep.RegionHeld3
namespace Go.Proofs.YtlpmjpmefdpcmaaGreatDoor
open Go.RowKit Scrub Go.Shelf
/-- A node is put behind, nothing is joined. -/
def Puts (v : Value) (ns : List NodeR) (x : NodeR) (w : World) : Prop :=
  Calls Tryz.prog 107 #[v, .agg #[.string ⟨x.name.toArray⟩, x.av, x.kv, .string ⟨x.text.toArray⟩]] w
    fun e w' => ∃ v', e = .returned v' ∧ w'.ownsRow 0 42 4 v' (joinR ns x).length (cellsOf (joinR ns x)) ∧ Moved w v v' ∧ Kept v.ownBlock.toList w w'
set_option maxRecDepth 100000 in
set_option maxHeartbeats 2000000 in
theorem with_elem (v : Value) (ns : List NodeR) (x : NodeR) (w : World) (hr : w.ownsRow 0 42 4 v ns.length (cellsOf ns)) (ha : ∃ a n c, x.av = .slice a n c) (hk : ∃ a n c, x.kv = .slice a n c) (hl : ns.length < 1099511627776)
    (hx : x.name ≠ []) : Puts v ns x w := by
  unfold Puts
  obtain ⟨i0, hi, hz0, hz1, hz2⟩ := info_parts infoNode
  have ej : joinR ns x = ns ++ [x] := joinR_name ns x hx
  rw [ej]
  have ec : cellsOf (ns ++ [x]) = cellsOf ns ++ [.string ⟨x.name.toArray⟩, x.av, x.kv, .string ⟨x.text.toArray⟩] := by rw [cellsOf_append]; simp [cellsOf, NodeR.cells]
  have el : (ns ++ [x]).length = ns.length + 1 := by simp
  rw [ec, el]
  clear ec el ej
  obtain ⟨a1, n1, c1, e1⟩ := ha
  obtain ⟨a2, n2, c2, e2⟩ := hk
  rw [e1, e2]
  generalize x.text = tx at *
  have HR : Hid _ := hr
  obtain ⟨va, vc, hv⟩ := ownsRow_form hr
  clear hr
  subst hv
  generalize cellsOf ns = cs at *
  generalize x.name = nm at *
  generalize ns.length = n at *
  go_enter Tryz.func107, Tryz.ntmps107
  go_wp2_with (at_builtin; refine wpList_append_fp _ rfl _ _ 31 rfl 0 42 i0 _ 4 80 Tryz.underlying31 hi hz0 hz1 hz2 rfl (by decide) _ n cs rfl ?own _ 1 1 [.string ⟨nm.toArray⟩, .slice a1 n1 c1, .slice a2 n2 c2, .string ⟨tx.toArray⟩] rfl rfl ?news ?one ?len ?bytes (Nat.zero_le _) ?_)
  case own => exact ownsRow_kept HR.out (((Kept.refl [] w).alloc _).alloc _) (by simp)
  case news =>
    have hsz : (w.alloc (.cells #[.string ⟨nm.toArray⟩, .slice a1 n1 c1, .slice a2 n2 c2, .string ⟨tx.toArray⟩] 42)).heap.size = w.heap.size + 1 := by simp
    rw [← hsz]
    exact new_cells _ [.string ⟨nm.toArray⟩, .slice a1 n1 c1, .slice a2 n2 c2, .string ⟨tx.toArray⟩] 42
  case one => intro u hu; simp at hu; rcases hu with rfl | rfl | rfl | rfl <;> rfl
  case len => unfold maxLen; omega
  case bytes => omega
  intro v' w' hown3 hgr hmv
  have HO3 : Hid _ := hown3
  have hm : Moved w (.slice va n vc) v' := hmv.kept (((Kept.refl [] w).alloc _).alloc _).size
  have hk3 : Kept (Value.slice va n vc).ownBlock.toList w w' := ((((Kept.refl [] w).alloc _).alloc _).mono (by simp)).trans (Kept.own hgr)
  have HM : Hid _ := hm
  have HK : Hid _ := hk3
  clear hgr hmv hm hk3
  go_wp2_with fail
  go_ret
  exact ⟨v', rfl, HO3.out, HM.out, HK.out⟩
set_option maxRecDepth 100000 in
set_option maxHeartbeats 2000000 in
theorem with_none (v : Value) (ns : List NodeR) (x : NodeR) (w : World) (hr : w.ownsRow 0 42 4 v ns.length (cellsOf ns)) (ha : ∃ a n c, x.av = .slice a n c) (hk : ∃ a n c, x.kv = .slice a n c) (hl : ns.length < 1099511627776)
    (hx : x.name = []) (hns : ns = []) : Puts v ns x w := by
  unfold Puts
  obtain ⟨i0, hi, hz0, hz1, hz2⟩ := info_parts infoNode
  have ej : joinR ns x = ns ++ [x] := by rw [hns, joinR_nil]; rfl
  rw [ej]
  have ec : cellsOf (ns ++ [x]) = cellsOf ns ++ [.string ⟨x.name.toArray⟩, x.av, x.kv, .string ⟨x.text.toArray⟩] := by rw [cellsOf_append]; simp [cellsOf, NodeR.cells]
  have el : (ns ++ [x]).length = ns.length + 1 := by simp
  rw [ec, el]
  clear ec el ej
  obtain ⟨a1, n1, c1, e1⟩ := ha
  obtain ⟨a2, n2, c2, e2⟩ := hk
  rw [e1, e2]
  generalize x.text = tx at *
  rw [hx]
  subst hns
  have hr' : w.ownsRow 0 42 4 v 0 [] := hr
  clear hr
  have HR : Hid _ := hr'
  obtain ⟨va, vc, hv⟩ := ownsRow_form hr'
  clear hr'
  subst hv
  show Calls _ _ #[.slice va 0 vc, .agg #[.string ⟨#[]⟩, .slice a1 n1 c1, .slice a2 n2 c2, .string ⟨tx.toArray⟩]] w fun e w' => ∃ v', e = .returned v' ∧ w'.ownsRow 0 42 4 v' (0 + 1) ([] ++ [.string ⟨#[]⟩, .slice a1 n1 c1, .slice a2 n2 c2, .string ⟨tx.toArray⟩]) ∧ Moved w (.slice va 0 vc) v' ∧ Kept (Value.slice va 0 vc).ownBlock.toList w w'
  go_enter Tryz.func107, Tryz.ntmps107
  go_wp2_with (at_builtin; refine wpList_append_fp _ rfl _ _ 31 rfl 0 42 i0 _ 4 80 Tryz.underlying31 hi hz0 hz1 hz2 rfl (by decide) _ 0 [] rfl ?own _ 1 1 [.string ⟨#[]⟩, .slice a1 n1 c1, .slice a2 n2 c2, .string ⟨tx.toArray⟩] rfl rfl ?news ?one ?len ?bytes (Nat.zero_le _) ?_)
  case own =>
    have h0 : w.ownsRow 0 42 4 (.slice va 0 vc) 0 [] := by simpa [World.ownsRow] using HR.out
    exact ownsRow_kept h0 (((Kept.refl [] w).alloc _).alloc _) (by simp)
  case one => exact ⟨rfl, rfl, rfl, rfl⟩
  case len => unfold maxLen; omega
  intro v' w' hown3 hgr hmv
  have HO3 : Hid _ := hown3
  have hm : Moved w (.slice va 0 vc) v' := hmv.kept (((Kept.refl [] w).alloc _).alloc _).size
  have hk3 : Kept (Value.slice va 0 vc).ownBlock.toList w w' := ((((Kept.refl [] w).alloc _).alloc _).mono (by simp)).trans (Kept.own hgr)
  have HM : Hid _ := hm
  have HK : Hid _ := hk3
  clear hgr hmv hm hk3
  go_wp2_with fail
  go_ret
  exact ⟨v', rfl, HO3.out, HM.out, HK.out⟩
set_option maxRecDepth 100000 in
set_option maxHeartbeats 2000000 in
theorem with_text (v : Value) (ns : List NodeR) (x : NodeR) (w : World) (hr : w.ownsRow 0 42 4 v ns.length (cellsOf ns)) (ha : ∃ a n c, x.av = .slice a n c) (hk : ∃ a n c, x.kv = .slice a n c) (hl : ns.length < 1099511627776)
    (hx : x.name = []) (l : List NodeR) (z : NodeR) (hns : ns = l ++ [z]) (hz : z.name ≠ []) : Puts v ns x w := by
  unfold Puts
  obtain ⟨i0, hi, hz0, hz1, hz2⟩ := info_parts infoNode
  have ej : joinR ns x = ns ++ [x] := by rw [hns, joinR_elem l z x hz]
  rw [ej]
  have ec : cellsOf (ns ++ [x]) = cellsOf ns ++ [.string ⟨x.name.toArray⟩, x.av, x.kv, .string ⟨x.text.toArray⟩] := by rw [cellsOf_append]; simp [cellsOf, NodeR.cells]
  have el : (ns ++ [x]).length = ns.length + 1 := by simp
  rw [ec, el]
  clear ec el ej
  obtain ⟨a1, n1, c1, e1⟩ := ha
  obtain ⟨a2, n2, c2, e2⟩ := hk
  rw [e1, e2]
  generalize x.text = tx at *
  rw [hx]
  have hll : ns.length = l.length + 1 := by rw [hns]; simp
  rw [hll] at hr hl ⊢
  have HR : Hid _ := hr
  obtain ⟨g, vc, hv⟩ := form_pos hr
  subst hv
  have c0 := row_cell hr (by
    have := (cellsOf_get ns l.length (by omega)).1
    have e : ns[l.length]'(by omega) = z := by subst hns; simp
    rw [e] at this
    exact this)
  clear hr
  have hlt : g < w.heap.size := cell_lt c0
  generalize cellsOf ns = cs at *
  have hz' : z.name.isEmpty = false := by
    cases hzn : z.name with
    | nil => exact absurd hzn hz
    | cons _ _ => rfl
  generalize z.name = zn at *
  generalize l.length = k at *
  show Calls _ _ #[.slice (some ⟨g, 0, none⟩) (k + 1) vc, .agg #[.string ⟨#[]⟩, .slice a1 n1 c1, .slice a2 n2 c2, .string ⟨tx.toArray⟩]] w fun e w' => ∃ v', e = .returned v' ∧ w'.ownsRow 0 42 4 v' (k + 1 + 1) (cs ++ [.string ⟨#[]⟩, .slice a1 n1 c1, .slice a2 n2 c2, .string ⟨tx.toArray⟩]) ∧ Moved w (.slice (some ⟨g, 0, none⟩) (k + 1) vc) v' ∧ Kept (Value.slice (some ⟨g, 0, none⟩) (k + 1) vc).ownBlock.toList w w'
  go_enter Tryz.func107, Tryz.ntmps107
  go_wp2_with (at_builtin; refine wpList_append_fp _ rfl _ _ 31 rfl 0 42 i0 _ 4 80 Tryz.underlying31 hi hz0 hz1 hz2 rfl (by decide) _ (k + 1) cs rfl ?own _ 1 1 [.string ⟨#[]⟩, .slice a1 n1 c1, .slice a2 n2 c2, .string ⟨tx.toArray⟩] rfl rfl ?news ?one ?len ?bytes (Nat.zero_le _) ?_)
  case own => exact ownsRow_kept HR.out (((Kept.refl [] w).alloc _).alloc _) (by simp)
  case news =>
    have hsz : (w.alloc (.cells #[.string ⟨#[]⟩, .slice a1 n1 c1, .slice a2 n2 c2, .string ⟨tx.toArray⟩] 42)).heap.size = w.heap.size + 1 := by simp
    rw [← hsz]
    exact new_cells _ [.string ⟨#[]⟩, .slice a1 n1 c1, .slice a2 n2 c2, .string ⟨tx.toArray⟩] 42
  case one => intro u hu; simp at hu; rcases hu with rfl | rfl | rfl | rfl <;> rfl
  case len => unfold maxLen; omega
  case bytes => omega
  intro v' w' hown3 hgr hmv
  have HO3 : Hid _ := hown3
  have hm : Moved w (.slice (some ⟨g, 0, none⟩) (k + 1) vc) v' := hmv.kept (((Kept.refl [] w).alloc _).alloc _).size
  have hk3 : Kept (Value.slice (some ⟨g, 0, none⟩) (k + 1) vc).ownBlock.toList w w' := ((((Kept.refl [] w).alloc _).alloc _).mono (by simp)).trans (Kept.own hgr)
  have HM : Hid _ := hm
  have HK : Hid _ := hk3
  clear hgr hmv hm hk3
  go_wp2_with fail
  go_ret
  exact ⟨v', rfl, HO3.out, HM.out, HK.out⟩
theorem ba_app (a b : List UInt8) : (⟨a.toArray⟩ ++ ⟨b.toArray⟩ : ByteArray) = ⟨(a ++ b).toArray⟩ := by
  apply ByteArray.ext
  simp
set_option maxRecDepth 100000 in
set_option maxHeartbeats 2000000 in
theorem with_join (v : Value) (ns : List NodeR) (x : NodeR) (w : World) (hr : w.ownsRow 0 42 4 v ns.length (cellsOf ns)) (ha : ∃ a n c, x.av = .slice a n c) (hk : ∃ a n c, x.kv = .slice a n c) (hl : ns.length < 1099511627776)
    (hx : x.name = []) (l : List NodeR) (z : NodeR) (hns : ns = l ++ [z]) (hz : z.name = []) (ht : z.text.length ≤ 1099511627776) (hxt : x.text.length ≤ 1099511627776) : Puts v ns x w := by
  unfold Puts
  have ej : joinR ns x = l ++ [z.withText x.text] := by rw [hns, joinR_text l z x hx hz]
  rw [ej]
  have ec := cellsOf_setText l z x.text
  rw [← ec]
  have el : (l ++ [z.withText x.text]).length = l.length + 1 := by simp
  rw [el]
  clear ec el ej
  obtain ⟨a1, n1, c1, e1⟩ := ha
  obtain ⟨a2, n2, c2, e2⟩ := hk
  rw [e1, e2]
  rw [hx]
  have hll : ns.length = l.length + 1 := by rw [hns]; simp
  rw [hll] at hr hl
  have ez : ns[l.length]'(by omega) = z := by subst hns; simp
  obtain ⟨g, vc, hv⟩ := form_pos hr
  subst hv
  have c0 := row_cell hr (by
    have := (cellsOf_get ns l.length (by omega)).1
    rw [ez] at this
    exact this)
  have c3 := row_cell hr (by
    have := (cellsOf_get ns l.length (by omega)).2.2.2
    rw [ez] at this
    exact this)
  have cf := row_free hr (l.length * 4 + 3)
  rw [hns] at hr
  have hset : ∀ w', Kept [] w w' → (w'.setCell ⟨g, l.length * 4 + 3, none⟩ (.string ⟨(z.text ++ x.text).toArray⟩)).ownsRow 0 42 4 (.slice (some ⟨g, 0, none⟩) (l.length + 1) vc) (l.length + 1) ((cellsOf (l ++ [z])).set (l.length * 4 + 3) (.string ⟨(z.text ++ x.text).toArray⟩)) :=
    fun w' hk => own_setCell (ownsRow_kept hr hk (by simp)) _ (by rw [cellsOf_length]; simp; omega) _
  have HS : Hid _ := hset
  clear hset hr
  have hlt : g < w.heap.size := cell_lt c0
  rw [hz] at c0
  generalize z.text = zt at *
  generalize x.text = tx at *
  generalize (cellsOf (l ++ [z])).set (l.length * 4 + 3) (.string ⟨(zt ++ tx).toArray⟩) = cs at *
  clear hll ez
  generalize l.length = k at *
  show Calls _ _ #[.slice (some ⟨g, 0, none⟩) (k + 1) vc, .agg #[.string ⟨#[]⟩, .slice a1 n1 c1, .slice a2 n2 c2, .string ⟨tx.toArray⟩]] w fun e w' => ∃ v', e = .returned v' ∧ w'.ownsRow 0 42 4 v' (k + 1) cs ∧ Moved w (.slice (some ⟨g, 0, none⟩) (k + 1) vc) v' ∧ Kept (Value.slice (some ⟨g, 0, none⟩) (k + 1) vc).ownBlock.toList w w'
  go_enter Tryz.func107, Tryz.ntmps107
  go_wp2_with fail
  go_region
  go_wp2_with fail
  go_ret
  refine ⟨_, rfl, ?_, .inl rfl, ?_⟩
  · have h := HS.out w (Kept.refl [] w)
    rw [← ba_app zt tx] at h
    exact ownsRow_kept h (((Kept.refl [] _).alloc _).drew) (by simp)
  · have e : (Value.slice (some ⟨g, 0, none⟩) (k + 1) vc).ownBlock.toList = [g] := rfl
    rw [e]
    exact (((Kept.refl [g] w).setCell (p := ⟨g, k * 4 + 3, none⟩) (.inl (by simp)) _).alloc _).drew
theorem withNode_any (v : Value) (ns : List NodeR) (x : NodeR) (w : World) (hr : w.ownsRow 0 42 4 v ns.length (cellsOf ns)) (ha : ∃ a n c, x.av = .slice a n c) (hk : ∃ a n c, x.kv = .slice a n c) (hb : evBulk (evsOf ns) < 1099511627776) (hxb : evBulk x.evs < 1099511627776) : Puts v ns x w := by
  have hl := evBulk_evs ns
  by_cases hx : x.name = []
  · rcases List.eq_nil_or_concat ns with h0 | ⟨l, z, h0⟩
    · exact with_none v ns x w hr ha hk (by omega) hx h0
    · have h0' : ns = l ++ [z] := by simpa using h0
      by_cases hz : z.name = []
      · have h1 := evBulk_mem (ns := ns) (x := z) (by simp [h0'])
        rw [evs_text hz] at h1
        rw [evs_text hx] at hxb
        simp [evBulk] at h1 hxb
        exact with_join v ns x w hr ha hk (by omega) hx l z h0' hz (by omega) (by omega)
      · exact with_text v ns x w hr ha hk (by omega) hx l z h0' hz
  · exact with_elem v ns x w hr ha hk (by omega) hx
end Go.Proofs.YtlpmjpmefdpcmaaGreatDoor
namespace Go.Proofs.YtlpmjpmefdpcmaaGreatDoor
open Go.RowKit Scrub Go.Shelf
/-- What cleaning by a policy asks of the world. -/
def PreC (ev av : Value) (p : Pol) (w : World) : Prop := PolAt w ev av p ∧ GlobB w ∧ p.1.length ≤ 1099511627776 ∧ p.2.length ≤ 1099511627776
theorem PreC.kept {ev av : Value} {p : Pol} {w w' : World} (h : PreC ev av p w) (hk : Kept [] w w') : PreC ev av p w' := ⟨h.1.kept hk, h.2.1.kept hk, h.2.2⟩
/-- filter, to a depth. -/
def FilterOk (ev av : Value) (p : Pol) (d : Nat) : Prop := ∀ (f : GF d) (v : Value) (w : World), PreC ev av p w → Lies d w v f → niceF d f → bulkF d f < 1099511627776 →
  Calls Tryz.prog 74 #[.agg #[ev, av], v] w fun e w' => ∃ v' ns, e = .returned v' ∧ Left (w.heap.size + 1) w' v' ns ∧ evsOf ns = mergeE (rawF p d f) ∧ Kept [] w w'
/-- What leftOf leaves. -/
def LeftPost (p : Pol) (d : Nat) (n : GN d) (w : World) (e : Ending) (w' : World) : Prop := ∃ v' ms, e = .returned v' ∧ NodesAt w.heap.size w' v' ms ∧ evsOf ms = mergeE (rawN p (rawF p d) n) ∧ Kept [] w w'
/-- A list of one node, in a block of its own. -/
theorem nodesAt_one {lo : Nat} {w : World} (x : NodeR) (hx : NodeOk Tree w x) (hfp : ∀ k ∈ x.fp, lo ≤ k ∧ k < w.heap.size) (hlo : lo ≤ w.heap.size) :
    NodesAt lo (w.alloc (.cells #[.string ⟨x.name.toArray⟩, x.av, x.kv, .string ⟨x.text.toArray⟩] 42)) (.slice (some ⟨w.heap.size, 0, none⟩) 1 1) [x] := by
  have hb := heap_alloc_new w (.cells #[.string ⟨x.name.toArray⟩, x.av, x.kv, .string ⟨x.text.toArray⟩] 42)
  have hk : Kept [] w (w.alloc (.cells #[.string ⟨x.name.toArray⟩, x.av, x.kv, .string ⟨x.text.toArray⟩] 42)) := (Kept.refl [] w).alloc _
  refine ⟨_, _, rfl, fun i hi => ?_, fun y hy => ?_⟩
  · have : i = 0 := by simp at hi; omega
    subst this
    exact ⟨_, rfl, ⟨hlo, by simp⟩, by unfold World.cell?; rw [hb]; rfl, by unfold World.cell?; rw [hb]; rfl, by unfold World.cell?; rw [hb]; rfl, by unfold World.cell?; rw [hb]; rfl⟩
  · simp at hy
    subst hy
    have := hk.size
    exact ⟨hx.keep (fun k hk' => hk.block k (hfp k hk').2 (by simp)), fun k hk' => ⟨(hfp k hk').1, by have := (hfp k hk').2; omega⟩⟩
theorem NodesAt.mono {lo lo' : Nat} {w : World} {v : Value} {ms : List NodeR} (h : NodesAt lo w v ms) (hl : lo' ≤ lo) : NodesAt lo' w v ms := by
  obtain ⟨a, c, h1, h2, h3⟩ := h
  refine ⟨a, c, h1, fun i hi => ?_, fun x hx => ⟨(h3 x hx).1, fun k hk => ⟨Nat.le_trans hl ((h3 x hx).2 k hk).1, ((h3 x hx).2 k hk).2⟩⟩⟩
  obtain ⟨g, e, ⟨l1, l2⟩, c0⟩ := h2 i hi
  exact ⟨g, e, ⟨Nat.le_trans hl l1, l2⟩, c0⟩
theorem notEmpty {l : List UInt8} (h : l ≠ []) : l.isEmpty = false := by
  cases l with
  | nil => exact absurd rfl h
  | cons _ _ => rfl
set_option maxRecDepth 100000 in
set_option maxHeartbeats 2000000 in
theorem left_text (ev av : Value) (p : Pol) (d : Nat) (n : GN d) (na nk : Value) (w : World) (hp : PreC ev av p w) (hA : LiesA w na n.2.1) (hK : Lies d w nk n.2.2.1) (hn : n.1 = []) (ht : n.2.2.2 ≠ []) :
    Calls Tryz.prog 106 #[.agg #[ev, av], .agg #[.string ⟨n.1.toArray⟩, na, nk, .string ⟨n.2.2.2.toArray⟩]] w (LeftPost p d n w) := by
  unfold LeftPost
  have er : mergeE (rawN p (rawF p d) n) = [evText n.2.2.2] := by rw [rawN, if_pos hn]; rfl
  rw [er, hn]
  obtain ⟨a1, c1, rfl⟩ := hp.1.1.form
  obtain ⟨a2, c2, rfl⟩ := hp.1.2.form
  obtain ⟨a3, c3, rfl⟩ := hA.form
  obtain ⟨a4, c4, rfl⟩ := hK.form
  clear hp hA hK er
  generalize n.2.2.2 = tx at *
  generalize n.2.1.length = l3 at *
  generalize glen d n.2.2.1 = l4 at *
  go_enter Tryz.func106, Tryz.ntmps106
  go_wp2_with fail
  go_ret
  refine ⟨_, [NodeR.ofText tx], rfl, ?_, rfl, ((((Kept.refl [] w).alloc _).alloc _).alloc _)⟩
  have hsz : ((w.alloc (.cells #[.slice a1 p.1.length c1, .slice a2 p.2.length c2] 33)).alloc (.cells #[.string ⟨#[]⟩, .slice a3 l3 c3, .slice a4 l4 c4, .string ⟨tx.toArray⟩] 42)).heap.size = w.heap.size + 1 + 1 := by simp
  have h := nodesAt_one (lo := w.heap.size) (w := ((w.alloc (.cells #[.slice a1 p.1.length c1, .slice a2 p.2.length c2] 33)).alloc (.cells #[.string ⟨#[]⟩, .slice a3 l3 c3, .slice a4 l4 c4, .string ⟨tx.toArray⟩] 42))) (NodeR.ofText tx) (ofTextOk _ tx ht) (by intro k hk; simp [NodeR.ofText] at hk) (by omega)
  rw [hsz] at h
  exact h
set_option maxRecDepth 100000 in
set_option maxHeartbeats 2000000 in
theorem left_keep (ev av : Value) (p : Pol) (d : Nat) (ih : FilterOk ev av p d) (n : GN d) (na nk : Value) (w : World) (hp : PreC ev av p w) (hA : LiesA w na n.2.1) (hK : Lies d w nk n.2.2.1) (hnice : niceN (niceF d) n) (hb : bulkN (bulkF d) n < 1099511627776) (hn : n.1 ≠ []) (hc : p.1.contains n.1 = true) :
    Calls Tryz.prog 106 #[.agg #[ev, av], .agg #[.string ⟨n.1.toArray⟩, na, nk, .string ⟨n.2.2.2.toArray⟩]] w (LeftPost p d n w) := by
  unfold LeftPost
  have er : mergeE (rawN p (rawF p d) n) = evOpen n.1 (n.2.1.filter (letsAP p)) :: (mergeE (rawF p d n.2.2.1) ++ [none]) := by
    rw [rawN, if_neg hn, if_pos hc]
    show evOpen _ _ :: mergeE (rawF p d n.2.2.1 ++ [none]) = _
    rw [merge_none]
    rfl
  rw [er]
  have hbl := bulkA_len n.2.1
  have HLE : Hid (∀ w', Kept [] w w' → Calls Tryz.prog 171 #[.agg #[ev, av], .string ⟨n.1.toArray⟩] w' fun e w'' => e = .returned (.bool true) ∧ Kept [] w' w'') := fun w' hk => by
    have := letsElement_any ev av p n.1 w' (hp.kept hk).1 hp.2.2.1
    rw [hc] at this
    exact this
  have HFA : Hid (∀ w', Kept [] w w' → Calls Tryz.prog 172 #[.agg #[ev, av], na] w' fun e w'' => ∃ v', e = .returned v' ∧ AOwn w'' v' (n.2.1.filter (letsAP p)) ∧ (∀ k, v'.ownBlock = some k → w'.heap.size < k) ∧ Kept [] w' w'') := fun w' hk =>
    filterAttrs_any ev av p na n.2.1 w' (hp.kept hk).1 hp.2.2.2 (hp.kept hk).2.1 (hA.kept hk) (by unfold bulkN at hb; omega)
  have HFK : Hid (∀ w', Kept [] w w' → Calls Tryz.prog 74 #[.agg #[ev, av], nk] w' fun e w'' => ∃ v' ns, e = .returned v' ∧ Left (w'.heap.size + 1) w'' v' ns ∧ evsOf ns = mergeE (rawF p d n.2.2.1) ∧ Kept [] w' w'') := fun w' hk =>
    ih n.2.2.1 nk w' (hp.kept hk) (hK.kept d hk) hnice.2.2 (by unfold bulkN at hb; omega)
  have htx : n.2.2.2 = [] := hnice.2.1 hn
  rw [htx]
  obtain ⟨a1, c1, rfl⟩ := hp.1.1.form
  obtain ⟨a2, c2, rfl⟩ := hp.1.2.form
  obtain ⟨a3, c3, rfl⟩ := hA.form
  obtain ⟨a4, c4, rfl⟩ := hK.form
  have hne := notEmpty hn
  clear hp hA hK er hnice hb htx hbl hc ih
  generalize n.2.1.length = l3 at *
  generalize glen d n.2.2.1 = l4 at *
  generalize n.2.1.filter (letsAP p) = fal at *
  generalize mergeE (rawF p d n.2.2.1) = ME at *
  generalize n.1 = nm at *
  have hk1 : Kept [] w ((w.alloc (.cells #[.slice a1 p.1.length c1, .slice a2 p.2.length c2] 33)).alloc (.cells #[.string ⟨nm.toArray⟩, .slice a3 l3 c3, .slice a4 l4 c4, .string ⟨#[]⟩] 42)) := ((Kept.refl [] w).alloc _).alloc _
  show Calls _ _ #[.agg #[.slice a1 p.1.length c1, .slice a2 p.2.length c2], .agg #[.string ⟨nm.toArray⟩, .slice a3 l3 c3, .slice a4 l4 c4, .string ⟨#[]⟩]] w _
  have g0 : ((w.alloc (.cells #[.slice a1 p.1.length c1, .slice a2 p.2.length c2] 33)).alloc (.cells #[.string ⟨nm.toArray⟩, .slice a3 l3 c3, .slice a4 l4 c4, .string ⟨#[]⟩] 42)).heap[w.heap.size]? = some (.cells #[.slice a1 p.1.length c1, .slice a2 p.2.length c2] 33 (0, 0)) := (((Kept.refl [] (w.alloc _)).alloc _).block _ (by simp) (by simp)).trans (heap_alloc_new w _)
  have g1 : ((w.alloc (.cells #[.slice a1 p.1.length c1, .slice a2 p.2.length c2] 33)).alloc (.cells #[.string ⟨nm.toArray⟩, .slice a3 l3 c3, .slice a4 l4 c4, .string ⟨#[]⟩] 42)).heap[w.heap.size + 1]? = some (.cells #[.string ⟨nm.toArray⟩, .slice a3 l3 c3, .slice a4 l4 c4, .string ⟨#[]⟩] 42 (0, 0)) := by
    have h := heap_alloc_new (w.alloc (.cells #[.slice a1 p.1.length c1, .slice a2 p.2.length c2] 33)) (.cells #[.string ⟨nm.toArray⟩, .slice a3 l3 c3, .slice a4 l4 c4, .string ⟨#[]⟩] 42)
    simpa using h
  have hsz : ((w.alloc (.cells #[.slice a1 p.1.length c1, .slice a2 p.2.length c2] 33)).alloc (.cells #[.string ⟨nm.toArray⟩, .slice a3 l3 c3, .slice a4 l4 c4, .string ⟨#[]⟩] 42)).heap.size = w.heap.size + 2 := by simp
  have hbox : ∀ w', Kept [] ((w.alloc (.cells #[.slice a1 p.1.length c1, .slice a2 p.2.length c2] 33)).alloc (.cells #[.string ⟨nm.toArray⟩, .slice a3 l3 c3, .slice a4 l4 c4, .string ⟨#[]⟩] 42)) w' →
      (w'.cell? ⟨w.heap.size, 0, none⟩ = some (.slice a1 p.1.length c1) ∧ w'.cell? ⟨w.heap.size, 1, none⟩ = some (.slice a2 p.2.length c2)) ∧
      (w'.cell? ⟨w.heap.size + 1, 0, none⟩ = some (.string ⟨nm.toArray⟩) ∧ w'.cell? ⟨w.heap.size + 1, 1, none⟩ = some (.slice a3 l3 c3) ∧ w'.cell? ⟨w.heap.size + 1, 2, none⟩ = some (.slice a4 l4 c4) ∧ w'.cell? ⟨w.heap.size + 1, 3, none⟩ = some (.string ⟨#[]⟩)) := by
    intro w' hk
    have e0 := (hk.block w.heap.size (by rw [hsz]; omega) (by simp)).trans g0
    have e1 := (hk.block (w.heap.size + 1) (by rw [hsz]; omega) (by simp)).trans g1
    exact ⟨⟨by simp [World.cell?, e0], by simp [World.cell?, e0]⟩, by simp [World.cell?, e1], by simp [World.cell?, e1], by simp [World.cell?, e1], by simp [World.cell?, e1]⟩
  have HBX : Hid _ := hbox
  have HSZ : Hid _ := hsz
  clear hbox g0 g1 hsz
  go_enter Tryz.func106, Tryz.ntmps106
  go_wp2_with fail
  refine (HLE.out _ hk1).mono ?_
  rintro e w1 ⟨rfl, hk2⟩
  obtain ⟨⟨b0, b1⟩, b2, b3, b4, b5⟩ := HBX.out w1 hk2
  go_wp2_with fail
  have hk3 : Kept [] w w1 := hk1.trans hk2
  have hs1 := hk2.size
  rw [HSZ.out] at hs1
  go_region_held3 (fun w' => (w'.cell? ⟨w.heap.size, 0, none⟩ = some (.slice a1 p.1.length c1) ∧ w'.cell? ⟨w.heap.size, 1, none⟩ = some (.slice a2 p.2.length c2)) ∧
      (w'.cell? ⟨w.heap.size + 1, 0, none⟩ = some (.string ⟨nm.toArray⟩) ∧ w'.cell? ⟨w.heap.size + 1, 1, none⟩ = some (.slice a3 l3 c3) ∧ w'.cell? ⟨w.heap.size + 1, 2, none⟩ = some (.slice a4 l4 c4))) (first | go_keep | (refine ⟨⟨?_, ?_⟩, ?_, ?_, ?_⟩ <;> first | assumption | (simp [*]; done)))
   (first
    | (go_at_call 172; refine (HFA.out _ (by first | exact hk3.drew | exact hk3 | exact hk3.drewN _)).mono ?_; rintro e w2 ⟨v2, rfl, hao, hnb, hk4'⟩; obtain ⟨a5, c5, rfl⟩ := ownsRow_form hao; have hk4 : Kept [] w1 w2 := ((Kept.refl [] w1).drew).trans hk4'; have HAO : Hid _ := hao; have HNB : Hid _ := hnb; clear hao hnb; obtain ⟨⟨d0, d1⟩, d2, d3, d4, d5⟩ := HBX.out w2 (hk2.trans hk4))
    | (go_at_call 74; refine (HFK.out _ (by exact hk3.trans hk4)).mono ?_; rintro e w3 ⟨v3, ns, rfl, hlf, hev, hk5⟩; obtain ⟨a6, c6, rfl⟩ := ownsRow_form hlf.1; have hk6 : Kept [] w1 w3 := hk4.trans hk5; have HLF : Hid _ := hlf; have HEV : Hid _ := hev; clear hlf hev; obtain ⟨⟨f0, f1⟩, f2, f3, f4, f5⟩ := HBX.out w3 (hk2.trans hk6)))
  go_wp2_with fail
  go_ret
  have hlf := HLF.out
  have hao := HAO.out
  have hz4 := hk4.size
  have hz5 := hk5.size
  have hbnd : ∀ k ∈ (Value.slice a5 fal.length c5).ownBlock.toList ++ ((Value.slice a6 ns.length c6).ownBlock.toList ++ fpOf ns), w.heap.size ≤ k ∧ k < w3.heap.size := by
    intro k hk
    rcases List.mem_append.1 hk with h | h
    · have hk' : (Value.slice a5 fal.length c5).ownBlock = some k := Option.mem_toList.1 h
      have h1 := HNB.out k hk'
      have h2 := own_lt hao hk'
      have h3 : w1.drew.heap.size = w1.heap.size := rfl
      rw [h3] at h1
      omega
    · rcases List.mem_append.1 h with h | h
      · have hk' : (Value.slice a6 ns.length c6).ownBlock = some k := Option.mem_toList.1 h
        have h1 := hlf.2.2.1 k hk'
        have h2 := own_lt hlf.1 hk'
        omega
      · obtain ⟨y, hy, hky⟩ := List.mem_flatMap.1 h
        have := (hlf.2.2.2 y hy k hky).1
        omega
  have hx : NodeOk Tree w3 { name := nm, text := [], av := .slice a5 fal.length c5, kv := .slice a6 ns.length c6, al := fal, ev := evsOf ns, fp := (Value.slice a5 fal.length c5).ownBlock.toList ++ ((Value.slice a6 ns.length c6).ownBlock.toList ++ fpOf ns) } :=
    ⟨_, ownsRow_kept hao hk5 (by simp), Left.tree (lo := w2.heap.size + 1) hlf, rfl, fun h => absurd h hn, fun _ => rfl⟩
  refine ⟨_, [{ name := nm, text := [], av := .slice a5 fal.length c5, kv := .slice a6 ns.length c6, al := fal, ev := evsOf ns, fp := (Value.slice a5 fal.length c5).ownBlock.toList ++ ((Value.slice a6 ns.length c6).ownBlock.toList ++ fpOf ns) }], rfl, nodesAt_one _ hx hbnd (by omega), ?_, (hk3.trans hk6).alloc _⟩
  rw [evsOf_one, evs_elem hn, ← HEV.out]
set_option maxRecDepth 100000 in
set_option maxHeartbeats 2000000 in
theorem left_raw (ev av : Value) (p : Pol) (d : Nat) (n : GN d) (na nk : Value) (w : World) (hp : PreC ev av p w) (hA : LiesA w na n.2.1) (hK : Lies d w nk n.2.2.1) (hn : n.1 ≠ []) (hc : p.1.contains n.1 = false) (hk2 : kindP n.1 = 2) :
    Calls Tryz.prog 106 #[.agg #[ev, av], .agg #[.string ⟨n.1.toArray⟩, na, nk, .string ⟨n.2.2.2.toArray⟩]] w (LeftPost p d n w) := by
  unfold LeftPost
  have er : mergeE (rawN p (rawF p d) n) = [] := by rw [rawN, if_neg hn, if_neg (by rw [hc]; simp), if_pos hk2]; rfl
  rw [er]
  have HLE : Hid (∀ w', Kept [] w w' → Calls Tryz.prog 171 #[.agg #[ev, av], .string ⟨n.1.toArray⟩] w' fun e w'' => e = .returned (.bool false) ∧ Kept [] w' w'') := fun w' hk => by
    have := letsElement_any ev av p n.1 w' (hp.kept hk).1 hp.2.2.1
    rw [hc] at this
    exact this
  have HKO : Hid (∀ w', Calls Tryz.prog 169 #[.string ⟨n.1.toArray⟩] w' fun e w'' => e = .returned (.int .i64 2) ∧ w'' = w') := fun w' => by
    have h := kindOf_any ⟨n.1.toArray⟩ w'
    have e : (⟨n.1.toArray⟩ : ByteArray).data.toList = n.1 := by simp
    rw [e, hk2] at h
    exact h
  obtain ⟨a1, c1, rfl⟩ := hp.1.1.form
  obtain ⟨a2, c2, rfl⟩ := hp.1.2.form
  obtain ⟨a3, c3, rfl⟩ := hA.form
  obtain ⟨a4, c4, rfl⟩ := hK.form
  have hne := notEmpty hn
  clear hp hA hK er hc
  generalize n.2.1.length = l3 at *
  generalize glen d n.2.2.1 = l4 at *
  generalize n.1 = nm at *
  generalize n.2.2.2 = tx at *
  have hk1 : Kept [] w ((w.alloc (.cells #[.slice a1 p.1.length c1, .slice a2 p.2.length c2] 33)).alloc (.cells #[.string ⟨nm.toArray⟩, .slice a3 l3 c3, .slice a4 l4 c4, .string ⟨tx.toArray⟩] 42)) := ((Kept.refl [] w).alloc _).alloc _
  have g1 : ((w.alloc (.cells #[.slice a1 p.1.length c1, .slice a2 p.2.length c2] 33)).alloc (.cells #[.string ⟨nm.toArray⟩, .slice a3 l3 c3, .slice a4 l4 c4, .string ⟨tx.toArray⟩] 42)).heap[w.heap.size + 1]? = some (.cells #[.string ⟨nm.toArray⟩, .slice a3 l3 c3, .slice a4 l4 c4, .string ⟨tx.toArray⟩] 42 (0, 0)) := by
    have h := heap_alloc_new (w.alloc (.cells #[.slice a1 p.1.length c1, .slice a2 p.2.length c2] 33)) (.cells #[.string ⟨nm.toArray⟩, .slice a3 l3 c3, .slice a4 l4 c4, .string ⟨tx.toArray⟩] 42)
    simpa using h
  have HG1 : Hid _ := g1
  clear g1
  go_enter Tryz.func106, Tryz.ntmps106
  go_wp2_with fail
  refine (HLE.out _ hk1).mono ?_
  rintro e w1 ⟨rfl, hk3⟩
  have e1 := (hk3.block (w.heap.size + 1) (by simp) (by simp)).trans HG1.out
  have b2 : w1.cell? ⟨w.heap.size + 1, 0, none⟩ = some (.string ⟨nm.toArray⟩) := by unfold World.cell?; rw [e1]; rfl
  clear e1
  go_wp2_with fail
  refine (HKO.out _).mono ?_
  rintro e w2 ⟨rfl, rfl⟩
  go_wp2_with fail
  go_ret
  exact ⟨_, [], rfl, ⟨none, 0, rfl, by simp, by simp⟩, rfl, hk1.trans hk3⟩
set_option maxRecDepth 100000 in
set_option maxHeartbeats 2000000 in
theorem left_open (ev av : Value) (p : Pol) (d : Nat) (ih : FilterOk ev av p d) (n : GN d) (na nk : Value) (w : World) (hp : PreC ev av p w) (hA : LiesA w na n.2.1) (hK : Lies d w nk n.2.2.1) (hnice : niceN (niceF d) n) (hb : bulkN (bulkF d) n < 1099511627776) (hn : n.1 ≠ []) (hc : p.1.contains n.1 = false) (hk2 : kindP n.1 ≠ 2) :
    Calls Tryz.prog 106 #[.agg #[ev, av], .agg #[.string ⟨n.1.toArray⟩, na, nk, .string ⟨n.2.2.2.toArray⟩]] w (LeftPost p d n w) := by
  unfold LeftPost
  have er : mergeE (rawN p (rawF p d) n) = mergeE (rawF p d n.2.2.1) := by rw [rawN, if_neg hn, if_neg (by rw [hc]; simp), if_neg hk2]
  rw [er]
  have HLE : Hid (∀ w', Kept [] w w' → Calls Tryz.prog 171 #[.agg #[ev, av], .string ⟨n.1.toArray⟩] w' fun e w'' => e = .returned (.bool false) ∧ Kept [] w' w'') := fun w' hk => by
    have := letsElement_any ev av p n.1 w' (hp.kept hk).1 hp.2.2.1
    rw [hc] at this
    exact this
  have HKO : Hid (∀ w', Calls Tryz.prog 169 #[.string ⟨n.1.toArray⟩] w' fun e w'' => e = .returned (.int .i64 (kindP n.1)) ∧ w'' = w') := fun w' => by
    have h := kindOf_any ⟨n.1.toArray⟩ w'
    have e : (⟨n.1.toArray⟩ : ByteArray).data.toList = n.1 := by simp
    rw [e] at h
    exact h
  have HFK : Hid (∀ w', Kept [] w w' → Calls Tryz.prog 74 #[.agg #[ev, av], nk] w' fun e w'' => ∃ v' ns, e = .returned v' ∧ Left (w'.heap.size + 1) w'' v' ns ∧ evsOf ns = mergeE (rawF p d n.2.2.1) ∧ Kept [] w' w'') := fun w' hk =>
    ih n.2.2.1 nk w' (hp.kept hk) (hK.kept d hk) hnice.2.2 (by unfold bulkN at hb; omega)
  obtain ⟨a1, c1, rfl⟩ := hp.1.1.form
  obtain ⟨a2, c2, rfl⟩ := hp.1.2.form
  obtain ⟨a3, c3, rfl⟩ := hA.form
  obtain ⟨a4, c4, rfl⟩ := hK.form
  have hne := notEmpty hn
  clear hp hA hK er hc hnice hb ih
  generalize mergeE (rawF p d n.2.2.1) = ME at *
  generalize n.2.1.length = l3 at *
  generalize glen d n.2.2.1 = l4 at *
  generalize n.1 = nm at *
  generalize n.2.2.2 = tx at *
  have hk1 : Kept [] w ((w.alloc (.cells #[.slice a1 p.1.length c1, .slice a2 p.2.length c2] 33)).alloc (.cells #[.string ⟨nm.toArray⟩, .slice a3 l3 c3, .slice a4 l4 c4, .string ⟨tx.toArray⟩] 42)) := ((Kept.refl [] w).alloc _).alloc _
  have g0 : ((w.alloc (.cells #[.slice a1 p.1.length c1, .slice a2 p.2.length c2] 33)).alloc (.cells #[.string ⟨nm.toArray⟩, .slice a3 l3 c3, .slice a4 l4 c4, .string ⟨tx.toArray⟩] 42)).heap[w.heap.size]? = some (.cells #[.slice a1 p.1.length c1, .slice a2 p.2.length c2] 33 (0, 0)) := (((Kept.refl [] (w.alloc _)).alloc _).block _ (by simp) (by simp)).trans (heap_alloc_new w _)
  have g1 : ((w.alloc (.cells #[.slice a1 p.1.length c1, .slice a2 p.2.length c2] 33)).alloc (.cells #[.string ⟨nm.toArray⟩, .slice a3 l3 c3, .slice a4 l4 c4, .string ⟨tx.toArray⟩] 42)).heap[w.heap.size + 1]? = some (.cells #[.string ⟨nm.toArray⟩, .slice a3 l3 c3, .slice a4 l4 c4, .string ⟨tx.toArray⟩] 42 (0, 0)) := by
    have h := heap_alloc_new (w.alloc (.cells #[.slice a1 p.1.length c1, .slice a2 p.2.length c2] 33)) (.cells #[.string ⟨nm.toArray⟩, .slice a3 l3 c3, .slice a4 l4 c4, .string ⟨tx.toArray⟩] 42)
    simpa using h
  have HG0 : Hid _ := g0
  have HG1 : Hid _ := g1
  clear g0 g1
  go_enter Tryz.func106, Tryz.ntmps106
  go_wp2_with fail
  refine (HLE.out _ hk1).mono ?_
  rintro e w1 ⟨rfl, hk3⟩
  have e0 := (hk3.block w.heap.size (by simp; omega) (by simp)).trans HG0.out
  have e1 := (hk3.block (w.heap.size + 1) (by simp) (by simp)).trans HG1.out
  have b0 : w1.cell? ⟨w.heap.size, 0, none⟩ = some (.slice a1 p.1.length c1) := by unfold World.cell?; rw [e0]; rfl
  have b1 : w1.cell? ⟨w.heap.size, 1, none⟩ = some (.slice a2 p.2.length c2) := by unfold World.cell?; rw [e0]; rfl
  have b2 : w1.cell? ⟨w.heap.size + 1, 0, none⟩ = some (.string ⟨nm.toArray⟩) := by unfold World.cell?; rw [e1]; rfl
  have b3 : w1.cell? ⟨w.heap.size + 1, 2, none⟩ = some (.slice a4 l4 c4) := by unfold World.cell?; rw [e1]; rfl
  clear e0 e1
  go_wp2_with fail
  refine (HKO.out _).mono ?_
  rintro e w2 ⟨rfl, rfl⟩
  go_wp2_with fail
  refine (HFK.out _ (hk1.trans hk3)).mono ?_
  rintro e w3 ⟨v3, ns, rfl, hlf, hev, hk5⟩
  have hz := (hk1.trans hk3).size
  have HN : Hid _ := hlf.nodes
  obtain ⟨a6, c6, rfl⟩ := ownsRow_form hlf.1
  clear hlf
  go_wp2_with fail
  go_ret
  exact ⟨_, ns, rfl, NodesAt.mono (lo := w2.heap.size + 1) HN.out (by omega), hev, (hk1.trans hk3).trans hk5⟩
theorem leftOf_any (ev av : Value) (p : Pol) (d : Nat) (ih : FilterOk ev av p d) (n : GN d) (na nk : Value) (w : World) (hp : PreC ev av p w) (hA : LiesA w na n.2.1) (hK : Lies d w nk n.2.2.1) (hnice : niceN (niceF d) n) (hb : bulkN (bulkF d) n < 1099511627776) :
    Calls Tryz.prog 106 #[.agg #[ev, av], .agg #[.string ⟨n.1.toArray⟩, na, nk, .string ⟨n.2.2.2.toArray⟩]] w (LeftPost p d n w) := by
  by_cases hn : n.1 = []
  · exact left_text ev av p d n na nk w hp hA hK hn (hnice.1 hn).1
  · cases hc : p.1.contains n.1 with
    | true => exact left_keep ev av p d ih n na nk w hp hA hK hnice hb hn hc
    | false =>
      by_cases hk : kindP n.1 = 2
      · exact left_raw ev av p d n na nk w hp hA hK hn hc hk
      · exact left_open ev av p d ih n na nk w hp hA hK hnice hb hn hc hk
end Go.Proofs.YtlpmjpmefdpcmaaGreatDoor
