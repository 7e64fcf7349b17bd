import Derived.Test.YtlpmjpmefdpcmaaGreatDoorQLies
/- How deep a tree is, by levels that are left to look at. No function of the program in it. -/
namespace Scrub
/-- A list that is left to look at, and how many elements it stands within. -/
abbrev Lvl := (Σ d : Nat, GF d) × Nat × Go.Value
def nodeDeep (d win : Nat) (n : GN d) : Bool := decide (12 < win + (depthF d n.2.2.1 + (if n.1 = [] then 0 else 1)))
def deepI (x : Lvl) : Bool := decide (12 < x.2.1 + depthF x.1.1 x.1.2)
def lvSize (ls : List Lvl) : Nat := ls.foldr (fun x m => sizeF x.1.1 x.1.2 + 1 + m) 0
def kidsSize (d : Nat) (l : List (GN d)) : Nat := l.foldr (fun n m => sizeF d n.2.2.1 + 1 + m) 0
theorem lvSize_append (a b : List Lvl) : lvSize (a ++ b) = lvSize a + lvSize b := by
  induction a with
  | nil => simp [lvSize]
  | cons x t ih =>
    show sizeF x.1.1 x.1.2 + 1 + lvSize (t ++ b) = sizeF x.1.1 x.1.2 + 1 + lvSize t + lvSize b
    omega
theorem lvSize_len (ls : List Lvl) : ls.length ≤ lvSize ls := by
  induction ls with
  | nil => exact Nat.le_refl _
  | cons x t ih =>
    show t.length + 1 ≤ sizeF x.1.1 x.1.2 + 1 + lvSize t
    omega
theorem kidsSize_eq (d : Nat) (f : GF (d + 1)) : sizeF (d + 1) f = kidsSize d (gnodes d f) := rfl
theorem sizeF_le : ∀ (d : Nat) (f : GF d), sizeF d f ≤ bulkF d f
  | 0, _ => Nat.le_refl _
  | d + 1, f => by
    show (gnodes d f).foldr (fun n m => sizeF d n.2.2.1 + 1 + m) 0 ≤ (gnodes d f).foldr (fun n m => bulkN (bulkF d) n + m) 0
    generalize gnodes d f = l
    induction l with
    | nil => exact Nat.le_refl _
    | cons a t ih =>
      have h1 := sizeF_le d a.2.2.1
      show sizeF d a.2.2.1 + 1 + t.foldr (fun n m => sizeF d n.2.2.1 + 1 + m) 0 ≤ bulkN (bulkF d) a + t.foldr (fun n m => bulkN (bulkF d) n + m) 0
      unfold bulkN
      unfold bulkN at ih
      omega
theorem deep_nodes (d : Nat) (f : GF (d + 1)) (win : Nat) (hw : win ≤ 12) : decide (12 < win + depthF (d + 1) f) = (gnodes d f).any (nodeDeep d win) := by
  show decide (12 < win + (gnodes d f).foldr (fun n m => max (depthF d n.2.2.1 + (if n.1 = [] then 0 else 1)) m) 0) = _
  generalize gnodes d f = l
  induction l with
  | nil => exact decide_eq_false (by simp; exact hw)
  | cons a t ih =>
    rw [List.any_cons, ← ih]
    show decide (12 < win + max (depthF d a.2.2.1 + (if a.1 = [] then 0 else 1)) (t.foldr (fun n m => max (depthF d n.2.2.1 + (if n.1 = [] then 0 else 1)) m) 0)) = _
    unfold nodeDeep
    generalize depthF d a.2.2.1 + (if a.1 = [] then 0 else 1) = p
    generalize t.foldr (fun n m => max (depthF d n.2.2.1 + (if n.1 = [] then 0 else 1)) m) 0 = q
    rw [Bool.eq_iff_iff]
    simp
    omega
theorem depth_none : ∀ (d : Nat) (f : GF d), glen d f = 0 → depthF d f = 0
  | 0, _, _ => rfl
  | d + 1, f, h => by
    have h1 : (gnodes d f).length = 0 := h
    have h2 := List.eq_nil_of_length_eq_zero h1
    show (gnodes d f).foldr (fun n m => max (depthF d n.2.2.1 + (if n.1 = [] then 0 else 1)) m) 0 = 0
    rw [h2]
    rfl
end Scrub
namespace Go.Proofs.YtlpmjpmefdpcmaaGreatDoor
open Go.RowKit Scrub Go.Shelf
def lvCells (ls : List Lvl) : List Value := ls.flatMap fun x => [x.2.2, .int .i64 (x.2.1 : Int)]
theorem lvCells_length (ls : List Lvl) : (lvCells ls).length = ls.length * 2 := by
  induction ls with
  | nil => rfl
  | cons a t ih => simp [lvCells] at ih ⊢; omega
theorem lvCells_snoc (ls : List Lvl) (x : Lvl) : lvCells (ls ++ [x]) = lvCells ls ++ [x.2.2, .int .i64 (x.2.1 : Int)] := by simp [lvCells]
theorem row_pop {w : World} {base : Nat} {e : TypeId} {size n cap g : Nat} {xs ys : List Value} (h : w.ownsRow base e size (.slice (some ⟨g, 0, none⟩) (n + 1) cap) (n + 1) (xs ++ ys)) (hy : ys.length = size) : w.ownsRow base e size (.slice (some ⟨g, 0, none⟩) n cap) n xs := by
  obtain ⟨h1, h2⟩ := h
  have hx : xs.length = n * size := by
    rw [List.length_append, hy, Nat.add_mul, Nat.one_mul] at h1
    omega
  refine ⟨hx, ?_⟩
  rcases h2 with ⟨h2, _⟩ | ⟨g', cap', cur, hv, hb, hg, hnc, hcm, hcs, htk⟩
  · cases h2
  · injection hv with e1 e2 e3
    injection e1 with e1
    injection e1 with e1
    subst e1 e3
    refine .inr ⟨g, cap, cur, rfl, hb, hg, by omega, hcm, hcs, ?_⟩
    have := congrArg (List.take (n * size)) htk
    rw [List.take_take, Nat.min_eq_left (Nat.mul_le_mul_right _ (by omega)), ← hx, List.take_left' rfl] at this
    rw [hx] at this
    exact this
/-- The levels that are left: a list of the call's own, of lists that lie in w. -/
def LvInv (w : World) (items : List Lvl) (lv : Value) (wr : World) : Prop :=
  wr.ownsRow w.heap.size 139 2 lv items.length (lvCells items) ∧ Kept [] w wr ∧ ∀ x ∈ items, Lies x.1.1 w x.2.2 x.1.2 ∧ x.2.1 ≤ 12 ∧ bulkF x.1.1 x.1.2 ≤ 1099511627776
theorem LvInv.made (w : World) (d : Nat) (f : GF d) (v : Value) (h : Lies d w v f) (hb : bulkF d f ≤ 1099511627776) : LvInv w [(⟨d, f⟩, 0, v)] (.slice (some ⟨w.heap.size, 0, none⟩) 1 1) (w.alloc (.cells #[v, .int .i64 0] 139)) := by
  refine ⟨⟨rfl, .inr ⟨w.heap.size, 1, #[v, .int .i64 0], rfl, Nat.le_refl _, heap_alloc_new w _, by simp, by unfold maxLen; omega, rfl, rfl⟩⟩, (Kept.refl _ _).alloc _, ?_⟩
  intro x hx
  simp at hx
  subst hx
  exact ⟨h, by simp, hb⟩
theorem LvInv.kept {w wr wr' : World} {items : List Lvl} {lv : Value} (h : LvInv w items lv wr) (hk : Kept [] wr wr') : LvInv w items lv wr' := ⟨ownsRow_kept h.1 hk (by simp), h.2.1.trans hk, h.2.2⟩
end Go.Proofs.YtlpmjpmefdpcmaaGreatDoor
/- Trees in memory, where only draws were made. -/
namespace Go.Proofs.YtlpmjpmefdpcmaaGreatDoor
open Go.RowKit Scrub Go.Shelf
theorem LiesA.heap {w W : World} {v : Value} {al : List (List UInt8 × List UInt8)} (h : LiesA w v al) (hW : W.heap = w.heap) : LiesA W v al := by
  have hc : ∀ p, W.cell? p = w.cell? p := fun p => by unfold World.cell?; rw [hW]
  obtain ⟨a, c, h1, h2⟩ := h
  refine ⟨a, c, h1, fun i hi => ?_⟩
  obtain ⟨g, o, e, c1, c2⟩ := h2 i hi
  exact ⟨g, o, e, (hc _).trans c1, (hc _).trans c2⟩
theorem Lies.heap : ∀ {d : Nat} {w W : World} {v : Value} {f : GF d}, Lies d w v f → W.heap = w.heap → Lies d W v f
  | 0, _, _, _, _, h, _ => h
  | d + 1, w, W, v, f, h, hW => by
    have hc : ∀ p, W.cell? p = w.cell? p := fun p => by unfold World.cell?; rw [hW]
    obtain ⟨a, c, h1, h2⟩ := h
    refine ⟨a, c, h1, fun i hi => ?_⟩
    obtain ⟨g, o, e, av, kv, c0, c1, c2, c3, hA, hK⟩ := h2 i hi
    exact ⟨g, o, e, av, kv, (hc _).trans c0, (hc _).trans c1, (hc _).trans c2, (hc _).trans c3, hA.heap hW, Lies.heap hK hW⟩
theorem drewN2 (w : World) (a b : Nat) : (w.drewN a).drewN b = w.drewN (a + b) := by simp [World.drewN, Nat.add_assoc]
theorem Lies.drewN {d : Nat} {w : World} {v : Value} {f : GF d} (h : Lies d w v f) (n : Nat) : Lies d (w.drewN n) v f := h.kept d ((Kept.refl [] w).drewN n)
end Go.Proofs.YtlpmjpmefdpcmaaGreatDoor
