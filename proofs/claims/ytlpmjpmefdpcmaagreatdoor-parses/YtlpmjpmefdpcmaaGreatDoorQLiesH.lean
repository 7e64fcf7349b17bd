import Derived.Test.YtlpmjpmefdpcmaaGreatDoorQLies
/- How deep a tree is, by levels that are left to look at. No function of the program in it. -/
namespace Scrub
/-- A list that is left to look at, and how many elements it stands within. -/
abbrev Lvl := (Σ d : Nat, GF d) × Nat × Go.Value
def nodeDeep (d win : Nat) (n : GN d) : Bool := decide (12 < win + (depthF d n.2.2.1 + (if n.1 = [] then 0 else 1)))
def deepI (x : Lvl) : Bool := decide (12 < x.2.1 + depthF x.1.1 x.1.2)
def lvSize (ls : List Lvl) : Nat := ls.foldr (fun x m => sizeF x.1.1 x.1.2 + 1 + m) 0
def kidsSize (d : Nat) (l : List (GN d)) : Nat := l.foldr (fun n m => sizeF d n.2.2.1 + 1 + m) 0
theorem lvSize_append (a b : List Lvl) : lvSize (a ++ b) = lvSize a + lvSize b := by
  induction a with
  | nil => simp [lvSize]
  | cons x t ih =>
    show sizeF x.1.1 x.1.2 + 1 + lvSize (t ++ b) = sizeF x.1.1 x.1.2 + 1 + lvSize t + lvSize b
    omega
theorem lvSize_len (ls : List Lvl) : ls.length ≤ lvSize ls := by
  induction ls with
  | nil => exact Nat.le_refl _
  | cons x t ih =>
    show t.length + 1 ≤ sizeF x.1.1 x.1.2 + 1 + lvSize t
    omega
theorem kidsSize_eq (d : Nat) (f : GF (d + 1)) : sizeF (d + 1) f = kidsSize d (gnodes d f) := rfl
theorem sizeF_le : ∀ (d : Nat) (f : GF d), sizeF d f ≤ bulkF d f
  | 0, _ => Nat.le_refl _
  | d + 1, f => by
    show (gnodes d f).foldr (fun n m => sizeF d n.2.2.1 + 1 + m) 0 ≤ (gnodes d f).foldr (fun n m => bulkN (bulkF d) n + m) 0
    generalize gnodes d f = l
    induction l with
    | nil => exact Nat.le_refl _
    | cons a t ih =>
      have h1 := sizeF_le d a.2.2.1
      show sizeF d a.2.2.1 + 1 + t.foldr (fun n m => sizeF d n.2.2.1 + 1 + m) 0 ≤ bulkN (bulkF d) a + t.foldr (fun n m => bulkN (bulkF d) n + m) 0
      unfold bulkN
      unfold bulkN at ih
      omega
theorem deep_nodes (d : Nat) (f : GF (d + 1)) (win : Nat) (hw : win ≤ 12) : decide (12 < win + depthF (d + 1) f) = (gnodes d f).any (nodeDeep d win) := by
  show decide (12 < win + (gnodes d f).foldr (fun n m => max (depthF d n.2.2.1 + (if n.1 = [] then 0 else 1)) m) 0) = _
  generalize gnodes d f = l
  induction l with
  | nil => exact decide_eq_false (by simp; exact hw)
  | cons a t ih =>
    rw [List.any_cons, ← ih]
    show decide (12 < win + max (depthF d a.2.2.1 + (if a.1 = [] then 0 else 1)) (t.foldr (fun n m => max (depthF d n.2.2.1 + (if n.1 = [] then 0 else 1)) m) 0)) = _
    unfold nodeDeep
    generalize depthF d a.2.2.1 + (if a.1 = [] then 0 else 1) = p
    generalize t.foldr (fun n m => max (depthF d n.2.2.1 + (if n.1 = [] then 0 else 1)) m) 0 = q
    rw [Bool.eq_iff_iff]
    simp
    omega
theorem depth_none : ∀ (d : Nat) (f : GF d), glen d f = 0 → depthF d f = 0
  | 0, _, _ => rfl
  | d + 1, f, h => by
    have h1 : (gnodes d f).length = 0 := h
    have h2 := List.eq_nil_of_length_eq_zero h1
    show (gnodes d f).foldr (fun n m => max (depthF d n.2.2.1 + (if n.1 = [] then 0 else 1)) m) 0 = 0
    rw [h2]
    rfl
end Scrub
namespace Go.Proofs.YtlpmjpmefdpcmaaGreatDoor
open Go.RowKit Scrub Go.Shelf
def lvCells (ls : List Lvl) : List Value := ls.flatMap fun x => [x.2.2, .int .i64 (x.2.1 : Int)]
theorem lvCells_length (ls : List Lvl) : (lvCells ls).length = ls.length * 2 := by
  induction ls with
  | nil => rfl
  | cons a t ih => simp [lvCells] at ih ⊢; omega
theorem lvCells_snoc (ls : List Lvl) (x : Lvl) : lvCells (ls ++ [x]) = lvCells ls ++ [x.2.2, .int .i64 (x.2.1 : Int)] := by simp [lvCells]
theorem row_pop {w : World} {base : Nat} {e : TypeId} {size n cap g : Nat} {xs ys : List Value} (h : w.ownsRow base e size (.slice (some ⟨g, 0, none⟩) (n + 1) cap) (n + 1) (xs ++ ys)) (hy : ys.length = size) : w.ownsRow base e size (.slice (some ⟨g, 0, none⟩) n cap) n xs := by
  obtain ⟨h1, h2⟩ := h
  have hx : xs.length = n * size := by
    rw [List.length_append, hy, Nat.add_mul, Nat.one_mul] at h1
    omega
  refine ⟨hx, ?_⟩
  rcases h2 with ⟨h2, _⟩ | ⟨g', cap', cur, hv, hb, hg, hnc, hcm, hcs, htk⟩
  · cases h2
  · injection hv with e1 e2 e3
    injection e1 with e1
    injection e1 with e1
    subst e1 e3
    refine .inr ⟨g, cap, cur, rfl, hb, hg, by omega, hcm, hcs, ?_⟩
    have := congrArg (List.take (n * size)) htk
    rw [List.take_take, Nat.min_eq_left (Nat.mul_le_mul_right _ (by omega)), ← hx, List.take_left' rfl] at this
    rw [hx] at this
    exact this
/-- The levels that are left: a list of the call's own, of lists that lie in w. -/
def LvInv (w : World) (items : List Lvl) (lv : Value) (wr : World) : Prop :=
  wr.ownsRow w.heap.size 139 2 lv items.length (lvCells items) ∧ Kept [] w wr ∧ ∀ x ∈ items, Lies x.1.1 w x.2.2 x.1.2 ∧ x.2.1 ≤ 12 ∧ bulkF x.1.1 x.1.2 ≤ 1099511627776
theorem LvInv.made (w : World) (d : Nat) (f : GF d) (v : Value) (h : Lies d w v f) (hb : bulkF d f ≤ 1099511627776) : LvInv w [(⟨d, f⟩, 0, v)] (.slice (some ⟨w.heap.size, 0, none⟩) 1 1) (w.alloc (.cells #[v, .int .i64 0] 139)) := by
  refine ⟨⟨rfl, .inr ⟨w.heap.size, 1, #[v, .int .i64 0], rfl, Nat.le_refl _, heap_alloc_new w _, by simp, by unfold maxLen; omega, rfl, rfl⟩⟩, (Kept.refl _ _).alloc _, ?_⟩
  intro x hx
  simp at hx
  subst hx
  exact ⟨h, by simp, hb⟩
theorem LvInv.kept {w wr wr' : World} {items : List Lvl} {lv : Value} (h : LvInv w items lv wr) (hk : Kept [] wr wr') : LvInv w items lv wr' := ⟨ownsRow_kept h.1 hk (by simp), h.2.1.trans hk, h.2.2⟩
end Go.Proofs.YtlpmjpmefdpcmaaGreatDoor
/- Two trees of the same events are the same. No function of the program in it. -/
namespace Go.Proofs.YtlpmjpmefdpcmaaGreatDoor
open Go.RowKit Scrub Go.Shelf
/-- The same trees, whatever their depths are told as. -/
def SameL (d1 d2 : Nat) (S : GF d1 → GF d2 → Prop) : List (GN d1) → List (GN d2) → Prop
  | [], [] => True
  | x :: l, y :: m => (x.1 = y.1 ∧ x.2.1 = y.2.1 ∧ x.2.2.2 = y.2.2.2 ∧ S x.2.2.1 y.2.2.1) ∧ SameL d1 d2 S l m
  | _, _ => False
def SameF : (d1 d2 : Nat) → GF d1 → GF d2 → Prop
  | 0, d2, _, g => glen d2 g = 0
  | d1 + 1, 0, f, _ => glen (d1 + 1) f = 0
  | d1 + 1, d2 + 1, f, g => SameL d1 d2 (SameF d1 d2) (gnodes d1 f) (gnodes d2 g)
theorem SameL.len {d1 d2 : Nat} {S : GF d1 → GF d2 → Prop} : ∀ {l : List (GN d1)} {m : List (GN d2)}, SameL d1 d2 S l m → l.length = m.length
  | [], [], _ => rfl
  | _ :: l, _ :: m, h => by simp [SameL.len (l := l) (m := m) h.2]
  | [], _ :: _, h => h.elim
  | _ :: _, [], h => h.elim
theorem SameL.get {d1 d2 : Nat} {S : GF d1 → GF d2 → Prop} : ∀ {l : List (GN d1)} {m : List (GN d2)}, SameL d1 d2 S l m → ∀ i (h1 : i < l.length) (h2 : i < m.length), (l[i]).1 = (m[i]).1 ∧ (l[i]).2.1 = (m[i]).2.1 ∧ (l[i]).2.2.2 = (m[i]).2.2.2 ∧ S (l[i]).2.2.1 (m[i]).2.2.1
  | [], [], _, i, h1, _ => by simp at h1
  | _ :: l, _ :: m, h, 0, _, _ => h.1
  | _ :: l, _ :: m, h, i + 1, h1, h2 => SameL.get (l := l) (m := m) h.2 i (by simpa using h1) (by simpa using h2)
  | [], _ :: _, h, _, _, _ => h.elim
  | _ :: _, [], h, _, _, _ => h.elim
theorem SameF.len : ∀ {d1 d2 : Nat} {f : GF d1} {g : GF d2}, SameF d1 d2 f g → glen d1 f = glen d2 g
  | 0, _, _, _, h => by
    show 0 = _
    rw [h]
  | _ + 1, 0, _, _, h => h
  | _ + 1, _ + 1, _, _, h => SameL.len h
theorem sameF_zero : ∀ {d1 d2 : Nat} {f : GF d1} {g : GF d2}, glen d1 f = 0 → glen d2 g = 0 → SameF d1 d2 f g
  | 0, _, _, _, _, h => h
  | _ + 1, 0, _, _, h, _ => h
  | d1 + 1, d2 + 1, f, g, h1, h2 => by
    have e1 : gnodes d1 f = [] := List.eq_nil_of_length_eq_zero h1
    have e2 : gnodes d2 g = [] := List.eq_nil_of_length_eq_zero h2
    show SameL _ _ _ (gnodes d1 f) (gnodes d2 g)
    rw [e1, e2]
    trivial
/-- Nothing, or something is closed. -/
def Closes (R : List Ev) : Prop := R = [] ∨ ∃ r, R = none :: r
theorem evN_cons {d : Nat} (V : GF d → List Ev) (x : GN d) (r : List Ev) (h : Closes (evN V x ++ r)) : False := by
  unfold evN at h
  split at h
  · rcases h with h | ⟨r, h⟩ <;> simp at h
  · rcases h with h | ⟨r, h⟩ <;> simp at h
theorem sameL_of (d1 d2 : Nat) (ih : ∀ (f : GF d1) (g : GF d2) (R1 R2 : List Ev), niceF d1 f → niceF d2 g → Closes R1 → Closes R2 → evF d1 f ++ R1 = evF d2 g ++ R2 → SameF d1 d2 f g ∧ R1 = R2) :
    ∀ (l : List (GN d1)) (m : List (GN d2)) (R1 R2 : List Ev), (∀ x ∈ l, niceN (niceF d1) x) → (∀ y ∈ m, niceN (niceF d2) y) → Closes R1 → Closes R2 → l.flatMap (evN (evF d1)) ++ R1 = m.flatMap (evN (evF d2)) ++ R2 → SameL d1 d2 (SameF d1 d2) l m ∧ R1 = R2
  | [], [], R1, R2, _, _, _, _, h => ⟨trivial, by simpa using h⟩
  | [], y :: m, R1, R2, _, _, h1, _, h => by
    exfalso
    rw [List.flatMap_nil, List.nil_append, List.flatMap_cons, List.append_assoc] at h
    rw [h] at h1
    exact evN_cons _ _ _ h1
  | x :: l, [], R1, R2, _, _, _, h2, h => by
    exfalso
    rw [List.flatMap_nil, List.nil_append, List.flatMap_cons, List.append_assoc] at h
    rw [← h] at h2
    exact evN_cons _ _ _ h2
  | x :: l, y :: m, R1, R2, hl, hm, h1, h2, h => by
    obtain ⟨x1, x2, x3⟩ := hl x (by simp)
    obtain ⟨y1, y2, y3⟩ := hm y (by simp)
    have hrec := sameL_of d1 d2 ih l m R1 R2 (fun z hz => hl z (by simp [hz])) (fun z hz => hm z (by simp [hz])) h1 h2
    rw [List.flatMap_cons, List.flatMap_cons, List.append_assoc, List.append_assoc] at h
    by_cases hx : x.1 = []
    · by_cases hy : y.1 = []
      · have e1 : evN (evF d1) x = [evText x.2.2.2] := by simp [evN, hx]
        have e2 : evN (evF d2) y = [evText y.2.2.2] := by simp [evN, hy]
        rw [e1, e2] at h
        injection h with h3 h4
        injection h3 with h3
        injection h3 with h3
        obtain ⟨r1, r2⟩ := hrec h4
        obtain ⟨_, a1, a2⟩ := x1 hx
        obtain ⟨_, b1, b2⟩ := y1 hy
        exact ⟨⟨⟨by rw [hx, hy], by rw [a1, b1], h3, sameF_zero a2 b2⟩, r1⟩, r2⟩
      · exfalso
        have e1 : evN (evF d1) x = [evText x.2.2.2] := by simp [evN, hx]
        have e2 : evN (evF d2) y = evOpen y.1 y.2.1 :: (evF d2 y.2.2.1 ++ [none]) := by simp [evN, hy]
        rw [e1, e2] at h
        injection h with h3 h4
        injection h3 with h3
        cases h3
    · by_cases hy : y.1 = []
      · exfalso
        have e1 : evN (evF d1) x = evOpen x.1 x.2.1 :: (evF d1 x.2.2.1 ++ [none]) := by simp [evN, hx]
        have e2 : evN (evF d2) y = [evText y.2.2.2] := by simp [evN, hy]
        rw [e1, e2] at h
        injection h with h3 h4
        injection h3 with h3
        cases h3
      · have e1 : evN (evF d1) x ++ (l.flatMap (evN (evF d1)) ++ R1) = evOpen x.1 x.2.1 :: (evF d1 x.2.2.1 ++ (none :: (l.flatMap (evN (evF d1)) ++ R1))) := by simp [evN, hx]
        have e2 : evN (evF d2) y ++ (m.flatMap (evN (evF d2)) ++ R2) = evOpen y.1 y.2.1 :: (evF d2 y.2.2.1 ++ (none :: (m.flatMap (evN (evF d2)) ++ R2))) := by simp [evN, hy]
        rw [e1, e2] at h
        injection h with h3 h4
        injection h3 with h3
        injection h3 with h3
        obtain ⟨k1, k2⟩ := ih x.2.2.1 y.2.2.1 _ _ x3 y3 (.inr ⟨_, rfl⟩) (.inr ⟨_, rfl⟩) h4
        injection k2 with _ k2
        obtain ⟨r1, r2⟩ := hrec k2
        have h5 := Prod.mk.inj h3
        exact ⟨⟨⟨h5.1, h5.2, by rw [x2 hx, y2 hy], k1⟩, r1⟩, r2⟩
theorem evF_nil {d : Nat} {f : GF d} (h : glen d f = 0) : evF d f = [] := by
  cases d with
  | zero => rfl
  | succ d =>
    have e : gnodes d f = [] := List.eq_nil_of_length_eq_zero h
    show (gnodes d f).flatMap _ = []
    rw [e]
    rfl
theorem evF_none {d : Nat} {f : GF d} {R : List Ev} (h : Closes (evF d f ++ R)) : glen d f = 0 := by
  cases d with
  | zero => rfl
  | succ d =>
    show (gnodes d f).length = 0
    have e : evF (d + 1) f = (gnodes d f).flatMap (evN (evF d)) := rfl
    rw [e] at h
    cases hg : gnodes d f with
    | nil => rfl
    | cons x y =>
      rw [hg, List.flatMap_cons, List.append_assoc] at h
      exact (evN_cons _ _ _ h).elim
theorem same_of : ∀ (d1 d2 : Nat) (f : GF d1) (g : GF d2) (R1 R2 : List Ev), niceF d1 f → niceF d2 g → Closes R1 → Closes R2 → evF d1 f ++ R1 = evF d2 g ++ R2 → SameF d1 d2 f g ∧ R1 = R2
  | 0, d2, f, g, R1, R2, _, _, h1, _, h => by
    have h' : R1 = evF d2 g ++ R2 := h
    have hz : glen d2 g = 0 := evF_none (by rw [← h']; exact h1)
    rw [evF_nil hz] at h'
    exact ⟨hz, by simpa using h'⟩
  | d1 + 1, 0, f, g, R1, R2, _, _, _, h2, h => by
    have h' : evF (d1 + 1) f ++ R1 = R2 := h
    have hz : glen (d1 + 1) f = 0 := evF_none (by rw [h']; exact h2)
    rw [evF_nil hz] at h'
    exact ⟨hz, by simpa using h'⟩
  | d1 + 1, d2 + 1, f, g, R1, R2, hf, hg, h1, h2, h => sameL_of d1 d2 (fun f g R1 R2 a b c d e => same_of d1 d2 f g R1 R2 a b c d e) (gnodes d1 f) (gnodes d2 g) R1 R2 hf hg h1 h2 h
/-- Trees of the same events. -/
theorem sameF_of {d1 d2 : Nat} {f : GF d1} {g : GF d2} (hf : niceF d1 f) (hg : niceF d2 g) (h : evF d1 f = evF d2 g) : SameF d1 d2 f g := (same_of d1 d2 f g [] [] hf hg (.inl rfl) (.inl rfl) (by simpa using h)).1
end Go.Proofs.YtlpmjpmefdpcmaaGreatDoor
/- Trees in memory, where only draws were made. -/
namespace Go.Proofs.YtlpmjpmefdpcmaaGreatDoor
open Go.RowKit Scrub Go.Shelf
theorem LiesA.heap {w W : World} {v : Value} {al : List (List UInt8 × List UInt8)} (h : LiesA w v al) (hW : W.heap = w.heap) : LiesA W v al := by
  have hc : ∀ p, W.cell? p = w.cell? p := fun p => by unfold World.cell?; rw [hW]
  obtain ⟨a, c, h1, h2⟩ := h
  refine ⟨a, c, h1, fun i hi => ?_⟩
  obtain ⟨g, o, e, c1, c2⟩ := h2 i hi
  exact ⟨g, o, e, (hc _).trans c1, (hc _).trans c2⟩
theorem Lies.heap : ∀ {d : Nat} {w W : World} {v : Value} {f : GF d}, Lies d w v f → W.heap = w.heap → Lies d W v f
  | 0, _, _, _, _, h, _ => h
  | d + 1, w, W, v, f, h, hW => by
    have hc : ∀ p, W.cell? p = w.cell? p := fun p => by unfold World.cell?; rw [hW]
    obtain ⟨a, c, h1, h2⟩ := h
    refine ⟨a, c, h1, fun i hi => ?_⟩
    obtain ⟨g, o, e, av, kv, c0, c1, c2, c3, hA, hK⟩ := h2 i hi
    exact ⟨g, o, e, av, kv, (hc _).trans c0, (hc _).trans c1, (hc _).trans c2, (hc _).trans c3, hA.heap hW, Lies.heap hK hW⟩
theorem drewN2 (w : World) (a b : Nat) : (w.drewN a).drewN b = w.drewN (a + b) := by simp [World.drewN, Nat.add_assoc]
theorem Lies.drewN {d : Nat} {w : World} {v : Value} {f : GF d} (h : Lies d w v f) (n : Nat) : Lies d (w.drewN n) v f := h.kept d ((Kept.refl [] w).drewN n)
end Go.Proofs.YtlpmjpmefdpcmaaGreatDoor
