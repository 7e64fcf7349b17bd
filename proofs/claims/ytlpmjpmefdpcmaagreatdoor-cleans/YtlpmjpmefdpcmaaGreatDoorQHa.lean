import Derived.Test.YtlpmjpmefdpcmaaGreatDoorQRn
import Derived.Test.YtlpmjpmefdpcmaaGreatDoorQBld4
import Derived.Test.YtlpmjpmefdpcmaaGreatDoorQTree1
import Derived.Laws.OwnMore
import Derived.Laws.CopyOwn
/- Rows of cells in a block; lists that are handed in. -/
namespace Go.Proofs.YtlpmjpmefdpcmaaGreatDoor
open Go.RowKit Scrub Go.Shelf
theorem run_copy_k (P : Program) (w : World) (dT sT ty elem : TypeId) (k g o dLen dCap : Nat) (a : Addr) (sLen sCap : Nat) (cur : Array Value) (t : TypeId) (cs : List Value)
    (hu : P.underlying dT = some (.slice elem)) (hs : (P.info? elem).map (·.size) = some k)
    (hg : w.heap[g]? = some (.cells cur t (0, 0))) (hn : cs.length = Nat.min sLen dLen * k)
    (hsrc : ∀ j v, cs[j]? = some v → w.cell? (a.add j) = some v) (hfit : o + cs.length ≤ cur.size) (h1 : ∀ v ∈ cs, v.oneCell' = true) :
    (Builtin.copy_ #[dT, sT] ty #[.slice (some ⟨g, o, none⟩) dLen dCap, .slice (some a) sLen sCap]).run P w =
      .ok (goInt (Nat.min sLen dLen)) (w.setRow g (cur.toList.take o ++ cs ++ cur.toList.drop (o + cs.length)).toArray) := by
  have hl := run_loadCells_list (P := P) w a cs hsrc
  have hst := run_storeCells_at P g o t cs 0 cur w hg (by simpa using hfit) h1
  cases hq : P.info? elem with
  | none => simp [hq] at hs
  | some i =>
    have hi : i.size = k := by simpa [hq] using hs
    simp [Builtin.copy_, run_underlying hu, Builtin.lenOf, Builtin.firstCells, sizeOf, typeInfo, hq, hi, ← hn, hl, hst]
theorem run_copy_k0 (P : Program) (w : World) (dT sT ty elem : TypeId) (k : Nat) (d a : Option Addr) (dLen dCap sCap : Nat) (hu : P.underlying dT = some (.slice elem)) (hs : (P.info? elem).map (·.size) = some k) :
    (Builtin.copy_ #[dT, sT] ty #[.slice d dLen dCap, .slice a 0 sCap]).run P w = .ok (goInt 0) w := by
  have h0 : Nat.min 0 dLen = 0 := Nat.zero_min _
  cases hq : P.info? elem with
  | none => simp [hq] at hs
  | some i =>
    have hl : ∀ (x : Addr), (loadCells x 0).run P w = .ok #[] w := fun x => by simpa using run_loadCells_list (P := P) w x [] (by simp)
    cases d <;> cases a <;> simp [Builtin.copy_, run_underlying hu, Builtin.lenOf, Builtin.firstCells, sizeOf, typeInfo, hq, h0, storeCells, hl]
theorem block_set {w : World} {b : Nat} {cs : List Value} {t : TypeId} (h : w.heap[b]? = some (.cells cs.toArray t (0, 0))) (i : Nat) (u : Value) : (w.setCell ⟨b, i, none⟩ u).heap[b]? = some (.cells (cs.set i u).toArray t (0, 0)) := by
  simp [World.setCell, Array.getElem?_modify, h]
/-- Rows of cells, one behind the other, fill block b. -/
def RowsAt (w : World) (b : Nat) (t : TypeId) (R : List (List Value)) : Prop := w.heap[b]? = some (.cells R.flatten.toArray t (0, 0))
theorem RowsAt.lt {w : World} {b : Nat} {t : TypeId} {R : List (List Value)} (h : RowsAt w b t R) : b < w.heap.size := (Array.getElem?_eq_some_iff.1 h).1
theorem RowsAt.kept {w w' : World} {S : List Nat} {b : Nat} {t : TypeId} {R : List (List Value)} (h : RowsAt w b t R) (hk : Kept S w w') (hb : b ∉ S) : RowsAt w' b t R := (hk.block b h.lt hb).trans h
theorem flat_set2 : ∀ (R : List (List Value)) (i : Nat) (a b : Value), (∀ r ∈ R, r.length = 2) → ((R.flatten.set (i * 2) a).set (i * 2 + 1) b) = (R.set i [a, b]).flatten
  | [], i, a, b, _ => by simp
  | r :: t, 0, a, b, h => by
    have := h r List.mem_cons_self
    match r, this with
    | [x0, x1], _ => simp
  | r :: t, i + 1, a, b, h => by
    have ih := flat_set2 t i a b (fun r hr => h r (List.mem_cons_of_mem _ hr))
    have := h r List.mem_cons_self
    match r, this with
    | [x0, x1], _ =>
      rw [show (i + 1) * 2 = i * 2 + 2 by omega]
      simp only [List.flatten_cons, List.set_cons_succ, List.cons_append, List.nil_append]
      rw [← ih]
theorem flat_set4 : ∀ (R : List (List Value)) (i : Nat) (a b c d : Value), (∀ r ∈ R, r.length = 4) → ((((R.flatten.set (i * 4) a).set (i * 4 + 1) b).set (i * 4 + 2) c).set (i * 4 + 3) d) = (R.set i [a, b, c, d]).flatten
  | [], i, a, b, c, d, _ => by simp
  | r :: t, 0, a, b, c, d, h => by
    have := h r List.mem_cons_self
    match r, this with
    | [x0, x1, x2, x3], _ => simp
  | r :: t, i + 1, a, b, c, d, h => by
    have ih := flat_set4 t i a b c d (fun r hr => h r (List.mem_cons_of_mem _ hr))
    have := h r List.mem_cons_self
    match r, this with
    | [x0, x1, x2, x3], _ =>
      rw [show (i + 1) * 4 = i * 4 + 4 by omega]
      simp only [List.flatten_cons, List.set_cons_succ, List.cons_append, List.nil_append]
      rw [← ih]
theorem flat_get (k : Nat) : ∀ (R : List (List Value)) (i j : Nat) (hi : i < R.length), (∀ r ∈ R, r.length = k) → j < k → R.flatten[i * k + j]? = (R[i])[j]?
  | [], i, j, hi, _, _ => by simp at hi
  | r :: t, 0, j, _, h, hj => by
    have := h r List.mem_cons_self
    rw [List.flatten_cons, List.getElem?_append_left (by omega)]
    simp
  | r :: t, i + 1, j, hi, h, hj => by
    have ih := flat_get k t i j (by simpa using hi) (fun r hr => h r (List.mem_cons_of_mem _ hr)) hj
    have := h r List.mem_cons_self
    rw [List.flatten_cons, Nat.add_mul, List.getElem?_append_right (by omega), show i * k + 1 * k + j - r.length = i * k + j by omega, ih]
    simp
theorem RowsAt.cell {w : World} {b : Nat} {t : TypeId} {R : List (List Value)} (h : RowsAt w b t R) (k i j : Nat) (hi : i < R.length) (hR : ∀ r ∈ R, r.length = k) (hj : j < k) : w.cell? ⟨b, i * k + j, none⟩ = (R[i])[j]? := by
  have e := flat_get k R i j hi hR hj
  unfold World.cell?
  rw [h]
  simpa using e
theorem RowsAt.set2 {w : World} {b : Nat} {t : TypeId} {R : List (List Value)} (h : RowsAt w b t R) (hR : ∀ r ∈ R, r.length = 2) (i : Nat) (x y : Value) : RowsAt ((w.setCell ⟨b, i * 2, none⟩ x).setCell ⟨b, i * 2 + 1, none⟩ y) b t (R.set i [x, y]) := by
  have := block_set (block_set h (i * 2) x) (i * 2 + 1) y
  rw [flat_set2 R i x y hR] at this
  exact this
theorem RowsAt.set4 {w : World} {b : Nat} {t : TypeId} {R : List (List Value)} (h : RowsAt w b t R) (hR : ∀ r ∈ R, r.length = 4) (i : Nat) (x y z u : Value) : RowsAt ((((w.setCell ⟨b, i * 4, none⟩ x).setCell ⟨b, i * 4 + 1, none⟩ y).setCell ⟨b, i * 4 + 2, none⟩ z).setCell ⟨b, i * 4 + 3, none⟩ u) b t (R.set i [x, y, z, u]) := by
  have := block_set (block_set (block_set (block_set h (i * 4) x) (i * 4 + 1) y) (i * 4 + 2) z) (i * 4 + 3) u
  rw [flat_set4 R i x y z u hR] at this
  exact this
theorem madeCells_rows (zs : Array Value) (n : Nat) (hz : 0 < zs.size) : (madeCells zs (n * zs.size)).toList = (List.replicate n zs.toList).flatten := by
  apply List.ext_getElem?
  intro j
  by_cases hj : j < n * zs.size
  · have hd : j / zs.size < n := Nat.div_lt_of_lt_mul (by rw [Nat.mul_comm]; exact hj)
    have hm : j % zs.size < zs.size := Nat.mod_lt _ hz
    have e := flat_get zs.size (List.replicate n zs.toList) (j / zs.size) (j % zs.size) (by simpa using hd) (fun r hr => by rw [(List.mem_replicate.1 hr).2]; simp) hm
    rw [Nat.mul_comm, Nat.div_add_mod] at e
    rw [e]
    simp [madeCells, hj, hm]
  · rw [List.getElem?_eq_none (by simp [madeCells]; omega), List.getElem?_eq_none (by simp; omega)]
/-- Zeros of attributes, of nodes; what stands behind a list that is handed in. -/
def zAttr : List Value := [.string ⟨#[]⟩, .string ⟨#[]⟩]
def bAttr : List Value := [.string ⟨#[33]⟩, .string ⟨#[33]⟩]
def zNode : List Value := [.string ⟨#[]⟩, .slice none 0 0, .slice none 0 0, .string ⟨#[]⟩]
def bNode : List Value := [.string ⟨#[]⟩, .slice none 0 0, .slice none 0 0, .string ⟨#[33]⟩]
set_option maxRecDepth 100000 in
theorem make_attrs (n : Nat) (w : World) (hn : n ≤ 1099511627776) : ∃ w', (Instr.makeSlice 40 (.int .i64 ((n : Int) + 8)) (.int .i64 ((n : Int) + 8))).run Tryz.prog w = .ok (.slice (some ⟨w.heap.size, 0, none⟩) (n + 8) (n + 8)) w' ∧ Kept [] w w' ∧ RowsAt w' w.heap.size 63 (List.replicate (n + 8) zAttr) ∧ w'.heap.size = w.heap.size + 1 := by
  obtain ⟨i0, hi, hz0, hz1, hz2⟩ := info_parts infoAttr
  have h63 : ((n : Int) + 8) ≤ 9223372036854775807 := by omega
  have hr := run_make (P := Tryz.prog) w 40 63 i0 _ Tryz.underlying40 hi hz0 .i64 .i64 ((n : Int) + 8) ((n : Int) + 8) (by omega) (Int.le_refl _) (by rw [hz2]; omega) h63
  have ec : ((n : Int) + 8).toNat = n + 8 := by omega
  rw [ec, hz1] at hr
  refine ⟨_, hr, (Kept.refl _ _).alloc _, ?_, Array.size_push ..⟩
  unfold RowsAt
  rw [heap_alloc_new]
  have e := madeCells_rows #[.string ⟨#[]⟩, .string ⟨#[]⟩] (n + 8) (by decide)
  show some (Obj.cells (madeCells #[.string ⟨#[]⟩, .string ⟨#[]⟩] ((n + 8) * 2)) _ _) = _
  rw [show zAttr = (#[.string ⟨#[]⟩, .string ⟨#[]⟩] : Array Value).toList from rfl, ← e]
  rfl
set_option maxRecDepth 100000 in
theorem make_nodes (n : Nat) (w : World) (hn : n ≤ 1099511627776) : ∃ w', (Instr.makeSlice 31 (.int .i64 ((n : Int) + 8)) (.int .i64 ((n : Int) + 8))).run Tryz.prog w = .ok (.slice (some ⟨w.heap.size, 0, none⟩) (n + 8) (n + 8)) w' ∧ Kept [] w w' ∧ RowsAt w' w.heap.size 42 (List.replicate (n + 8) zNode) ∧ w'.heap.size = w.heap.size + 1 := by
  obtain ⟨i0, hi, hz0, hz1, hz2⟩ := info_parts infoNode
  have h63 : ((n : Int) + 8) ≤ 9223372036854775807 := by omega
  have hr := run_make (P := Tryz.prog) w 31 42 i0 _ Tryz.underlying31 hi hz0 .i64 .i64 ((n : Int) + 8) ((n : Int) + 8) (by omega) (Int.le_refl _) (by rw [hz2]; omega) h63
  have ec : ((n : Int) + 8).toNat = n + 8 := by omega
  rw [ec, hz1] at hr
  refine ⟨_, hr, (Kept.refl _ _).alloc _, ?_, Array.size_push ..⟩
  unfold RowsAt
  rw [heap_alloc_new]
  have e := madeCells_rows #[.string ⟨#[]⟩, .slice none 0 0, .slice none 0 0, .string ⟨#[]⟩] (n + 8) (by decide)
  show some (Obj.cells (madeCells #[.string ⟨#[]⟩, .slice none 0 0, .slice none 0 0, .string ⟨#[]⟩] ((n + 8) * 4)) _ _) = _
  rw [show zNode = (#[.string ⟨#[]⟩, .slice none 0 0, .slice none 0 0, .string ⟨#[]⟩] : Array Value).toList from rfl, ← e]
  rfl
/-- Attributes as rows. -/
def aRow (a : List UInt8 × List UInt8) : List Value := [.string ⟨a.1.toArray⟩, .string ⟨a.2.toArray⟩]
theorem attrCells_rows (al : List (List UInt8 × List UInt8)) : attrCells al = (al.map aRow).flatten := by rw [attrCells, List.flatMap_def]; rfl
set_option maxRecDepth 100000 in
theorem copy_attrs (w : World) (g : Nat) (a : Option Addr) (c : Nat) (al : List (List UInt8 × List UInt8)) (hg : RowsAt w g 63 (List.replicate (al.length + 8) zAttr)) (hL : LiesA w (.slice a al.length c) al) :
    ∃ w2, (Builtin.copy_ #[40, 40] 3 #[.slice (some ⟨g, 0, none⟩) (al.length + 8) (al.length + 8), .slice a al.length c]).run Tryz.prog w = .ok (.int .i64 (al.length : Int)) w2 ∧ Kept [g] w w2 ∧ RowsAt w2 g 63 (al.map aRow ++ List.replicate 8 zAttr) ∧ w2.heap.size = w.heap.size := by
  have hsz : (Tryz.prog.info? 63).map (·.size) = some 2 := by kernel_rfl
  by_cases h0 : al = []
  · subst h0
    exact ⟨w, run_copy_k0 Tryz.prog w 40 40 3 63 2 _ a _ _ c Tryz.underlying40 hsz, Kept.refl _ _, hg, rfl⟩
  · obtain ⟨a', c', hv, hc⟩ := hL
    injection hv with q1 q2 q3
    subst q1
    have hpos : 0 < al.length := List.length_pos_iff.2 h0
    obtain ⟨g', o', ha, _, _⟩ := hc 0 hpos
    subst ha
    have hmin : Nat.min al.length (al.length + 8) = al.length := Nat.min_eq_left (by omega)
    have hfl : (List.replicate (al.length + 8) zAttr).flatten.length = (al.length + 8) * 2 := by simp [zAttr]
    have hcl := attrCells_length al
    have hr := run_copy_k Tryz.prog w 40 40 3 63 2 g 0 (al.length + 8) (al.length + 8) ⟨g', o', none⟩ al.length c _ 63 (attrCells al) Tryz.underlying40 hsz hg (by rw [hmin, hcl]) ?src (by simp only [List.size_toArray]; omega) ?one
    · rw [hmin] at hr
      refine ⟨_, hr, ?_, ?_, by simp [World.setRow]⟩
      · exact ⟨rfl, rfl, rfl, by simp [World.setRow], fun k _ hs => setRow_other w g k _ (by simpa using hs)⟩
      · unfold RowsAt
        rw [setRow_heap w g _ _ _ _ hg]
        congr 2
        simp only [List.take_zero, List.nil_append, Nat.zero_add]
        rw [List.flatten_append, ← attrCells_rows]
        congr 2
        rw [hcl, ← List.replicate_append_replicate, List.flatten_append]
        have : (List.replicate al.length zAttr).flatten.length = al.length * 2 := by simp [zAttr]
        rw [← this, List.drop_left]
    case src =>
      intro j v hj
      have hjl : j < al.length * 2 := by rw [← hcl]; exact (List.getElem?_eq_some_iff.1 hj).1
      obtain ⟨g2, o2, e2, c1, c2⟩ := hc (j / 2) (by omega)
      injection e2 with e2
      injection e2 with e3 e4
      subst e3 e4
      obtain ⟨d1, d2⟩ := attrCells_get al (j / 2) (by omega)
      have hadd : (⟨g', o', none⟩ : Addr).add j = ⟨g', o' + j, none⟩ := by unfold Addr.add; split <;> simp_all
      rw [hadd]
      rcases Nat.mod_two_eq_zero_or_one j with h | h
      · rw [show j / 2 * 2 = j by omega] at c1 d1
        rw [c1, ← d1, hj]
      · rw [show o' + j / 2 * 2 + 1 = o' + j by omega] at c2
        rw [show j / 2 * 2 + 1 = j by omega] at d2
        rw [c2, ← d2, hj]
    case one =>
      intro v hv
      obtain ⟨x, _, hx⟩ := List.mem_flatMap.1 hv
      simp at hx
      rcases hx with rfl | rfl <;> rfl
end Go.Proofs.YtlpmjpmefdpcmaaGreatDoor
