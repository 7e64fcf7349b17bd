import Derived.Test.YtlpmjpmefdpcmaaGreatDoorQLies
import Derived.Test.YtlpmjpmefdpcmaaGreatDoorQCl3
import Derived.Test.YtlpmjpmefdpcmaaGreatDoorQBld4
/- Trees that Write refuses, as plain data, and how they lie. No function of the program in it. -/
namespace Go.Proofs.YtlpmjpmefdpcmaaGreatDoor
open Go.RowKit Scrub Go.Shelf
def emptyF : (d : Nat) → GF d
  | 0 => ()
  | _ + 1 => []
def deepG : (m : Nat) → GF (m + 1)
  | 0 => [([98], [], (), [])]
  | m + 1 => [([98], [], deepG m, [])]
theorem deepG_depth : ∀ m : Nat, depthF (m + 1) (deepG m) = m + 1
  | 0 => rfl
  | m + 1 => by
    show max (depthF (m + 1) (deepG m) + 1) 0 = m + 1 + 1
    rw [deepG_depth m]
    omega
theorem deepG_bulk : ∀ m : Nat, bulkF (m + 1) (deepG m) = 2 * (m + 1)
  | 0 => rfl
  | m + 1 => by
    show (1 + 0 + bulkF (m + 1) (deepG m) + 0 + 1) + 0 = 2 * (m + 1 + 1)
    rw [deepG_bulk m]
    omega
def deepE (m : Nat) : GF (m + 1) := List.append (gnodes m (deepG m)) [(([], [], emptyF m, []) : GN m)]
theorem emptyF_bulk : ∀ d : Nat, bulkF d (emptyF d) = 0
  | 0 => rfl
  | _ + 1 => rfl
theorem emptyF_depth : ∀ d : Nat, depthF d (emptyF d) = 0
  | 0 => rfl
  | _ + 1 => rfl
theorem foldr_max_le {d : Nat} (l : List (GN d)) (x : GN d) : l.foldr (fun n m => max (depthF d n.2.2.1 + (if n.1 = [] then 0 else 1)) m) 0 ≤ (l.append [x]).foldr (fun n m => max (depthF d n.2.2.1 + (if n.1 = [] then 0 else 1)) m) 0 := by
  induction l with
  | nil => exact Nat.zero_le _
  | cons a t ih =>
    show max (depthF d a.2.2.1 + (if a.1 = [] then 0 else 1)) (t.foldr (fun n m => max (depthF d n.2.2.1 + (if n.1 = [] then 0 else 1)) m) 0) ≤ max (depthF d a.2.2.1 + (if a.1 = [] then 0 else 1)) ((t.append [x]).foldr (fun n m => max (depthF d n.2.2.1 + (if n.1 = [] then 0 else 1)) m) 0)
    omega
theorem deepE_depth (m : Nat) : m + 1 ≤ depthF (m + 1) (deepE m) := by
  have h : depthF (m + 1) (deepG m) ≤ depthF (m + 1) (deepE m) := foldr_max_le (d := m) (gnodes m (deepG m)) ([], [], emptyF m, [])
  rw [deepG_depth m] at h
  exact h
theorem bulk_more {d : Nat} (l : List (GN d)) (x : GN d) : (l.append [x]).foldr (fun n k => bulkN (bulkF d) n + k) 0 = l.foldr (fun n k => bulkN (bulkF d) n + k) 0 + bulkN (bulkF d) x := by
  induction l with
  | nil =>
    show bulkN (bulkF d) x + 0 = 0 + bulkN (bulkF d) x
    omega
  | cons a t ih =>
    show bulkN (bulkF d) a + (t.append [x]).foldr (fun n k => bulkN (bulkF d) n + k) 0 = bulkN (bulkF d) a + t.foldr (fun n k => bulkN (bulkF d) n + k) 0 + bulkN (bulkF d) x
    rw [ih]
    omega
theorem deepE_bulk (m : Nat) : bulkF (m + 1) (deepE m) ≤ 2 * (m + 1) + 1 := by
  have h : bulkF (m + 1) (deepE m) = bulkF (m + 1) (deepG m) + bulkN (bulkF m) ([], [], emptyF m, []) := bulk_more (gnodes m (deepG m)) _
  rw [h, deepG_bulk m]
  unfold bulkN
  rw [emptyF_bulk]
  exact Nat.le_refl _
/-! How such lists lie. -/
def BlockAt (w : World) (b : Nat) (cs : List Value) : Prop := ∃ t fr, w.heap[b]? = some (.cells cs.toArray t fr)
theorem BlockAt.cell {w : World} {b : Nat} {cs : List Value} (h : BlockAt w b cs) (i : Nat) : w.cell? ⟨b, i, none⟩ = cs[i]? := by
  obtain ⟨t, fr, h⟩ := h
  simp [World.cell?, h]
theorem BlockAt.kept {w w' : World} {b : Nat} {cs : List Value} (h : BlockAt w b cs) (hk : Kept [] w w') : BlockAt w' b cs := by
  obtain ⟨t, fr, h⟩ := h
  exact ⟨t, fr, (hk.block b (Array.getElem?_eq_some_iff.1 h).1 (by simp)).trans h⟩
theorem BlockAt.new (w : World) (cs : List Value) (t : TypeId) : BlockAt (w.alloc (.cells cs.toArray t)) w.heap.size cs := ⟨t, _, heap_alloc_new w _⟩
theorem liesA_nil (w : World) : LiesA w (.slice none 0 0) [] := ⟨none, 0, rfl, fun i hi => absurd hi (by simp)⟩
theorem liesA_one {w : World} {b c : Nat} {n v : List UInt8} (h : BlockAt w b [.string ⟨n.toArray⟩, .string ⟨v.toArray⟩]) : LiesA w (.slice (some ⟨b, 0, none⟩) 1 c) [(n, v)] := by
  refine ⟨_, c, rfl, fun i hi => ⟨b, 0, rfl, ?_⟩⟩
  have hi' : i < 1 := hi
  obtain rfl : i = 0 := by omega
  exact ⟨h.cell _, h.cell _⟩
theorem liesA_two {w : World} {b c : Nat} {n v n2 v2 : List UInt8} (h : BlockAt w b [.string ⟨n.toArray⟩, .string ⟨v.toArray⟩, .string ⟨n2.toArray⟩, .string ⟨v2.toArray⟩]) : LiesA w (.slice (some ⟨b, 0, none⟩) 2 c) [(n, v), (n2, v2)] := by
  refine ⟨_, c, rfl, fun i hi => ⟨b, 0, rfl, ?_⟩⟩
  have hi' : i < 2 := hi
  have hc : i = 0 ∨ i = 1 := by omega
  rcases hc with rfl | rfl
  · exact ⟨h.cell _, h.cell _⟩
  · exact ⟨h.cell _, h.cell _⟩
theorem lies_nil (w : World) : ∀ d : Nat, Lies d w (.slice none 0 0) (emptyF d)
  | 0 => ⟨none, 0, rfl⟩
  | _ + 1 => ⟨none, 0, rfl, fun i hi => absurd hi (by simp [gnodes, emptyF])⟩
theorem lies_one {d : Nat} {w : World} {b c : Nat} {nm tx : List UInt8} {av kv : Value} {al : List (List UInt8 × List UInt8)} {kf : GF d} (h : BlockAt w b [.string ⟨nm.toArray⟩, av, kv, .string ⟨tx.toArray⟩]) (hA : LiesA w av al) (hK : Lies d w kv kf) :
    Lies (d + 1) w (.slice (some ⟨b, 0, none⟩) 1 c) ([(nm, al, kf, tx)] : List (GN d)) := by
  refine ⟨_, c, rfl, fun i hi => ⟨b, 0, rfl, ?_⟩⟩
  have hi' : i < 1 := hi
  obtain rfl : i = 0 := by omega
  exact ⟨av, kv, h.cell _, h.cell _, h.cell _, h.cell _, hA, hK⟩
theorem lies_two {d : Nat} {w : World} {b c : Nat} {nm tx nm2 tx2 : List UInt8} {av kv av2 kv2 : Value} {al al2 : List (List UInt8 × List UInt8)} {kf kf2 : GF d} (h : BlockAt w b [.string ⟨nm.toArray⟩, av, kv, .string ⟨tx.toArray⟩, .string ⟨nm2.toArray⟩, av2, kv2, .string ⟨tx2.toArray⟩]) (hA : LiesA w av al) (hK : Lies d w kv kf) (hA2 : LiesA w av2 al2) (hK2 : Lies d w kv2 kf2) :
    Lies (d + 1) w (.slice (some ⟨b, 0, none⟩) 2 c) ([(nm, al, kf, tx), (nm2, al2, kf2, tx2)] : List (GN d)) := by
  refine ⟨_, c, rfl, fun i hi => ⟨b, 0, rfl, ?_⟩⟩
  have hi' : i < 2 := hi
  have hc : i = 0 ∨ i = 1 := by omega
  rcases hc with rfl | rfl
  · exact ⟨av, kv, h.cell _, h.cell _, h.cell _, h.cell _, hA, hK⟩
  · exact ⟨av2, kv2, h.cell _, h.cell _, h.cell _, h.cell _, hA2, hK2⟩
theorem deep_more {w : World} {b c : Nat} {m : Nat} {kv : Value} (h : BlockAt w b [.string ⟨#[98]⟩, .slice none 0 0, kv, .string ⟨#[]⟩]) (hK : Lies (m + 1) w kv (deepG m)) : Lies (m + 2) w (.slice (some ⟨b, 0, none⟩) 1 c) (deepG (m + 1)) :=
  lies_one (nm := [98]) (tx := []) h (liesA_nil w) hK
theorem deep_first {w : World} {b c : Nat} (h : BlockAt w b [.string ⟨#[98]⟩, .slice none 0 0, .slice none 0 0, .string ⟨#[]⟩]) : Lies 1 w (.slice (some ⟨b, 0, none⟩) 1 c) (deepG 0) :=
  lies_one (d := 0) (kf := ()) (nm := [98]) (tx := []) h (liesA_nil w) ⟨none, 0, rfl⟩
/-- The 16 lists that are refused. -/
def badG : List (GF 3) :=
  [[([], [], [], [])],
   [([], [], [([], [], [], [98])], [97])],
   [([], [([120], [])], [], [97])],
   [([98], [], [], [97])],
   [([66], [], [], [])],
   [([49], [], [], [])],
   [([98, 32], [], [], [])],
   [([98], [([], [])], [], [])],
   [([98], [([88], [])], [], [])],
   [([98], [([97, 61, 98], [])], [], [])],
   [([98], [([97, 62], [])], [], [])],
   [([98], [([97], []), ([97], [])], [], [])],
   [([98, 114], [], [([], [], [], [97])], [])],
   [([115, 116, 121, 108, 101], [], [([], [], [], [60, 47, 83, 84, 89, 76, 69, 32, 62])], [])],
   [([115, 116, 121, 108, 101], [], [([98], [], [], [])], [])],
   [([112], [], [([115, 99, 114, 105, 112, 116], [], [([], [], (), [97]), ([], [], (), [98])], [])], [])]]
theorem badG_check : ∀ f ∈ badG, checkF 3 f = 2 ∧ bulkF 3 f ≤ 1000 := by
  have h : badG.all (fun f => decide (checkF 3 f = 2) && decide (bulkF 3 f ≤ 1000)) = true := by rfl
  intro f hf
  have := List.all_eq_true.1 h f hf
  simpa using this
/-- Blocks that are laid one after the other. -/
def allocs (w : World) : List (List Value × TypeId) → World
  | [] => w
  | x :: r => allocs (w.alloc (.cells x.1.toArray x.2)) r
theorem allocs_kept : ∀ (l : List (List Value × TypeId)) (w : World), Kept [] w (allocs w l)
  | [], w => Kept.refl _ w
  | x :: r, w => ((Kept.refl [] w).alloc _).trans (allocs_kept r (w.alloc (.cells x.1.toArray x.2)))
theorem allocs_block : ∀ (l : List (List Value × TypeId)) (w : World) (i : Nat) (h : i < l.length), BlockAt (allocs w l) (w.heap.size + i) (l[i]).1
  | x :: r, w, 0, _ => (BlockAt.new w x.1 x.2).kept (allocs_kept r _)
  | x :: r, w, i + 1, h => by
    have ih := allocs_block r (w.alloc (.cells x.1.toArray x.2)) i (by simpa using h)
    have e : (w.alloc (.cells x.1.toArray x.2)).heap.size + i = w.heap.size + (i + 1) := by
      rw [World.size_alloc]
      omega
    rw [e] at ih
    exact ih
def sl1 (b : Nat) : Value := .slice (some ⟨b, 0, none⟩) 1 1
def nil0 : Value := .slice none 0 0
def badL (h : Nat) : List (List Value × TypeId) :=
  [([nil0, nil0], 33),
   ([.string ⟨#[]⟩, nil0, nil0, .string ⟨#[]⟩], 42),
   ([.string ⟨#[]⟩, nil0, nil0, .string ⟨#[98]⟩], 42),
   ([.string ⟨#[]⟩, nil0, sl1 (h + 2), .string ⟨#[97]⟩], 42),
   ([.string ⟨#[120]⟩, .string ⟨#[]⟩], 63),
   ([.string ⟨#[]⟩, sl1 (h + 4), nil0, .string ⟨#[97]⟩], 42),
   ([.string ⟨#[98]⟩, nil0, nil0, .string ⟨#[97]⟩], 42),
   ([.string ⟨#[66]⟩, nil0, nil0, .string ⟨#[]⟩], 42),
   ([.string ⟨#[49]⟩, nil0, nil0, .string ⟨#[]⟩], 42),
   ([.string ⟨#[98, 32]⟩, nil0, nil0, .string ⟨#[]⟩], 42),
   ([.string ⟨#[]⟩, .string ⟨#[]⟩], 63),
   ([.string ⟨#[98]⟩, sl1 (h + 10), nil0, .string ⟨#[]⟩], 42),
   ([.string ⟨#[88]⟩, .string ⟨#[]⟩], 63),
   ([.string ⟨#[98]⟩, sl1 (h + 12), nil0, .string ⟨#[]⟩], 42),
   ([.string ⟨#[97, 61, 98]⟩, .string ⟨#[]⟩], 63),
   ([.string ⟨#[98]⟩, sl1 (h + 14), nil0, .string ⟨#[]⟩], 42),
   ([.string ⟨#[97, 62]⟩, .string ⟨#[]⟩], 63),
   ([.string ⟨#[98]⟩, sl1 (h + 16), nil0, .string ⟨#[]⟩], 42),
   ([.string ⟨#[97]⟩, .string ⟨#[]⟩, .string ⟨#[97]⟩, .string ⟨#[]⟩], 63),
   ([.string ⟨#[98]⟩, .slice (some ⟨h + 18, 0, none⟩) 2 2, nil0, .string ⟨#[]⟩], 42),
   ([.string ⟨#[]⟩, nil0, nil0, .string ⟨#[97]⟩], 42),
   ([.string ⟨#[98, 114]⟩, nil0, sl1 (h + 20), .string ⟨#[]⟩], 42),
   ([.string ⟨#[]⟩, nil0, nil0, .string ⟨#[60, 47, 83, 84, 89, 76, 69, 32, 62]⟩], 42),
   ([.string ⟨#[115, 116, 121, 108, 101]⟩, nil0, sl1 (h + 22), .string ⟨#[]⟩], 42),
   ([.string ⟨#[98]⟩, nil0, nil0, .string ⟨#[]⟩], 42),
   ([.string ⟨#[115, 116, 121, 108, 101]⟩, nil0, sl1 (h + 24), .string ⟨#[]⟩], 42),
   ([.string ⟨#[]⟩, nil0, nil0, .string ⟨#[97]⟩, .string ⟨#[]⟩, nil0, nil0, .string ⟨#[98]⟩], 42),
   ([.string ⟨#[115, 99, 114, 105, 112, 116]⟩, nil0, .slice (some ⟨h + 26, 0, none⟩) 2 2, .string ⟨#[]⟩], 42),
   ([.string ⟨#[112]⟩, nil0, sl1 (h + 27), .string ⟨#[]⟩], 42),
   ([sl1 (h + 1), sl1 (h + 3), sl1 (h + 5), sl1 (h + 6), sl1 (h + 7), sl1 (h + 8), sl1 (h + 9), sl1 (h + 11), sl1 (h + 13), sl1 (h + 15), sl1 (h + 17), sl1 (h + 19), sl1 (h + 21), sl1 (h + 23), sl1 (h + 25), sl1 (h + 28)], 31)]
/-- The list of the 16 lies there. -/
def BadAt (w : World) (b : Nat) : Prop := ∀ i, i < 16 → ∃ c f, w.cell? ⟨b, i, none⟩ = some (sl1 c) ∧ f ∈ badG ∧ Lies 3 w (sl1 c) f
theorem BadAt.kept {w w' : World} {b : Nat} (h : BadAt w b) (hk : Kept [] w w') : BadAt w' b := by
  intro i hi
  obtain ⟨c, f, h1, h2, h3⟩ := h i hi
  exact ⟨c, f, cell_kept hk h1, h2, h3.kept 3 hk⟩
theorem bad_one {W : World} {b c : Nat} {i : Nat} {cs : List Value} (hb : BlockAt W b cs) (hc : cs[i]? = some (sl1 c)) {f : GF 3} (hf : f ∈ badG) (hl : Lies 3 W (sl1 c) f) : ∃ c f, W.cell? ⟨b, i, none⟩ = some (sl1 c) ∧ f ∈ badG ∧ Lies 3 W (sl1 c) f := ⟨c, f, (hb.cell i).trans hc, hf, hl⟩
theorem lies2 (w : World) : Lies 2 w nil0 ([] : List (GN 1)) := lies_nil w 2
theorem lies1 (w : World) : Lies 1 w nil0 ([] : List (GN 0)) := lies_nil w 1
theorem bad_mem (i : Nat) (h : i < badG.length) : badG[i] ∈ badG := List.getElem_mem h
theorem bad_at (w : World) : BadAt (allocs w (badL w.heap.size)) (w.heap.size + 29) := by
  have B : ∀ i (h : i < 30), BlockAt (allocs w (badL w.heap.size)) (w.heap.size + i) ((badL w.heap.size)[i]'h).1 := fun i h => allocs_block (badL w.heap.size) w i h
  have H := B 29 (by decide)
  generalize allocs w (badL w.heap.size) = W at *
  intro i hi
  have hc : i = 0 ∨ i = 1 ∨ i = 2 ∨ i = 3 ∨ i = 4 ∨ i = 5 ∨ i = 6 ∨ i = 7 ∨ i = 8 ∨ i = 9 ∨ i = 10 ∨ i = 11 ∨ i = 12 ∨ i = 13 ∨ i = 14 ∨ i = 15 := by omega
  rcases hc with rfl | rfl | rfl | rfl | rfl | rfl | rfl | rfl | rfl | rfl | rfl | rfl | rfl | rfl | rfl | rfl
  · exact bad_one H rfl (f := [([], [], [], [])]) (bad_mem 0 (by decide)) (lies_one (d := 2) (nm := []) (tx := []) (B 1 (by decide)) (liesA_nil W) (lies2 W))
  · exact bad_one H rfl (f := [([], [], [([], [], [], [98])], [97])]) (bad_mem 1 (by decide)) (lies_one (d := 2) (nm := []) (tx := [97]) (B 3 (by decide)) (liesA_nil W) (lies_one (d := 1) (nm := []) (tx := [98]) (B 2 (by decide)) (liesA_nil W) (lies1 W)))
  · exact bad_one H rfl (f := [([], [([120], [])], [], [97])]) (bad_mem 2 (by decide)) (lies_one (d := 2) (nm := []) (tx := [97]) (B 5 (by decide)) (liesA_one (n := [120]) (v := []) (B 4 (by decide))) (lies2 W))
  · exact bad_one H rfl (f := [([98], [], [], [97])]) (bad_mem 3 (by decide)) (lies_one (d := 2) (nm := [98]) (tx := [97]) (B 6 (by decide)) (liesA_nil W) (lies2 W))
  · exact bad_one H rfl (f := [([66], [], [], [])]) (bad_mem 4 (by decide)) (lies_one (d := 2) (nm := [66]) (tx := []) (B 7 (by decide)) (liesA_nil W) (lies2 W))
  · exact bad_one H rfl (f := [([49], [], [], [])]) (bad_mem 5 (by decide)) (lies_one (d := 2) (nm := [49]) (tx := []) (B 8 (by decide)) (liesA_nil W) (lies2 W))
  · exact bad_one H rfl (f := [([98, 32], [], [], [])]) (bad_mem 6 (by decide)) (lies_one (d := 2) (nm := [98, 32]) (tx := []) (B 9 (by decide)) (liesA_nil W) (lies2 W))
  · exact bad_one H rfl (f := [([98], [([], [])], [], [])]) (bad_mem 7 (by decide)) (lies_one (d := 2) (nm := [98]) (tx := []) (B 11 (by decide)) (liesA_one (n := []) (v := []) (B 10 (by decide))) (lies2 W))
  · exact bad_one H rfl (f := [([98], [([88], [])], [], [])]) (bad_mem 8 (by decide)) (lies_one (d := 2) (nm := [98]) (tx := []) (B 13 (by decide)) (liesA_one (n := [88]) (v := []) (B 12 (by decide))) (lies2 W))
  · exact bad_one H rfl (f := [([98], [([97, 61, 98], [])], [], [])]) (bad_mem 9 (by decide)) (lies_one (d := 2) (nm := [98]) (tx := []) (B 15 (by decide)) (liesA_one (n := [97, 61, 98]) (v := []) (B 14 (by decide))) (lies2 W))
  · exact bad_one H rfl (f := [([98], [([97, 62], [])], [], [])]) (bad_mem 10 (by decide)) (lies_one (d := 2) (nm := [98]) (tx := []) (B 17 (by decide)) (liesA_one (n := [97, 62]) (v := []) (B 16 (by decide))) (lies2 W))
  · exact bad_one H rfl (f := [([98], [([97], []), ([97], [])], [], [])]) (bad_mem 11 (by decide)) (lies_one (d := 2) (nm := [98]) (tx := []) (B 19 (by decide)) (liesA_two (n := [97]) (v := []) (n2 := [97]) (v2 := []) (B 18 (by decide))) (lies2 W))
  · exact bad_one H rfl (f := [([98, 114], [], [([], [], [], [97])], [])]) (bad_mem 12 (by decide)) (lies_one (d := 2) (nm := [98, 114]) (tx := []) (B 21 (by decide)) (liesA_nil W) (lies_one (d := 1) (nm := []) (tx := [97]) (B 20 (by decide)) (liesA_nil W) (lies1 W)))
  · exact bad_one H rfl (f := [([115, 116, 121, 108, 101], [], [([], [], [], [60, 47, 83, 84, 89, 76, 69, 32, 62])], [])]) (bad_mem 13 (by decide)) (lies_one (d := 2) (nm := [115, 116, 121, 108, 101]) (tx := []) (B 23 (by decide)) (liesA_nil W) (lies_one (d := 1) (nm := []) (tx := [60, 47, 83, 84, 89, 76, 69, 32, 62]) (B 22 (by decide)) (liesA_nil W) (lies1 W)))
  · exact bad_one H rfl (f := [([115, 116, 121, 108, 101], [], [([98], [], [], [])], [])]) (bad_mem 14 (by decide)) (lies_one (d := 2) (nm := [115, 116, 121, 108, 101]) (tx := []) (B 25 (by decide)) (liesA_nil W) (lies_one (d := 1) (nm := [98]) (tx := []) (B 24 (by decide)) (liesA_nil W) (lies1 W)))
  · exact bad_one H rfl (f := [([112], [], [([115, 99, 114, 105, 112, 116], [], [([], [], (), [97]), ([], [], (), [98])], [])], [])]) (bad_mem 15 (by decide)) (lies_one (d := 2) (nm := [112]) (tx := []) (B 28 (by decide)) (liesA_nil W) (lies_one (d := 1) (nm := [115, 99, 114, 105, 112, 116]) (tx := []) (B 27 (by decide)) (liesA_nil W) (lies_two (d := 0) (nm := []) (tx := [97]) (nm2 := []) (tx2 := [98]) (B 26 (by decide)) (liesA_nil W) ⟨none, 0, rfl⟩ (liesA_nil W) ⟨none, 0, rfl⟩)))
theorem none_at (w : World) : BlockAt (allocs w (badL w.heap.size)) w.heap.size [nil0, nil0] := allocs_block (badL w.heap.size) w 0 (show 0 < 30 by omega)
/-- A chain of elements, and what it was made of. -/
def KidsAt : Nat → Nat → Value → World → Prop
  | 0, _, kv, _ => kv = .slice none 0 0
  | q + 1, b, kv, w => ∃ w0 : World, w0.heap.size ≤ b ∧ Kept [] w0 w ∧ Lies (q + 1) w0 kv (deepG q)
def DeepAt (q b : Nat) (kv : Value) (w : World) : Prop := w.heap[b]? = some (.cells #[.string ⟨#[98]⟩, .slice none 0 0, kv, .string ⟨#[]⟩] 42 (0, 0)) ∧ KidsAt q b kv w
theorem DeepAt.kept {q b : Nat} {kv : Value} {w w' : World} (h : DeepAt q b kv w) (hk : Kept [] w w') : DeepAt q b kv w' := by
  refine ⟨(hk.block b (Array.getElem?_eq_some_iff.1 h.1).1 (by simp)).trans h.1, ?_⟩
  cases q with
  | zero => exact h.2
  | succ q =>
    obtain ⟨w0, h1, h2, h3⟩ := h.2
    exact ⟨w0, h1, h2.trans hk, h3⟩
theorem DeepAt.lies {q b : Nat} {kv : Value} {w : World} (h : DeepAt q b kv w) : Lies (q + 1) w (.slice (some ⟨b, 0, none⟩) 1 1) (deepG q) := by
  obtain ⟨h1, h2⟩ := h
  cases q with
  | zero =>
    have e : kv = .slice none 0 0 := h2
    subst e
    exact deep_first ⟨_, _, h1⟩
  | succ q =>
    obtain ⟨w0, _, g2, g3⟩ := h2
    exact deep_more ⟨_, _, h1⟩ (g3.kept _ g2)
theorem DeepAt.first (w : World) : DeepAt 0 w.heap.size (.slice none 0 0) (w.alloc (.cells #[.string ⟨#[98]⟩, .slice none 0 0, .slice none 0 0, .string ⟨#[]⟩] 42)) := ⟨heap_alloc_new w _, rfl⟩
theorem DeepAt.more {q b : Nat} {kv : Value} {w : World} (h : DeepAt q b kv w) : DeepAt (q + 1) w.heap.size (.slice (some ⟨b, 0, none⟩) 1 1) (w.alloc (.cells #[.string ⟨#[98]⟩, .slice none 0 0, .slice (some ⟨b, 0, none⟩) 1 1, .string ⟨#[]⟩] 42)) :=
  ⟨heap_alloc_new w _, w, Nat.le_refl _, (Kept.refl [] w).alloc _, h.lies⟩
theorem DeepAt.own {q b : Nat} {kv : Value} {w : World} (h : DeepAt q b kv w) : w.ownsRow 0 42 4 (.slice (some ⟨b, 0, none⟩) 1 1) 1 [.string ⟨#[98]⟩, .slice none 0 0, kv, .string ⟨#[]⟩] :=
  ⟨rfl, .inr ⟨b, 1, _, rfl, Nat.zero_le _, h.1, Nat.le_refl _, by unfold maxLen; omega, rfl, rfl⟩⟩
theorem DeepAt.append {q b : Nat} {kv v' : Value} {w W0 w' : World} (h : DeepAt (q + 1) b kv w) (hk : Kept [] w W0) (hown : w'.ownsRow 0 42 4 v' 2 ([.string ⟨#[98]⟩, .slice none 0 0, kv, .string ⟨#[]⟩] ++ [.string ⟨#[]⟩, .slice none 0 0, .slice none 0 0, .string ⟨#[]⟩]))
    (hgr : W0.grownBy w' (Value.slice (some ⟨b, 0, none⟩) 1 1).ownBlock) : Lies (q + 2) w' v' (deepE (q + 1)) := by
  obtain ⟨_, w0, g1, g2, g3⟩ := h
  have hk2 := Kept.own hgr
  have hk3 : Kept [] w0 w' := (g2.trans hk).trans_new hk2 (fun i hi => by
    have : some i = some b := by simpa [Value.ownBlock] using Option.mem_toList.1 hi |>.symm
    injection this with this
    exact .inr (by omega))
  obtain ⟨g, c, rfl⟩ := form_pos (n := 1) hown
  refine ⟨_, c, rfl, fun i hi => ⟨g, 0, rfl, ?_⟩⟩
  have hi' : i < 2 := hi
  have hc : i = 0 ∨ i = 1 := by omega
  rcases hc with rfl | rfl
  · exact ⟨.slice none 0 0, kv, row_cell hown (j := 0) rfl, row_cell hown (j := 1) rfl, row_cell hown (j := 2) rfl, row_cell hown (j := 3) rfl, liesA_nil _, g3.kept _ hk3⟩
  · exact ⟨.slice none 0 0, .slice none 0 0, row_cell hown (j := 4) rfl, row_cell hown (j := 5) rfl, row_cell hown (j := 6) rfl, row_cell hown (j := 7) rfl, liesA_nil _, lies_nil _ _⟩
theorem notPol_l {l : List (List UInt8)} (h : 12 < l.length) : isPolP (l, []) = false := by
  have e : isPolP (l, []) = (areNamesP l && areNamesP []) := rfl
  have e2 : areNamesP l = (decide (l.length ≤ 12) && !l.any noNameP) := rfl
  rw [e, e2, decide_eq_false (by omega)]
  rfl
theorem notPol_r {l : List (List UInt8)} (h : 12 < l.length) : isPolP ([], l) = false := by
  have e : isPolP ([], l) = (areNamesP [] && areNamesP l) := rfl
  have e2 : areNamesP l = (decide (l.length ≤ 12) && !l.any noNameP) := rfl
  rw [e, e2, decide_eq_false (by omega)]
  rfl
theorem notPol_wide {s : List UInt8} (h : 20 < s.length) : isPolP ([], [s]) = false := by
  have e : isPolP ([], [s]) = (areNamesP [] && (decide ([s].length ≤ 12) && !((decide (s = []) || decide (20 < s.length)) || false))) := rfl
  rw [e, decide_eq_true h]
  simp
theorem strs_one {w w' : World} {s : List UInt8} {t : TypeId} (hk : Kept [] (w.alloc (.cells #[.string ⟨s.toArray⟩] t)) w') : StrsAt w' (.slice (some ⟨w.heap.size, 0, none⟩) 1 1) [s] := by
  have hb := (BlockAt.new w [.string ⟨s.toArray⟩] t).kept hk
  refine ⟨_, _, rfl, fun i hi => ⟨w.heap.size, 0, rfl, ?_⟩⟩
  have hi' : i < 1 := hi
  obtain rfl : i = 0 := by omega
  exact hb.cell _
theorem strs_two {w w' : World} {s s2 : List UInt8} {t : TypeId} (hk : Kept [] (w.alloc (.cells #[.string ⟨s.toArray⟩, .string ⟨s2.toArray⟩] t)) w') : StrsAt w' (.slice (some ⟨w.heap.size, 0, none⟩) 2 2) [s, s2] := by
  have hb := (BlockAt.new w [.string ⟨s.toArray⟩, .string ⟨s2.toArray⟩] t).kept hk
  refine ⟨_, _, rfl, fun i hi => ⟨w.heap.size, 0, rfl, ?_⟩⟩
  have hi' : i < 2 := hi
  have hc : i = 0 ∨ i = 1 := by omega
  rcases hc with rfl | rfl
  · exact hb.cell _
  · exact hb.cell _
end Go.Proofs.YtlpmjpmefdpcmaaGreatDoor
