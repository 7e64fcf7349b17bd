import Derived.Test.YtlpmjpmefdpcmaaGreatDoorQOnly1
/- The names in a tree, each once. No function of the program in it. -/
namespace Go.Proofs.YtlpmjpmefdpcmaaGreatDoor
open Go.RowKit Scrub Go.Shelf
def addN (l : List (List UInt8)) (x : List UInt8) : List (List UInt8) := if l.contains x then l else l ++ [x]
def toldN {d : Nat} (K : GF d → Pol → Pol) (s : Pol) (n : GN d) : Pol := if n.1 = [] then s else K n.2.2.1 (addN s.1 n.1, n.2.1.foldl (fun A a => addN A a.1) s.2)
def toldF : (d : Nat) → GF d → Pol → Pol
  | 0, _, s => s
  | d + 1, f, s => (gnodes d f).foldl (toldN (toldF d)) s
theorem addN_len (l : List (List UInt8)) (x : List UInt8) : (addN l x).length ≤ l.length + 1 := by
  unfold addN
  split
  · omega
  · simp
theorem addN_mem {l : List (List UInt8)} {x y : List UInt8} : y ∈ addN l x ↔ y ∈ l ∨ y = x := by
  unfold addN
  split
  · rename_i h
    have hx : x ∈ l := by simpa using h
    constructor
    · exact .inl
    · rintro (h | rfl)
      · exact h
      · exact hx
  · simp
theorem addsN_len (al : List (List UInt8 × List UInt8)) (l : List (List UInt8)) : (al.foldl (fun A a => addN A a.1) l).length ≤ l.length + al.length := by
  induction al generalizing l with
  | nil => simp
  | cons a t ih =>
    have h1 := ih (addN l a.1)
    have h2 := addN_len l a.1
    rw [List.foldl_cons, List.length_cons]
    omega
theorem addsN_mem {al : List (List UInt8 × List UInt8)} {l : List (List UInt8)} {y : List UInt8} : y ∈ al.foldl (fun A a => addN A a.1) l ↔ y ∈ l ∨ ∃ a ∈ al, y = a.1 := by
  induction al generalizing l with
  | nil => simp
  | cons a t ih =>
    rw [List.foldl_cons, ih, addN_mem]
    constructor
    · rintro ((h | h) | ⟨b, hb, h⟩)
      · exact .inl h
      · exact .inr ⟨a, by simp, h⟩
      · exact .inr ⟨b, by simp [hb], h⟩
    · rintro (h | ⟨b, hb, h⟩)
      · exact .inl (.inl h)
      · rcases List.mem_cons.1 hb with rfl | hb
        · exact .inl (.inr h)
        · exact .inr ⟨b, hb, h⟩
theorem told_len : ∀ (d : Nat) (f : GF d) (s : Pol), (toldF d f s).1.length + (toldF d f s).2.length ≤ s.1.length + s.2.length + bulkF d f
  | 0, _, s => Nat.le_add_right _ _
  | d + 1, f, s => by
    have ih := told_len d
    show ((gnodes d f).foldl (toldN (toldF d)) s).1.length + ((gnodes d f).foldl (toldN (toldF d)) s).2.length ≤ s.1.length + s.2.length + (gnodes d f).foldr (fun n m => bulkN (bulkF d) n + m) 0
    generalize gnodes d f = l
    induction l generalizing s with
    | nil => simp
    | cons n t iht =>
      have h1 := iht (toldN (toldF d) s n)
      have h2 : (toldN (toldF d) s n).1.length + (toldN (toldF d) s n).2.length ≤ s.1.length + s.2.length + bulkN (bulkF d) n := by
        unfold toldN
        split
        · omega
        · have h3 := ih n.2.2.1 (addN s.1 n.1, n.2.1.foldl (fun A a => addN A a.1) s.2)
          have h4 := addN_len s.1 n.1
          have h5 := addsN_len n.2.1 s.2
          have h6 := bulkA_len n.2.1
          unfold bulkN
          simp only at h3
          omega
      show ((t.foldl (toldN (toldF d)) (toldN (toldF d) s n))).1.length + (t.foldl (toldN (toldF d)) (toldN (toldF d) s n)).2.length ≤ s.1.length + s.2.length + (bulkN (bulkF d) n + t.foldr (fun n m => bulkN (bulkF d) n + m) 0)
      omega
/-- All names of a tree are among those that are told; those that are told are from before or the tree's. -/
def InTree (q : List UInt8 → Prop) (r : List UInt8 → Prop) : (d : Nat) → GF d → Prop
  | 0, _ => True
  | d + 1, f => ∀ n ∈ gnodes d f, n.1 = [] ∨ (q n.1 ∧ (∀ a ∈ n.2.1, r a.1) ∧ InTree q r d n.2.2.1)
theorem InTree.mono {q q' r r' : List UInt8 → Prop} (hq : ∀ x, q x → q' x) (hr : ∀ x, r x → r' x) : ∀ {d : Nat} {f : GF d}, InTree q r d f → InTree q' r' d f
  | 0, _, _ => trivial
  | _ + 1, _, h => fun n hn => (h n hn).imp id fun h => ⟨hq _ h.1, fun a ha => hr _ (h.2.1 a ha), InTree.mono hq hr h.2.2⟩
theorem told_sub : ∀ (d : Nat) (f : GF d) (s : Pol), (∀ x ∈ s.1, x ∈ (toldF d f s).1) ∧ (∀ x ∈ s.2, x ∈ (toldF d f s).2) ∧ InTree (· ∈ (toldF d f s).1) (· ∈ (toldF d f s).2) d f
  | 0, _, s => ⟨fun _ h => h, fun _ h => h, trivial⟩
  | d + 1, f, s => by
    have ih := told_sub d
    have key : ∀ (l : List (GN d)) (s : Pol), (∀ x ∈ s.1, x ∈ (l.foldl (toldN (toldF d)) s).1) ∧ (∀ x ∈ s.2, x ∈ (l.foldl (toldN (toldF d)) s).2) ∧ ∀ n ∈ l, n.1 = [] ∨ (n.1 ∈ (l.foldl (toldN (toldF d)) s).1 ∧ (∀ a ∈ n.2.1, a.1 ∈ (l.foldl (toldN (toldF d)) s).2) ∧ InTree (· ∈ (l.foldl (toldN (toldF d)) s).1) (· ∈ (l.foldl (toldN (toldF d)) s).2) d n.2.2.1) := by
      intro l
      induction l with
      | nil => intro s; exact ⟨fun _ h => h, fun _ h => h, by simp⟩
      | cons n t iht =>
        intro s
        obtain ⟨i1, i2, i3⟩ := iht (toldN (toldF d) s n)
        have e : (n :: t).foldl (toldN (toldF d)) s = t.foldl (toldN (toldF d)) (toldN (toldF d) s n) := rfl
        rw [e]
        by_cases hn : n.1 = []
        · have e2 : toldN (toldF d) s n = s := by simp [toldN, hn]
          rw [e2] at i1 i2 i3 ⊢
          refine ⟨i1, i2, fun m hm => ?_⟩
          rcases List.mem_cons.1 hm with rfl | hm
          · exact .inl hn
          · exact i3 m hm
        · have e2 : toldN (toldF d) s n = toldF d n.2.2.1 (addN s.1 n.1, n.2.1.foldl (fun A a => addN A a.1) s.2) := by simp [toldN, hn]
          obtain ⟨k1, k2, k3⟩ := ih n.2.2.1 (addN s.1 n.1, n.2.1.foldl (fun A a => addN A a.1) s.2)
          rw [← e2] at k1 k2 k3
          refine ⟨fun x hx => i1 x (k1 x (addN_mem.2 (.inl hx))), fun x hx => i2 x (k2 x (addsN_mem.2 (.inl hx))), fun m hm => ?_⟩
          rcases List.mem_cons.1 hm with rfl | hm
          · right
            exact ⟨i1 _ (k1 _ (addN_mem.2 (.inr rfl))), fun a ha => i2 _ (k2 _ (addsN_mem.2 (.inr ⟨a, ha, rfl⟩))), k3.mono i1 i2⟩
          · exact i3 m hm
    exact key (gnodes d f) s
theorem told_from {q r : List UInt8 → Prop} : ∀ {d : Nat} {f : GF d} {s : Pol}, InTree q r d f → (∀ x ∈ s.1, q x) → (∀ x ∈ s.2, r x) → (∀ x ∈ (toldF d f s).1, q x) ∧ ∀ x ∈ (toldF d f s).2, r x
  | 0, _, _, _, h1, h2 => ⟨h1, h2⟩
  | d + 1, f, s, h, h1, h2 => by
    have h' : ∀ n ∈ gnodes d f, n.1 = [] ∨ (q n.1 ∧ (∀ a ∈ n.2.1, r a.1) ∧ InTree q r d n.2.2.1) := h
    show (∀ x ∈ ((gnodes d f).foldl (toldN (toldF d)) s).1, q x) ∧ ∀ x ∈ ((gnodes d f).foldl (toldN (toldF d)) s).2, r x
    generalize gnodes d f = l at h'
    clear h
    induction l generalizing s with
    | nil => exact ⟨h1, h2⟩
    | cons n t iht =>
      rw [List.foldl_cons]
      have hs : (∀ x ∈ (toldN (toldF d) s n).1, q x) ∧ ∀ x ∈ (toldN (toldF d) s n).2, r x := by
        unfold toldN
        split
        · exact ⟨h1, h2⟩
        · rename_i hn
          obtain ⟨g1, g2, g3⟩ := (h' n (by simp)).resolve_left hn
          refine told_from g3 (fun x hx => ?_) (fun x hx => ?_)
          · rcases addN_mem.1 hx with hx | rfl
            · exact h1 x hx
            · exact g1
          · rcases addsN_mem.1 hx with hx | ⟨a, ha, rfl⟩
            · exact h2 x hx
            · exact g2 a ha
      exact iht _ hs.1 hs.2 (fun m hm => h' m (by simp [hm]))
/-- A tree's names, from its events. -/
theorem fit_names : ∀ {l : List Ev} {ss : List (List UInt8)}, fitEv ss l → ∀ n al, some (Sum.inr (n, al)) ∈ l → isNameP n = true ∧ attrsOkP al = true
  | [], _, _, _, _, h => by cases h
  | some (.inl _t) :: r, _ss, h, n, al, hm => by
    rcases List.mem_cons.1 hm with hm | hm
    · cases hm
    · exact fit_names (l := r) h.2.2 n al hm
  | some (.inr (_m, _bl)) :: r, _ss, h, n, al, hm => by
    rcases List.mem_cons.1 hm with hm | hm
    · cases hm
      exact ⟨h.1.1, h.1.2.1⟩
    · exact fit_names (l := r) h.2 n al hm
  | none :: r, _ss, h, n, al, hm => by
    rcases List.mem_cons.1 hm with hm | hm
    · cases hm
    · exact fit_names (l := r) h.2 n al hm
theorem inTree_ev {q r : List UInt8 → Prop} : ∀ {d : Nat} {f : GF d}, (∀ n al, some (Sum.inr (n, al)) ∈ evF d f → q n ∧ ∀ a ∈ al, r a.1) → InTree q r d f
  | 0, _, _ => trivial
  | d + 1, f, h => by
    intro n hn
    by_cases hx : n.1 = []
    · exact .inl hx
    · right
      have e1 : evN (evF d) n = evOpen n.1 n.2.1 :: (evF d n.2.2.1 ++ [none]) := by simp [evN, hx]
      have hsub : ∀ x ∈ evN (evF d) n, x ∈ evF (d + 1) f := fun x hx => List.mem_flatMap.2 ⟨n, hn, hx⟩
      have h1 := h n.1 n.2.1 (hsub _ (by rw [e1]; exact List.mem_cons_self))
      exact ⟨h1.1, h1.2, inTree_ev (fun m al hm => h m al (hsub _ (by rw [e1]; exact List.mem_cons_of_mem _ (List.mem_append_left _ hm))))⟩
theorem inTree_allIn {p : Pol} : ∀ {d : Nat} {f : GF d}, InTree (· ∈ p.1) (fun x => x ∈ p.2 ∧ leadsP x = false) d f → allIn p (evF d f)
  | 0, _, _ => trivial
  | d + 1, f, h => by
    have happ : ∀ {a b : List Ev}, allIn p a → allIn p b → allIn p (a ++ b) := by
      intro a
      induction a with
      | nil => intro b _ h; exact h
      | cons x t ih =>
        intro b ha hb
        match x, ha with
        | some (.inl _), ha => exact ih ha hb
        | some (.inr (_, _)), ha => exact ⟨ha.1, ih ha.2 hb⟩
        | none, ha => exact ih ha hb
    have h' : ∀ n ∈ gnodes d f, n.1 = [] ∨ (n.1 ∈ p.1 ∧ (∀ a ∈ n.2.1, a.1 ∈ p.2 ∧ leadsP a.1 = false) ∧ InTree (· ∈ p.1) (fun x => x ∈ p.2 ∧ leadsP x = false) d n.2.2.1) := h
    show allIn p ((gnodes d f).flatMap (evN (evF d)))
    generalize gnodes d f = l at h'
    clear h
    induction l with
    | nil => trivial
    | cons n t ih =>
      rw [List.flatMap_cons]
      refine happ ?_ (ih (fun m hm => h' m (by simp [hm])))
      by_cases hx : n.1 = []
      · have e1 : evN (evF d) n = [evText n.2.2.2] := by simp [evN, hx]
        rw [e1]
        trivial
      · have e1 : evN (evF d) n = evOpen n.1 n.2.1 :: (evF d n.2.2.1 ++ [none]) := by simp [evN, hx]
        rw [e1]
        obtain ⟨g1, g2, g3⟩ := (h' n (by simp)).resolve_left hx
        refine ⟨⟨by simpa using g1, ?_⟩, happ (inTree_allIn g3) trivial⟩
        rw [List.all_eq_true]
        intro a ha
        obtain ⟨k1, k2⟩ := g2 a ha
        unfold letsAP
        rw [k2]
        simpa using k1
end Go.Proofs.YtlpmjpmefdpcmaaGreatDoor
