import Derived.Test.YtlpmjpmefdpcmaaGreatDoorQRt7
import Derived.Test.YtlpmjpmefdpcmaaGreatDoorQLiesH
import Derived.Test.YtlpmjpmefdpcmaaGreatDoorQLies
/- A tree that is read may be written, and what is written is the row of its items. No function of the program in it. -/
namespace Go.Proofs.YtlpmjpmefdpcmaaGreatDoor
open Go.RowKit Scrub Go.Shelf
/-- Is a raw element innermost? (What is open: innermost first.) -/
abbrev topRaw (ss : List (List UInt8)) : Prop := kindP (ss.headD []) = 2
/-- Events that may be written. -/
def okEv : List (List UInt8) → List Ev → Prop
  | _, [] => True
  | ss, some (.inl t) :: r => t ≠ [] ∧ (topRaw ss → holdsEndP (ss.headD []) t = false ∧ ∃ r', r = none :: r') ∧ okEv ss r
  | ss, some (.inr (n, al)) :: r => (isNameP n = true ∧ attrsOkP al = true ∧ ss.length < 12 ∧ ¬ topRaw ss ∧ (kindP n = 1 → ∃ r', r = none :: r')) ∧ okEv (n :: ss) r
  | ss, none :: r => okEv ss.tail r
/-- What is written for them. -/
def wEv : List (List UInt8) → List Ev → List UInt8
  | _, [] => []
  | ss, some (.inl t) :: r => (if topRaw ss then t else escP [38, 60, 62] t) ++ wEv ss r
  | ss, some (.inr (n, al)) :: r => startW n al ++ wEv (n :: ss) r
  | ss, none :: r => (if kindP (ss.headD []) = 1 then [] else endW (ss.headD [])) ++ wEv ss.tail r
theorem raw_top {st : List (List UInt8)} (h : topKind st ≠ 2) : ¬ topRaw st.reverse := by
  rcases List.eq_nil_or_concat st with h0 | ⟨l, a, h0⟩
  · subst h0
    decide
  · have h0' : st = l ++ [a] := by simpa using h0
    subst h0'
    rw [topKind_snoc] at h
    intro hc
    simp at hc
    exact h hc
/-- The row of items, as events. -/
theorem items_ev : ∀ (I : List Item) (o : St), stableL o I → (runI o I).2 = [] → okEv o.2.reverse (I.flatMap itemEv) ∧ wEv o.2.reverse (I.flatMap itemEv) = writeI I
  | [], _, _, _ => ⟨trivial, rfl⟩
  | .inl t :: r, o, h, hend => by
    obtain ⟨⟨h1, h2, h3, h4⟩, hr⟩ := h
    obtain ⟨i1, i2⟩ := items_ev r _ hr hend
    have hnr := raw_top h4
    have e1 : (Sum.inl t :: r : List Item).flatMap itemEv = evText t :: r.flatMap itemEv := rfl
    have e2 : (stepI o (iText t)).2 = o.2 := rfl
    rw [e2] at i1 i2
    rw [e1]
    refine ⟨⟨h1, fun hc => absurd hc hnr, i1⟩, ?_⟩
    show (if topRaw o.2.reverse then t else escP [38, 60, 62] t) ++ wEv o.2.reverse (r.flatMap itemEv) = _
    rw [if_neg hnr, i2]
    rfl
  | .inr (.inl (n, al, tx)) :: r, o, h, hend => by
    obtain ⟨⟨h1, h2, h3, h4, h5, h6, h7⟩, hr⟩ := h
    obtain ⟨i1, i2⟩ := items_ev r _ hr hend
    have hnr := raw_top h6
    have hl : o.2.reverse.length < 12 := by simpa using h7
    have ew : writeI (.inr (.inl (n, al, tx)) :: r) = startW n al ++ (tx ++ writeI r) := by simp [writeI, itemW]
    rw [ew]
    by_cases hk1 : kindP n = 1
    · have htx : tx = [] := h4 (by omega)
      subst htx
      have e1 : (Sum.inr (Sum.inl (n, al, [])) :: r : List Item).flatMap itemEv = evOpen n al :: none :: r.flatMap itemEv := by simp [itemEv, hk1]
      have e2 : (stepI o (iStart n al [])).2 = o.2 := by show (if kindP n = 1 then _ else _) = _; rw [if_pos hk1]
      rw [e2] at i1 i2
      rw [e1]
      refine ⟨⟨⟨h1, h2, hl, hnr, fun _ => ⟨_, rfl⟩⟩, i1⟩, ?_⟩
      show startW n al ++ ((if kindP n = 1 then [] else endW n) ++ wEv o.2.reverse (r.flatMap itemEv)) = _
      rw [if_pos hk1, i2]
    · have e2 : (stepI o (iStart n al tx)).2.reverse = n :: o.2.reverse := by
        show (if kindP n = 1 then o.2 else o.2 ++ [n]).reverse = _
        rw [if_neg hk1]
        simp
      rw [e2] at i1 i2
      by_cases htx : tx = []
      · subst htx
        have e1 : (Sum.inr (Sum.inl (n, al, [])) :: r : List Item).flatMap itemEv = evOpen n al :: r.flatMap itemEv := by simp [itemEv, hk1]
        rw [e1]
        refine ⟨⟨⟨h1, h2, hl, hnr, fun e => absurd e hk1⟩, i1⟩, ?_⟩
        show startW n al ++ wEv (n :: o.2.reverse) (r.flatMap itemEv) = _
        rw [i2]
        rfl
      · have hk2 : kindP n = 2 := Classical.byContradiction fun hc => htx (h4 hc)
        have e1 : (Sum.inr (Sum.inl (n, al, tx)) :: r : List Item).flatMap itemEv = evOpen n al :: evText tx :: r.flatMap itemEv := by simp [itemEv, hk1, htx]
        have htop : topKind (stepI o (iStart n al tx)).2 = 2 := by
          show topKind (if kindP n = 1 then o.2 else o.2 ++ [n]) = 2
          rw [if_neg hk1, topKind_snoc, hk2]
        have hnext : ∃ r', r.flatMap itemEv = none :: r' := by
          cases r with
          | nil =>
            exfalso
            have h0 : (stepI o (iStart n al tx)).2 = [] := hend
            rw [h0] at htop
            simp [topKind] at htop
          | cons j r2 =>
            match j, hr with
            | .inl t, hr => exact absurd htop hr.1.2.2.2
            | .inr (.inl (n2, al2, tx2)), hr => exact absurd htop hr.1.2.2.2.2.2.1
            | .inr (.inr n2), hr => exact ⟨r2.flatMap itemEv, rfl⟩
        have htr : topRaw (n :: o.2.reverse) := hk2
        rw [e1]
        refine ⟨⟨⟨h1, h2, hl, hnr, fun e => absurd e hk1⟩, htx, fun _ => ⟨h5, hnext⟩, i1⟩, ?_⟩
        show startW n al ++ ((if topRaw (n :: o.2.reverse) then tx else escP [38, 60, 62] tx) ++ wEv (n :: o.2.reverse) (r.flatMap itemEv)) = _
        rw [if_pos htr, i2]
  | .inr (.inr n) :: r, o, h, hend => by
    obtain ⟨⟨h1, h2, st', hst⟩, hr⟩ := h
    obtain ⟨i1, i2⟩ := items_ev r _ hr hend
    have e1 : (Sum.inr (Sum.inr n) :: r : List Item).flatMap itemEv = none :: r.flatMap itemEv := rfl
    have e2 : (stepI o (iEnd n)).2 = st' := by show o.2.dropLast = _; rw [hst]; simp
    rw [e2] at i1 i2
    have e3 : o.2.reverse = n :: st'.reverse := by rw [hst]; simp
    rw [e1, e3]
    refine ⟨i1, ?_⟩
    show (if kindP n = 1 then [] else endW n) ++ wEv st'.reverse (r.flatMap itemEv) = _
    rw [if_neg h2, i2]
    simp [writeI, itemW]
theorem evF_zero {d : Nat} {f : GF d} (h : evF d f = []) : glen d f = 0 := by
  cases d with
  | zero => rfl
  | succ d =>
    show (gnodes d f).length = 0
    cases hg : gnodes d f with
    | nil => rfl
    | cons x y =>
      have : evF (d + 1) f = (gnodes d f).flatMap (evN (evF d)) := rfl
      rw [this, hg] at h
      simp [evN] at h
      split at h <;> simp at h
/-- The first event of a list of nodes closes nothing. -/
theorem evF_first {d : Nat} {f : GF d} {R r : List Ev} (h : evF d f ++ R = none :: r) : evF d f = [] := by
  cases d with
  | zero => rfl
  | succ d =>
    have e : evF (d + 1) f = (gnodes d f).flatMap (evN (evF d)) := rfl
    rw [e] at h ⊢
    cases hg : gnodes d f with
    | nil => rfl
    | cons x y =>
      rw [hg] at h
      simp [evN] at h
      split at h <;> simp at h
theorem writeF_zero {d : Nat} {f : GF d} (h : glen d f = 0) : writeF d f = [] := by
  cases d with
  | zero => rfl
  | succ d =>
    have h1 : (gnodes d f).length = 0 := h
    have h2 := List.eq_nil_of_length_eq_zero h1
    show (gnodes d f).flatMap _ = []
    rw [h2]
    rfl
/-- A raw element's kids. -/
theorem raw_kids {d : Nat} {k : GF d} {n : List UInt8} {ss : List (List UInt8)} {R : List Ev} (hnice : niceF d k) (hk : kindP n = 2) (h : okEv (n :: ss) (evF d k ++ none :: R)) :
    rawOk d k n = true ∧ okEv ss R ∧ wEv (n :: ss) (evF d k ++ none :: R) = rawW d k ++ (endW n ++ wEv ss R) ∧ depthF d k = 0 := by
  have hk1 : ¬ kindP n = 1 := by omega
  have htr : topRaw (n :: ss) := hk
  cases d with
  | zero =>
    refine ⟨rfl, h, ?_, rfl⟩
    show (if kindP n = 1 then [] else endW n) ++ wEv ss R = _
    rw [if_neg hk1]
    rfl
  | succ d =>
    have e : evF (d + 1) k = (gnodes d k).flatMap (evN (evF d)) := rfl
    rw [e] at h ⊢
    have hro : rawOk (d + 1) k n = (match gnodes d k with | [] => true | [x] => textG x && !holdsEndP n x.2.2.2 | _ => false) := rfl
    have hrw : rawW (d + 1) k = (gnodes d k).flatMap (fun n => n.2.2.2) := rfl
    have hdf : depthF (d + 1) k = (gnodes d k).foldr (fun n m => max (depthF d n.2.2.1 + (if n.1 = [] then 0 else 1)) m) 0 := rfl
    have hni : ∀ x ∈ gnodes d k, niceN (niceF d) x := hnice
    rw [hro, hrw, hdf]
    cases hg : gnodes d k with
    | nil =>
      rw [hg] at h
      refine ⟨rfl, h, ?_, rfl⟩
      show (if kindP n = 1 then [] else endW n) ++ wEv ss R = _
      rw [if_neg hk1]
      rfl
    | cons x y =>
      rw [hg] at h hni
      obtain ⟨x1, x2, x3⟩ := hni x (by simp)
      by_cases hx : x.1 = []
      · obtain ⟨t1, t2, t3⟩ := x1 hx
        have ev1 : (x :: y).flatMap (evN (evF d)) ++ none :: R = evText x.2.2.2 :: (y.flatMap (evN (evF d)) ++ none :: R) := by simp [evN, hx]
        rw [ev1] at h ⊢
        obtain ⟨g1, g2, g3⟩ := h
        obtain ⟨g4, r', g5⟩ := g2 htr
        have hy : y = [] := by
          cases y with
          | nil => rfl
          | cons z y2 =>
            exfalso
            simp [evN] at g5
            split at g5 <;> simp at g5
        subst hy
        refine ⟨?_, g3, ?_, ?_⟩
        · show (textG x && !holdsEndP n x.2.2.2) = true
          have g4' : holdsEndP n x.2.2.2 = false := g4
          rw [g4']
          simp [textG, hx, t1, t2, t3]
        · show (if topRaw (n :: ss) then x.2.2.2 else _) ++ ((if kindP n = 1 then [] else endW n) ++ wEv ss R) = _
          rw [if_pos htr, if_neg hk1]
          simp
        · show max (depthF d x.2.2.1 + (if x.1 = [] then 0 else 1)) 0 = 0
          rw [depth_none d x.2.2.1 t3, if_pos hx]
          rfl
      · exfalso
        have ev1 : (x :: y).flatMap (evN (evF d)) ++ none :: R = evOpen x.1 x.2.1 :: (evF d x.2.2.1 ++ none :: (y.flatMap (evN (evF d)) ++ none :: R)) := by simp [evN, hx]
        rw [ev1] at h
        exact h.1.2.2.2.1 htr
/-- A tree whose events may be written. -/
theorem tree_ev : ∀ (d : Nat) (f : GF d) (ss : List (List UInt8)) (R : List Ev), niceF d f → ss.length ≤ 12 → ¬ topRaw ss → okEv ss (evF d f ++ R) →
    soundF d f = true ∧ depthF d f + ss.length ≤ 12 ∧ okEv ss R ∧ wEv ss (evF d f ++ R) = writeF d f ++ wEv ss R
  | 0, _, ss, R, _, hs, _, h => ⟨rfl, by show 0 + _ ≤ 12; omega, h, rfl⟩
  | d + 1, f, ss, R, hnice, hs, hnr, h => by
    have ih := tree_ev d
    have e : evF (d + 1) f = (gnodes d f).flatMap (evN (evF d)) := rfl
    have e1 : soundF (d + 1) f = (gnodes d f).all (fun n => textG n || elemG (soundF d) n) := rfl
    have e2 : depthF (d + 1) f = (gnodes d f).foldr (fun n m => max (depthF d n.2.2.1 + (if n.1 = [] then 0 else 1)) m) 0 := rfl
    have e3 : writeF (d + 1) f = (gnodes d f).flatMap (nodeW (writeF d)) := rfl
    have hni : ∀ x ∈ gnodes d f, niceN (niceF d) x := hnice
    rw [e] at h ⊢
    rw [e1, e2, e3]
    generalize gnodes d f = l at h hni
    induction l with
    | nil => exact ⟨rfl, by show 0 + _ ≤ 12; omega, h, rfl⟩
    | cons x y ihl =>
      obtain ⟨x1, x2, x3⟩ := hni x (by simp)
      rw [List.flatMap_cons, List.append_assoc] at h ⊢
      by_cases hx : x.1 = []
      · obtain ⟨t1, t2, t3⟩ := x1 hx
        have hev : evN (evF d) x = [evText x.2.2.2] := by simp [evN, hx]
        rw [hev] at h ⊢
        obtain ⟨g1, g2, g3⟩ := h
        obtain ⟨y1, y2, y3, y4⟩ := ihl g3 (fun z hz => hni z (by simp [hz]))
        refine ⟨?_, ?_, y3, ?_⟩
        · rw [List.all_cons, y1]
          simp [textG, hx, t1, t2, t3]
        · show max (depthF d x.2.2.1 + (if x.1 = [] then 0 else 1)) _ + _ ≤ 12
          rw [depth_none d x.2.2.1 t3, if_pos hx]
          simpa using y2
        · show (if topRaw ss then x.2.2.2 else escP [38, 60, 62] x.2.2.2) ++ wEv ss (y.flatMap (evN (evF d)) ++ R) = _
          rw [if_neg hnr, y4, List.flatMap_cons]
          have : nodeW (writeF d) x = escP [38, 60, 62] x.2.2.2 := by unfold nodeW; rw [if_pos hx]
          rw [this]
          simp
      · have hev : evN (evF d) x ++ (y.flatMap (evN (evF d)) ++ R) = evOpen x.1 x.2.1 :: (evF d x.2.2.1 ++ none :: (y.flatMap (evN (evF d)) ++ R)) := by simp [evN, hx]
        rw [hev] at h ⊢
        obtain ⟨⟨g1, g2, g3, g4, g5⟩, g6⟩ := h
        have htx := x2 hx
        have hwx : nodeW (writeF d) x = startW x.1 x.2.1 ++ (if kindP x.1 = 1 then [] else (if kindP x.1 = 2 then rawW d x.2.2.1 else writeF d x.2.2.1) ++ endW x.1) := by unfold nodeW; rw [if_neg hx]
        have core : kidsOk (soundF d) x = true ∧ depthF d x.2.2.1 + 1 + ss.length ≤ 12 ∧ okEv ss (y.flatMap (evN (evF d)) ++ R) ∧ startW x.1 x.2.1 ++ wEv (x.1 :: ss) (evF d x.2.2.1 ++ none :: (y.flatMap (evN (evF d)) ++ R)) = nodeW (writeF d) x ++ wEv ss (y.flatMap (evN (evF d)) ++ R) := by
          by_cases hk1 : kindP x.1 = 1
          · obtain ⟨r', hr'⟩ := g5 hk1
            have hev0 := evF_first hr'
            have hg0 := evF_zero hev0
            rw [hev0] at g6 ⊢
            refine ⟨?_, ?_, g6, ?_⟩
            · rw [kidsOk, if_pos hk1, hg0]
              rfl
            · rw [depth_none d _ hg0]
              omega
            · show startW x.1 x.2.1 ++ ((if kindP x.1 = 1 then [] else endW x.1) ++ wEv ss (y.flatMap (evN (evF d)) ++ R)) = _
              rw [hwx, if_pos hk1, if_pos hk1]
              simp
          · by_cases hk2 : kindP x.1 = 2
            · obtain ⟨r1, r2, r3, r4⟩ := raw_kids x3 hk2 g6
              refine ⟨?_, ?_, r2, ?_⟩
              · rw [kidsOk, if_neg hk1, if_pos hk2]
                exact r1
              · rw [r4]
                omega
              · rw [r3, hwx, if_neg hk1, if_pos hk2]
                simp
            · have hnr2 : ¬ topRaw (x.1 :: ss) := hk2
              obtain ⟨r1, r2, r3, r4⟩ := ih x.2.2.1 (x.1 :: ss) (none :: (y.flatMap (evN (evF d)) ++ R)) x3 (by simp; omega) hnr2 g6
              refine ⟨?_, ?_, r3, ?_⟩
              · rw [kidsOk, if_neg hk1, if_neg hk2]
                exact r1
              · simp at r2
                omega
              · rw [r4]
                show startW x.1 x.2.1 ++ (writeF d x.2.2.1 ++ ((if kindP x.1 = 1 then [] else endW x.1) ++ wEv ss (y.flatMap (evN (evF d)) ++ R))) = _
                rw [if_neg hk1, hwx, if_neg hk1, if_neg hk2]
                simp
        obtain ⟨k1, k2, k3, k4⟩ := core
        obtain ⟨y1, y2, y3, y4⟩ := ihl k3 (fun z hz => hni z (by simp [hz]))
        refine ⟨?_, ?_, y3, ?_⟩
        · rw [List.all_cons, y1]
          have : elemG (soundF d) x = true := by
            unfold elemG
            rw [g1, g2, k1, htx]
            simp
          rw [this]
          simp
        · show max (depthF d x.2.2.1 + (if x.1 = [] then 0 else 1)) _ + _ ≤ 12
          rw [if_neg hx]
          omega
        · show startW x.1 x.2.1 ++ wEv (x.1 :: ss) _ = _
          rw [k4, y4, List.flatMap_cons]
          simp
/-- A tree of a row of items: it may be written, and is written so. -/
theorem tree_items {d : Nat} {f : GF d} {I : List Item} (hn : niceF d f) (hI : stableL ([], []) I) (hend : (runI ([], []) I).2 = []) (he : evF d f = I.flatMap itemEv) : checkF d f = 0 ∧ writeF d f = writeI I := by
  obtain ⟨i1, i2⟩ := items_ev I ([], []) hI hend
  have i1' : okEv [] (evF d f ++ []) := by rw [List.append_nil, he]; exact i1
  obtain ⟨t1, t2, _, t4⟩ := tree_ev d f [] [] hn (by simp) (by decide) i1'
  refine ⟨?_, ?_⟩
  · rw [checkF, if_neg (by simp at t2; omega), t1]
    rfl
  · have : wEv [] (evF d f ++ []) = writeI I := by rw [List.append_nil, he]; exact i2
    rw [this] at t4
    rw [t4]
    show _ = _ ++ []
    simp
end Go.Proofs.YtlpmjpmefdpcmaaGreatDoor
/- How much there is in a tree that is read. No function of the program in it. -/
namespace Scrub
open Go
theorem valueP_len (r : List UInt8) : (valueP r).1.length + (valueP r).2.2.length ≤ r.length := by
  have h0 := dropWhile_le blankB r
  unfold valueP
  split
  · have h1 := signs_length _ (Lib.cut ((r.dropWhile blankB).drop 1) ((r.dropWhile blankB).take 1)).1 (Nat.le_refl _)
    have h2 : (Lib.cut ((r.dropWhile blankB).drop 1) ((r.dropWhile blankB).take 1)).1.length + (Lib.cut ((r.dropWhile blankB).drop 1) ((r.dropWhile blankB).take 1)).2.1.length ≤ ((r.dropWhile blankB).drop 1).length := by
      unfold Lib.cut
      split
      · simp only [List.length_take, List.length_drop]
        omega
      · simp
    rw [List.length_drop] at h2
    simp only
    omega
  · have h1 := signs_length _ ((r.dropWhile blankB).takeWhile (fun c => !endsValueB c)) (Nat.le_refl _)
    have h2 : ((r.dropWhile blankB).takeWhile (fun c => !endsValueB c)).length + ((r.dropWhile blankB).dropWhile (fun c => !endsValueB c)).length = (r.dropWhile blankB).length := by
      rw [← List.length_append, List.takeWhile_append_dropWhile]
    simp only
    omega
theorem attrNameP_len {r : List UInt8} (h : r ≠ []) : (attrNameP r).1.length + (attrNameP r).2.length = r.length ∧ 1 ≤ (attrNameP r).1.length := by
  cases r with
  | nil => exact absurd rfl h
  | cons c t =>
    have h2 : (t.takeWhile (fun c => !endsAttrB c)).length + (t.dropWhile (fun c => !endsAttrB c)).length = t.length := by
      rw [← List.length_append, List.takeWhile_append_dropWhile]
    have e1 : (attrNameP (c :: t)).1.length = 1 + (t.takeWhile (fun c => !endsAttrB c)).length := by simp [attrNameP, small]; omega
    have e2 : (attrNameP (c :: t)).2.length = (t.dropWhile (fun c => !endsAttrB c)).length := rfl
    rw [e1, e2, List.length_cons]
    omega
theorem bulkA_append (a b : List (List UInt8 × List UInt8)) : bulkA (a ++ b) = bulkA a + bulkA b := by
  induction a with
  | nil => simp [bulkA]
  | cons x t ih =>
    show x.1.length + x.2.length + 1 + bulkA (t ++ b) = x.1.length + x.2.length + 1 + bulkA t + bulkA b
    omega
theorem bulkA_with (al : List (List UInt8 × List UInt8)) (a : List UInt8 × List UInt8) : bulkA (withP al a) ≤ bulkA al + (a.1.length + a.2.length + 1) := by
  unfold withP
  split
  · omega
  · rw [bulkA_append]
    show _ + (a.1.length + a.2.length + 1 + 0) ≤ _
    omega
theorem attrsF_bulk : ∀ (f : Nat) (r : List UInt8) (al al' : List (List UInt8 × List UInt8)) (r' : List UInt8), attrsF f r al = some (al', r') → bulkA al' + 2 * r'.length ≤ bulkA al + 2 * r.length
  | 0, _, _, _, _, h => by simp [attrsF] at h
  | f + 1, r, al, al', r', h => by
    unfold attrsF at h
    have h0 := dropWhile_le blankSlashB r
    split at h
    · cases h
    · rename_i he
      have hne : r.dropWhile blankSlashB ≠ [] := by
        intro e
        rw [e] at he
        simp at he
      obtain ⟨n1, n2⟩ := attrNameP_len hne
      have h2 := dropWhile_le blankB (attrNameP (r.dropWhile blankSlashB)).2
      split at h
      · injection h with h
        simp only [Prod.mk.injEq] at h
        obtain ⟨rfl, rfl⟩ := h
        rw [List.length_drop]
        omega
      · split at h
        · rename_i hp
          split at h
          · have h3 := valueP_len (((attrNameP (r.dropWhile blankSlashB)).2.dropWhile blankB).drop 1)
            rw [List.length_drop] at h3
            have hpl := isPrefixOf_len hp
            have h4 := attrsF_bulk f _ _ _ _ h
            have h5 := bulkA_with al ((attrNameP (r.dropWhile blankSlashB)).1, (valueP (((attrNameP (r.dropWhile blankSlashB)).2.dropWhile blankB).drop 1)).1)
            simp only at h5
            simp at hpl
            omega
          · cases h
        · have h4 := attrsF_bulk f _ _ _ _ h
          have h5 := bulkA_with al ((attrNameP (r.dropWhile blankSlashB)).1, [])
          simp only [List.length_nil] at h5
          omega
theorem name_len (r : List UInt8) : (small (r.takeWhile nameB)).length + (r.dropWhile nameB).length = r.length := by
  have e : (small (r.takeWhile nameB)).length = (r.takeWhile nameB).length := by simp [small]
  rw [e, ← List.length_append, List.takeWhile_append_dropWhile]
theorem startP_bulk {r nm : List UInt8} {al : List (List UInt8 × List UInt8)} {tx rest : List UInt8} (h : startP r = some (nm, al, tx, rest)) : nm.length + bulkA al + tx.length + 2 * rest.length ≤ 2 * r.length := by
  unfold startP at h
  have h0 := name_len (r.drop 1)
  rw [List.length_drop] at h0
  split at h
  · cases h
  · rename_i al' r3 ha
    have h1 := attrsF_bulk _ _ _ _ _ ha
    have e0 : bulkA ([] : List (List UInt8 × List UInt8)) = 0 := rfl
    split at h
    · injection h with h
      simp only [Prod.mk.injEq] at h
      obtain ⟨rfl, rfl, rfl, rfl⟩ := h
      have h5 := runP_len (fun x => endsRawP x (small ((r.drop 1).takeWhile nameB))) r3
      unfold rawP
      omega
    · injection h with h
      simp only [Prod.mk.injEq] at h
      obtain ⟨rfl, rfl, rfl, rfl⟩ := h
      simp only [List.length_nil]
      omega
theorem nextF_bulk : ∀ (f : Nat) (r : List UInt8) (s : Int) (nm : List UInt8) (al : List (List UInt8 × List UInt8)) (tx rest : List UInt8), nextF f r = some ((s, nm, al, tx), rest) → s = 1 → nm.length + bulkA al + tx.length + 2 * rest.length ≤ 2 * r.length
  | 0, _, _, _, _, _, _, h, _ => by simp [nextF] at h
  | f + 1, r, s, nm, al, tx, rest, h, hs => by
    unfold nextF at h
    split at h
    · cases h
    · rename_i he
      have hne : r ≠ [] := by intro e; rw [e] at he; simp at he
      split at h
      · have h1 := comment_lt r hne
        have := nextF_bulk f _ _ _ _ _ _ h hs
        omega
      · split at h
        · have h1 := endP_lt r hne
          split at h
          · injection h with h
            simp only [Prod.mk.injEq] at h
            obtain ⟨⟨rfl, _⟩, _⟩ := h
            omega
          · have := nextF_bulk f _ _ _ _ _ _ h hs
            omega
        · split at h
          · split at h
            · cases h
            · rename_i nm' al' tx' rest' hsp
              injection h with h
              simp only [Prod.mk.injEq] at h
              obtain ⟨⟨rfl, rfl, rfl, rfl⟩, rfl⟩ := h
              exact startP_bulk hsp
          · injection h with h
            simp only [Prod.mk.injEq] at h
            obtain ⟨⟨rfl, _⟩, _⟩ := h
            omega
end Scrub
namespace Go.Proofs.YtlpmjpmefdpcmaaGreatDoor
open Go.RowKit Scrub Go.Shelf
/-- How much there is in events. -/
def evBulk : List Ev → Nat
  | [] => 0
  | some (.inl t) :: r => t.length + 1 + evBulk r
  | some (.inr (n, al)) :: r => n.length + bulkA al + 1 + evBulk r
  | none :: r => evBulk r
theorem evBulk_append : ∀ a b : List Ev, evBulk (a ++ b) = evBulk a + evBulk b
  | [], b => by simp [evBulk]
  | some (.inl t) :: r, b => by
    have := evBulk_append r b
    simp only [List.cons_append, evBulk]
    omega
  | none :: r, b => by
    have := evBulk_append r b
    simp only [List.cons_append, evBulk]
    omega
  | some (.inr x) :: r, b => by
    have := evBulk_append r b
    obtain ⟨n, al⟩ := x
    simp only [List.cons_append, evBulk]
    omega
theorem evBulk_none (n : Nat) : evBulk (List.replicate n none) = 0 := by
  induction n with
  | zero => rfl
  | succ n ih => simp [List.replicate_succ, evBulk, ih]
theorem bulkF_ev : ∀ (d : Nat) (f : GF d), niceF d f → bulkF d f = evBulk (evF d f)
  | 0, _, _ => rfl
  | d + 1, f, h => by
    have ih := bulkF_ev d
    show (gnodes d f).foldr (fun n m => bulkN (bulkF d) n + m) 0 = evBulk ((gnodes d f).flatMap (evN (evF d)))
    have hni : ∀ x ∈ gnodes d f, niceN (niceF d) x := h
    generalize gnodes d f = l at hni
    induction l with
    | nil => rfl
    | cons x y ihl =>
      obtain ⟨x1, x2, x3⟩ := hni x (by simp)
      have h1 := ihl (fun z hz => hni z (by simp [hz]))
      rw [List.flatMap_cons, evBulk_append, ← h1]
      show bulkN (bulkF d) x + _ = _
      congr 1
      unfold bulkN
      rw [ih x.2.2.1 x3]
      by_cases hx : x.1 = []
      · obtain ⟨t1, t2, t3⟩ := x1 hx
        have e : evF d x.2.2.1 = [] := by
          cases d with
          | zero => rfl
          | succ d =>
            have e : gnodes d x.2.2.1 = [] := List.eq_nil_of_length_eq_zero t3
            show (gnodes d x.2.2.1).flatMap _ = []
            rw [e]
            rfl
        simp only [evN, hx, if_true, t2, e, evBulk, bulkA, List.foldr_nil, List.length_nil]
        omega
      · simp only [evN, hx, if_false, List.cons_append, evBulk, evBulk_append, x2 hx, List.length_nil]
        omega
theorem closeE_bulk (E : List Ev) (st : List (List UInt8)) (p : Nat) : evBulk (closeE E st p) = evBulk E := by
  rw [closeE, evBulk_append, evBulk_none]
  rfl
theorem pushP_bulk (E : List Ev) (st : List (List UInt8)) (n : List UInt8) (al : List (List UInt8 × List UInt8)) : evBulk (pushP E st n al).1 ≤ evBulk E + (n.length + bulkA al + 1) := by
  unfold pushP
  split
  · rw [evBulk_append]
    simp [evBulk]
  · simp only
    omega
theorem rowP_bulk (E : List Ev) (st : List (List UInt8)) (al : List (List UInt8 × List UInt8)) : evBulk (rowP E st al).1 ≤ evBulk E + (bulkA al + 3) := by
  unfold rowP
  split
  · simp only
    omega
  · have := pushP_bulk (closeE E st (lastIdx (fun m => m == [116, 97, 98, 108, 101]) st + 1).toNat) (st.take (lastIdx (fun m => m == [116, 97, 98, 108, 101]) st + 1).toNat) [116, 114] al
    rw [closeE_bulk] at this
    simp at this
    omega
theorem cellP_bulk (E : List Ev) (st : List (List UInt8)) (al : List (List UInt8 × List UInt8)) : evBulk (cellP E st al).1 ≤ evBulk E + (bulkA al + 6) := by
  unfold cellP
  split
  · simp only
    omega
  · have h1 := pushP_bulk (cellAhead E st).1 (cellAhead E st).2 [116, 100] al
    have h2 : evBulk (cellAhead E st).1 ≤ evBulk E + 3 := by
      unfold cellAhead
      split
      · simp only
        rw [closeE_bulk]
        omega
      · have := rowP_bulk E st []
        simp [bulkA] at this
        exact this
    simp at h1
    omega
theorem openP_bulk (E : List Ev) (st : List (List UInt8)) : evBulk (openP E st).1 ≤ evBulk E + 6 := by
  unfold openP
  split
  · have := cellP_bulk E st []
    simp [bulkA] at this
    exact this
  · simp only
    omega
theorem addText_bulk (E : List Ev) (t : List UInt8) : evBulk (addText E t) ≤ evBulk E + (t.length + 1) := by
  rcases addText_cases E t with ⟨E0, t0, h1, h2⟩ | h
  · rw [h2, h1, evBulk_append, evBulk_append]
    simp [evBulk]
    omega
  · rw [h, evBulk_append]
    simp [evBulk]
theorem paraK_bulk (k : Int) (o : St) : evBulk (paraK k o).1 = evBulk o.1 := by
  unfold paraK
  split
  · unfold paraP
    split
    · exact closeE_bulk _ _ _
    · rfl
  · rfl
theorem itemK_bulk (n : List UInt8) (o : St) : evBulk (itemK n o).1 = evBulk o.1 := by
  unfold itemK
  split
  · unfold itemP
    split
    · exact closeE_bulk _ _ _
    · rfl
  · rfl
theorem otherP_bulk (E : List Ev) (st : List (List UInt8)) (n : List UInt8) (al : List (List UInt8 × List UInt8)) (tx : List UInt8) : evBulk (otherP E st n al tx).1 ≤ evBulk E + (n.length + bulkA al + tx.length + 14) := by
  have h1 := openP_bulk E st
  unfold otherP
  have e : evBulk (itemK n (paraK (kindP n) (openP E st))).1 = evBulk (openP E st).1 := by rw [itemK_bulk, paraK_bulk]
  generalize itemK n (paraK (kindP n) (openP E st)) = o3 at e
  rw [tailP_eq]
  split
  · have h2 := pushP_bulk o3.1 o3.2 n al
    have h3 : evBulk (putT (pushP o3.1 o3.2 n al) tx).1 ≤ evBulk (pushP o3.1 o3.2 n al).1 + (tx.length + 7) := by
      unfold putT
      split
      · omega
      · have h4 := openP_bulk (pushP o3.1 o3.2 n al).1 (pushP o3.1 o3.2 n al).2
        have h5 := addText_bulk (openP (pushP o3.1 o3.2 n al).1 (pushP o3.1 o3.2 n al).2).1 tx
        simp only
        omega
    have h6 : evBulk (voidK (kindP n) (putT (pushP o3.1 o3.2 n al) tx)).1 = evBulk (putT (pushP o3.1 o3.2 n al) tx).1 := by
      unfold voidK
      split
      · exact closeE_bulk _ _ _
      · rfl
    rw [h6]
    omega
  · simp only
    omega
theorem step_bulk {o : St} {r : List UInt8} {s : Int} {nm : List UInt8} {al : List (List UInt8 × List UInt8)} {tx rest : List UInt8} (hx : nextP r = some ((s, nm, al, tx), rest)) : evBulk (stepT o s nm al tx).1 + 20 * rest.length ≤ evBulk o.1 + 20 * r.length := by
  have hok := nextP_ok hx
  have hlt := hok.lt
  have hlen := hok.len
  rcases hok.kind with ⟨rfl, rfl, rfl, htx⟩ | ⟨rfl, hnm⟩ | ⟨rfl, hnm, rfl, rfl⟩
  · have h1 := openP_bulk o.1 o.2
    have h2 := addText_bulk (openP o.1 o.2).1 tx
    show evBulk (addText (openP o.1 o.2).1 tx) + _ ≤ _
    omega
  · have hb := nextF_bulk _ _ _ _ _ _ _ hx rfl
    show evBulk (startT o.1 o.2 nm al tx).1 + _ ≤ _
    unfold startT
    split
    · have := rowP_bulk o.1 o.2 al
      omega
    · split
      · have := cellP_bulk o.1 o.2 al
        omega
      · have := otherP_bulk o.1 o.2 nm al tx
        omega
  · show evBulk (endE o.1 o.2 nm).1 + _ ≤ _
    unfold endE
    split
    · simp only
      omega
    · simp only
      rw [closeE_bulk]
      omega
theorem readF_bulk : ∀ (f : Nat) (r : List UInt8) (o : St), evBulk (readF f r o).1 ≤ evBulk o.1 + 20 * r.length
  | 0, r, o => by
    show evBulk o.1 ≤ _
    omega
  | f + 1, r, o => by
    unfold readF
    split
    · omega
    · rename_i s nm al tx rest hx
      have h1 := readF_bulk f rest (stepT o s nm al tx)
      have h2 := step_bulk (o := o) hx
      omega
theorem readP_bulk (r : List UInt8) : evBulk (readP r) ≤ 20 * r.length := by
  unfold readP
  rw [closeE_bulk]
  have := readF_bulk (r.length + 1) r ([], [])
  simp [evBulk] at this
  exact this
end Go.Proofs.YtlpmjpmefdpcmaaGreatDoor
