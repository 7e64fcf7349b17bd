import Derived.Test.YtlpmjpmefdpcmaaGreatDoorQLiesH
import Derived.Deep.LoopGhost
/- Nodes that are the same. No function of the program in it. -/
namespace Go.Proofs.YtlpmjpmefdpcmaaGreatDoor
open Go.RowKit Scrub Go.Shelf
theorem take_same {α : Type} {a b : List α} {k : Nat} (h1 : k < a.length) (h2 : k < b.length) (h : a.take k = b.take k) (he : a[k] = b[k]) : a.take (k + 1) = b.take (k + 1) := by
  rw [List.take_succ_eq_append_getElem h1, List.take_succ_eq_append_getElem h2, h, he]
/-- Two nodes are the same. -/
def SameNd {d1 d2 : Nat} (x : GN d1) (y : GN d2) : Prop := x.1 = y.1 ∧ x.2.1 = y.2.1 ∧ x.2.2.2 = y.2.2.2 ∧ SameF d1 d2 x.2.2.1 y.2.2.1
theorem sameL_mk {d1 d2 : Nat} : ∀ {l : List (GN d1)} {m : List (GN d2)}, l.length = m.length → (∀ i (h1 : i < l.length) (h2 : i < m.length), SameNd l[i] m[i]) → SameL d1 d2 (SameF d1 d2) l m
  | [], [], _, _ => trivial
  | x :: l, y :: m, h, hi => ⟨hi 0 (by simp) (by simp), sameL_mk (l := l) (m := m) (by simpa using h) (fun i h1 h2 => hi (i + 1) (by simpa using h1) (by simpa using h2))⟩
  | [], _ :: _, h, _ => by simp at h
  | _ :: _, [], h, _ => by simp at h
end Go.Proofs.YtlpmjpmefdpcmaaGreatDoor
/- The reference: the same trees. (As Same1, of another function.) -/
namespace Go.Proofs.YtlpmjpmefdpcmaaGreatDoor
open Go.RowKit Scrub Go.Shelf
/-- same, of lists that are the same, to a depth. -/
def RSameOk (d1 : Nat) : Prop := ∀ (d2 : Nat) (f : GF d1) (g : GF d2) (v1 v2 : Value) (w : World), Lies d1 w v1 f → Lies d2 w v2 g → SameF d1 d2 f g → bulkF d1 f ≤ 1099511627776 →
  Calls Tryz.prog 29 #[v1, v2] w fun e w' => e = .returned (.bool true) ∧ ∃ n, w' = w.drewN n
set_option maxRecDepth 100000 in
set_option maxHeartbeats 2000000 in
theorem rSame_empty (a1 a2 : Option Addr) (c1 c2 : Nat) (w : World) :
    Calls Tryz.prog 29 #[.slice a1 0 c1, .slice a2 0 c2] w fun e w' => e = .returned (.bool true) ∧ ∃ n, w' = w.drewN n := by
  go_enter Tryz.func29, Tryz.ntmps29
  go_wp2_with fail
  go_loopg [5] 0 (fun g x wr => g = 0 ∧ wr = w ∧ x = .int .i64 0)
  case atStart => exact ⟨rfl, rfl, rfl⟩
  case round =>
    obtain ⟨rfl, rfl, rfl⟩ := hrel
    go_wp2_with fail
    go_ret
    exact ⟨rfl, 0, rfl⟩
theorem rSame_zero : RSameOk 0 := by
  intro d2 f g v1 v2 w h1 h2 hs _
  obtain ⟨a1, c1, rfl⟩ := h1
  obtain ⟨a2, c2, hv⟩ := h2.form
  have hz : glen d2 g = 0 := hs
  rw [hz] at hv
  subst hv
  exact rSame_empty a1 a2 c1 c2 w
set_option maxRecDepth 100000 in
set_option maxHeartbeats 8000000 in
theorem rSame_succ (d1 : Nat) (ih : RSameOk d1) : RSameOk (d1 + 1) := by
  intro d2 f g v1 v2 w h1 h2 hs hb
  cases d2 with
  | zero =>
    obtain ⟨a2, c2, rfl⟩ := h2
    obtain ⟨a1, c1, hv⟩ := h1.form
    have hz : glen (d1 + 1) f = 0 := hs
    rw [hz] at hv
    subst hv
    exact rSame_empty a1 a2 c1 c2 w
  | succ d2 =>
    have hfl := Nat.le_trans (bulkF_len f) hb
    have HBN : Hid (∀ n ∈ gnodes d1 f, bulkN (bulkF d1) n ≤ 1099511627776) := fun n hn => Nat.le_trans (bulkF_mem hn) hb
    obtain ⟨a1, c1, rfl, hc1⟩ := h1
    obtain ⟨a2, c2, rfl, hc2⟩ := h2
    have hs' : SameL d1 d2 (SameF d1 d2) (gnodes d1 f) (gnodes d2 g) := hs
    have hlen := hs'.len
    have HS : Hid _ := hs'.get
    have HC1 : Hid (∀ i (h : i < (gnodes d1 f).length), ∃ g o, a1 = some ⟨g, o, none⟩ ∧ LiesN (Lies d1 w) w g (o + i * 4) (gnodes d1 f)[i]) := hc1
    have HC2 : Hid (∀ i (h : i < (gnodes d2 g).length), ∃ g' o, a2 = some ⟨g', o, none⟩ ∧ LiesN (Lies d2 w) w g' (o + i * 4) (gnodes d2 g)[i]) := hc2
    clear hc1 hc2 hb hs hs'
    generalize gnodes d1 f = l at *
    generalize gnodes d2 g = m at *
    rw [← hlen]
    have HLEN : Hid (l.length = m.length) := hlen
    clear hlen
    go_enter Tryz.func29, Tryz.ntmps29
    go_wp2_with fail
    go_loopg [5] l.length (fun g x wr => ∃ k n : Nat, k ≤ l.length ∧ g = l.length - k ∧ x = .int .i64 (k : Int) ∧ wr = w.drewN n)
    case atStart => exact ⟨0, 0, by omega, rfl, rfl, rfl⟩
    case round =>
      obtain ⟨k, n, hk, hgk, rfl, rfl⟩ := hrel
      have HG : Hid _ := hgk
      clear hgk
      by_cases hlt : k < l.length
      · have hlt2 : k < m.length := by rw [← HLEN.out]; exact hlt
        have hlt' : (k : Int) < (l.length : Int) := by omega
        have hge : (0 : Int) ≤ (k : Int) := by omega
        obtain ⟨g1, o1, rfl, hn1⟩ := HC1.out k hlt
        obtain ⟨g2, o2, rfl, hn2⟩ := HC2.out k hlt2
        obtain ⟨s1, s2, s3, s4⟩ := HS.out k hlt hlt2
        have hbn := HBN.out l[k] (List.getElem_mem hlt)
        generalize l[k] = x at *
        generalize m[k] = y at *
        obtain ⟨av1, kv1, e0, e1, e2, e3, hA1, hK1⟩ := hn1
        obtain ⟨av2, kv2, p0, p1, p2, p3, hA2, hK2⟩ := hn2
        have HIH : Hid (∀ W, W.heap = w.heap → Calls Tryz.prog 29 #[kv1, kv2] W fun e w' => e = .returned (.bool true) ∧ ∃ n', w' = W.drewN n') := fun W hW => ih d2 x.2.2.1 y.2.2.1 kv1 kv2 W (hK1.heap hW) (hK2.heap hW) s4 (by unfold bulkN at hbn; omega)
        rw [← s1] at p0
        rw [← s2] at hA2
        rw [← s3] at p3
        have hal : x.2.1.length ≤ 1099511627776 := by have := bulkA_len x.2.1; unfold bulkN at hbn; omega
        obtain ⟨aa1, ac1, rfl, hca1⟩ := hA1
        obtain ⟨aa2, ac2, rfl, hca2⟩ := hA2
        have HA1 : Hid (∀ i (h : i < x.2.1.length), ∃ g o, aa1 = some ⟨g, o, none⟩ ∧ w.cell? ⟨g, o + i * 2, none⟩ = some (.string ⟨(x.2.1[i]).1.toArray⟩) ∧ w.cell? ⟨g, o + i * 2 + 1, none⟩ = some (.string ⟨(x.2.1[i]).2.toArray⟩)) := hca1
        have HA2 : Hid (∀ i (h : i < x.2.1.length), ∃ g o, aa2 = some ⟨g, o, none⟩ ∧ w.cell? ⟨g, o + i * 2, none⟩ = some (.string ⟨(x.2.1[i]).1.toArray⟩) ∧ w.cell? ⟨g, o + i * 2 + 1, none⟩ = some (.string ⟨(x.2.1[i]).2.toArray⟩)) := hca2
        obtain ⟨ka1, kc1, hkv1⟩ := hK1.form
        obtain ⟨ka2, kc2, hkv2⟩ := hK2.form
        subst hkv1 hkv2
        clear hK1 hK2 hbn s1 s2 s3 s4 hca1 hca2
        generalize x.2.1 = al at *
        generalize x.1 = nm at *
        generalize x.2.2.2 = tx at *
        generalize glen d1 x.2.2.1 = kn1 at *
        generalize glen d2 y.2.2.1 = kn2 at *
        go_wp2_with fail
        go_quiet (fail)
        go_wp2_with fail
        go_loopg [6] al.length (fun g x wr => ∃ j n : Nat, j ≤ al.length ∧ g = al.length - j ∧ x = .int .i64 (j : Int) ∧ wr = w.drewN n)
        case atStart => exact ⟨0, _, by omega, rfl, rfl, by first | rfl | exact drewN2 _ _ _⟩
        case round =>
          obtain ⟨j, n2, hj, hgj, rfl, rfl⟩ := hrel
          have HGJ : Hid _ := hgj
          clear hgj
          by_cases hjl : j < al.length
          · have hjl' : (j : Int) < (al.length : Int) := by omega
            have hgj : (0 : Int) ≤ (j : Int) := by omega
            obtain ⟨ga, oa, rfl, ca0, ca1⟩ := HA1.out j hjl
            obtain ⟨gb, ob, rfl, cb0, cb1⟩ := HA2.out j hjl
            generalize (al[j]).1 = an at *
            generalize (al[j]).2 = avl at *
            go_wp2_with fail
            go_quiet (fail)
            go_wp2_with fail
            go_roundg (al.length - (j + 1))
            case measure => rw [HGJ.out]; omega
            case rel => exact ⟨j + 1, _, by omega, rfl, rfl, by first | rfl | exact drewN2 _ _ _⟩
          · have hjl' : ((j : Int) < (al.length : Int)) = False := by simp; omega
            go_wp2_with fail
            go_quiet (first | (go_at_call 29; refine Calls.mono (HIH.out _ (by rfl)) ?_; rintro e w2 ⟨rfl, n', rfl⟩; exact ⟨rfl, _, by rw [drewN2, Nat.add_assoc]⟩))
            go_wp2_with fail
            go_roundg (l.length - (k + 1))
            case measure => rw [HG.out]; omega
            case rel => exact ⟨k + 1, _, by omega, rfl, rfl, by first | rfl | exact drewN2 _ _ _⟩
      · have hlt' : ((k : Int) < (l.length : Int)) = False := by simp; omega
        go_wp2_with fail
        go_ret
        exact ⟨rfl, n, rfl⟩
theorem rSame_any : ∀ d, RSameOk d
  | 0 => rSame_zero
  | d + 1 => rSame_succ d (rSame_any d)
end Go.Proofs.YtlpmjpmefdpcmaaGreatDoor
/- The reference: are two trees the same? In both ways. -/
namespace Go.Proofs.YtlpmjpmefdpcmaaGreatDoor
open Go.RowKit Scrub Go.Shelf
def SmPost (G : Prop) (w : World) (e : Ending) (w' : World) : Prop := ∃ r, e = .returned (.bool r) ∧ (r = true ↔ G) ∧ ∃ n, w' = w.drewN n
theorem SmPost.no {G : Prop} {w : World} (h : ¬ G) (n : Nat) : SmPost G w (.returned (.bool false)) (w.drewN n) := ⟨false, rfl, ⟨(fun hc => by cases hc), fun hc => absurd hc h⟩, n, rfl⟩
theorem SmPost.yes {G : Prop} {w : World} (h : G) (n : Nat) : SmPost G w (.returned (.bool true)) (w.drewN n) := ⟨true, rfl, ⟨fun _ => h, fun _ => rfl⟩, n, rfl⟩
theorem SmPost.no' {G : Prop} {w W : World} (h : ¬ G) (hW : ∃ n, W = w.drewN n) : SmPost G w (.returned (.bool false)) W := by
  obtain ⟨n, rfl⟩ := hW
  exact SmPost.no h n
def RSmOk (d1 : Nat) : Prop := ∀ (d2 : Nat) (f : GF d1) (g : GF d2) (v1 v2 : Value) (w : World), Lies d1 w v1 f → Lies d2 w v2 g → bulkF d1 f ≤ 1099511627776 →
  Calls Tryz.prog 29 #[v1, v2] w (SmPost (SameF d1 d2 f g) w)
set_option maxRecDepth 100000 in
set_option maxHeartbeats 2000000 in
/-- Lists of other lengths. -/
theorem rSm_len (a1 a2 : Option Addr) (n1 n2 c1 c2 : Nat) (w : World) (h : n1 ≠ n2) (G : Prop) (hG : ¬ G) :
    Calls Tryz.prog 29 #[.slice a1 n1 c1, .slice a2 n2 c2] w (SmPost G w) := by
  have h1 : ((n1 : Int) != (n2 : Int)) = true := by simp; omega
  have h2 : ((n1 : Int) = (n2 : Int)) = False := eq_false (by omega)
  have HN := SmPost.no (w := w) hG 0
  go_enter Tryz.func29, Tryz.ntmps29
  go_wp2_with fail
  go_ret
  exact HN
theorem rSm_zero : RSmOk 0 := by
  intro d2 f g v1 v2 w h1 h2 _
  obtain ⟨a1, c1, rfl⟩ := h1
  obtain ⟨a2, c2, rfl⟩ := h2.form
  by_cases hz : glen d2 g = 0
  · rw [hz]
    refine (rSame_empty a1 a2 c1 c2 w).mono ?_
    rintro e w' ⟨rfl, n, rfl⟩
    exact SmPost.yes (G := SameF 0 d2 f g) hz n
  · exact rSm_len a1 a2 0 (glen d2 g) c1 c2 w (by omega) (SameF 0 d2 f g) hz
set_option maxRecDepth 100000 in
set_option maxHeartbeats 8000000 in
theorem rSm_succ (d1 : Nat) (ih : RSmOk d1) : RSmOk (d1 + 1) := by
  intro d2 f g v1 v2 w h1 h2 hb
  by_cases hlen0 : glen (d1 + 1) f = glen d2 g
  case neg =>
    obtain ⟨a1, c1, rfl⟩ := h1.form
    obtain ⟨a2, c2, rfl⟩ := h2.form
    exact rSm_len a1 a2 _ _ c1 c2 w hlen0 _ (fun hs => hlen0 hs.len)
  cases d2 with
  | zero =>
    obtain ⟨a2, c2, rfl⟩ := h2
    obtain ⟨a1, c1, hv⟩ := h1.form
    have hz : glen (d1 + 1) f = 0 := hlen0
    rw [hz] at hv
    subst hv
    refine (rSame_empty a1 a2 c1 c2 w).mono ?_
    rintro e w' ⟨rfl, n, rfl⟩
    exact SmPost.yes (G := SameF (d1 + 1) 0 f g) hz n
  | succ d2 =>
    have hfl := Nat.le_trans (bulkF_len f) hb
    have HBN : Hid (∀ n ∈ gnodes d1 f, bulkN (bulkF d1) n ≤ 1099511627776) := fun n hn => Nat.le_trans (bulkF_mem hn) hb
    obtain ⟨a1, c1, rfl, hc1⟩ := h1
    obtain ⟨a2, c2, rfl, hc2⟩ := h2
    have hlen : (gnodes d1 f).length = (gnodes d2 g).length := hlen0
    obtain ⟨G, hG⟩ : ∃ G, SameF (d1 + 1) (d2 + 1) f g = G := ⟨_, rfl⟩
    have HYES : Hid ((∀ i (h1 : i < (gnodes d1 f).length) (h2 : i < (gnodes d2 g).length), SameNd (gnodes d1 f)[i] (gnodes d2 g)[i]) → G) := fun h => by
      rw [← hG]
      exact sameL_mk hlen h
    have HNO : Hid (∀ i (h1 : i < (gnodes d1 f).length) (h2 : i < (gnodes d2 g).length), ¬ SameNd (gnodes d1 f)[i] (gnodes d2 g)[i] → ¬ G) := fun i h1 h2 hn hg => by
      rw [← hG] at hg
      have hs' : SameL d1 d2 (SameF d1 d2) (gnodes d1 f) (gnodes d2 g) := hg
      exact hn (hs'.get i h1 h2)
    rw [hG]
    have HC1 : Hid (∀ i (h : i < (gnodes d1 f).length), ∃ g o, a1 = some ⟨g, o, none⟩ ∧ LiesN (Lies d1 w) w g (o + i * 4) (gnodes d1 f)[i]) := hc1
    have HC2 : Hid (∀ i (h : i < (gnodes d2 g).length), ∃ g' o, a2 = some ⟨g', o, none⟩ ∧ LiesN (Lies d2 w) w g' (o + i * 4) (gnodes d2 g)[i]) := hc2
    clear hc1 hc2 hb hlen0 hG
    generalize gnodes d1 f = l at *
    generalize gnodes d2 g = m at *
    rw [← hlen]
    have HLEN : Hid (l.length = m.length) := hlen
    clear hlen
    go_enter Tryz.func29, Tryz.ntmps29
    go_wp2_with fail
    go_loopg [5] l.length (fun g x wr => ∃ k n : Nat, k ≤ l.length ∧ g = l.length - k ∧ x = .int .i64 (k : Int) ∧ wr = w.drewN n ∧ ∀ i (h1 : i < l.length) (h2 : i < m.length), i < k → SameNd l[i] m[i])
    case atStart => exact ⟨0, 0, by omega, rfl, rfl, rfl, fun i _ _ h => by omega⟩
    case round =>
      obtain ⟨k, n, hk, hgk, rfl, rfl, hdone⟩ := hrel
      have HG : Hid _ := hgk
      have HD : Hid _ := hdone
      clear hgk hdone
      by_cases hlt : k < l.length
      · have hlt2 : k < m.length := by rw [← HLEN.out]; exact hlt
        have hlt' : (k : Int) < (l.length : Int) := by omega
        have hge : (0 : Int) ≤ (k : Int) := by omega
        obtain ⟨g1, o1, rfl, hn1⟩ := HC1.out k hlt
        obtain ⟨g2, o2, rfl, hn2⟩ := HC2.out k hlt2
        have hbn := HBN.out l[k] (List.getElem_mem hlt)
        have HNOk : Hid (¬ SameNd l[k] m[k] → ¬ G) := HNO.out k hlt hlt2
        have HGO : Hid (SameNd l[k] m[k] → ∀ i (h1 : i < l.length) (h2 : i < m.length), i < k + 1 → SameNd l[i] m[i]) := fun h i h1 h2 hi => by
          by_cases e : i = k
          · subst e; exact h
          · exact HD.out i h1 h2 (by omega)
        generalize l[k] = x at *
        generalize m[k] = y at *
        obtain ⟨nm1, al1, kf1, tx1⟩ := x
        obtain ⟨nm2, al2, kf2, tx2⟩ := y
        obtain ⟨av1, kv1, e0, e1, e2, e3, hA1, hK1⟩ := hn1
        obtain ⟨av2, kv2, p0, p1, p2, p3, hA2, hK2⟩ := hn2
        simp only at e0 e3 p0 p3 hA1 hA2 hK1 hK2
        have HIH : Hid (∀ W, W.heap = w.heap → Calls Tryz.prog 29 #[kv1, kv2] W (SmPost (SameF d1 d2 kf1 kf2) W)) := fun W hW => ih d2 kf1 kf2 kv1 kv2 W (hK1.heap hW) (hK2.heap hW) (by unfold bulkN at hbn; simp only at hbn; omega)
        have hal : al1.length ≤ 1099511627776 := by have := bulkA_len al1; unfold bulkN at hbn; simp only at hbn; omega
        obtain ⟨ka1, kc1, hkv1⟩ := hK1.form
        obtain ⟨ka2, kc2, hkv2⟩ := hK2.form
        subst hkv1 hkv2
        have HSN : Hid (SameNd (nm1, al1, kf1, tx1) (nm2, al2, kf2, tx2) ↔ nm1 = nm2 ∧ al1 = al2 ∧ tx1 = tx2 ∧ SameF d1 d2 kf1 kf2) := Iff.rfl
        generalize SameNd (nm1, al1, kf1, tx1) (nm2, al2, kf2, tx2) = SN at *
        clear hK1 hK2 hbn
        generalize glen d1 kf1 = kn1 at *
        generalize glen d2 kf2 = kn2 at *
        by_cases hnm : nm1 = nm2
        case neg =>
          have hq : (nm1 == nm2) = false := by simpa using hnm
          have hno : ¬ G := HNOk.out (fun h => hnm (HSN.out.1 h).1)
          obtain ⟨aa1, ac1, rfl, _⟩ := hA1
          obtain ⟨aa2, ac2, rfl, _⟩ := hA2
          clear hnm
          go_wp2_with fail
          go_quiet (fail)
          go_wp2_with fail
          go_ret
          exact SmPost.no' hno ⟨_, by first | rfl | exact drewN2 _ _ _⟩
        subst hnm
        by_cases htx : tx1 = tx2
        case neg =>
          have hq : (tx1 == tx2) = false := by simpa using htx
          have hno : ¬ G := HNOk.out (fun h => htx (HSN.out.1 h).2.2.1)
          obtain ⟨aa1, ac1, rfl, _⟩ := hA1
          obtain ⟨aa2, ac2, rfl, _⟩ := hA2
          clear htx
          go_wp2_with fail
          go_quiet (fail)
          go_wp2_with fail
          go_ret
          exact SmPost.no' hno ⟨_, by first | rfl | exact drewN2 _ _ _⟩
        subst htx
        by_cases hll : al1.length = al2.length
        case neg =>
          have hq : ((al1.length : Int) != (al2.length : Int)) = true := by simp; omega
          have hq2 : ((al1.length : Int) = (al2.length : Int)) = False := eq_false (by omega)
          have hno : ¬ G := HNOk.out (fun h => hll (by rw [(HSN.out.1 h).2.1]))
          obtain ⟨aa1, ac1, rfl, _⟩ := hA1
          obtain ⟨aa2, ac2, rfl, _⟩ := hA2
          clear hll
          go_wp2_with fail
          go_quiet (fail)
          go_wp2_with fail
          go_ret
          exact SmPost.no' hno ⟨_, by first | rfl | exact drewN2 _ _ _⟩
        obtain ⟨aa1, ac1, rfl, hca1⟩ := hA1
        obtain ⟨aa2, ac2, rfl, hca2⟩ := hA2
        have HA1 : Hid _ := hca1
        have HA2 : Hid _ := hca2
        have HNA : Hid (al1 ≠ al2 → ¬ G) := fun h => HNOk.out (fun hh => h (HSN.out.1 hh).2.1)
        have HAL : Hid (∀ (_ : ∀ i (h1 : i < al1.length) (h2 : i < al2.length), al1[i] = al2[i]), al1 = al2) := fun h => List.ext_getElem hll (fun i h1 h2 => h i h1 h2)
        have HLL : Hid _ := hll
        clear hca1 hca2
        rw [← hll] at p1
        clear hll
        go_wp2_with fail
        go_quiet (fail)
        go_wp2_with fail
        go_loopg [6] al1.length (fun g x wr => ∃ j n : Nat, j ≤ al1.length ∧ g = al1.length - j ∧ x = .int .i64 (j : Int) ∧ wr = w.drewN n ∧ ∀ i (h1 : i < al1.length) (h2 : i < al2.length), i < j → al1[i] = al2[i])
        case atStart => exact ⟨0, _, by omega, rfl, rfl, by first | rfl | exact drewN2 _ _ _, fun i _ _ h => by omega⟩
        case round =>
          obtain ⟨j, n2, hj, hgj, rfl, rfl, hda⟩ := hrel
          have HGJ : Hid _ := hgj
          have HDA : Hid _ := hda
          clear hgj hda
          by_cases hjl : j < al1.length
          · have hjl2 : j < al2.length := by rw [← HLL.out]; exact hjl
            have hjl' : (j : Int) < (al1.length : Int) := by omega
            have hgj : (0 : Int) ≤ (j : Int) := by omega
            obtain ⟨ga, oa, rfl, ca0, ca1⟩ := HA1.out j hjl
            obtain ⟨gb, ob, rfl, cb0, cb1⟩ := HA2.out j hjl2
            have HNE : Hid (al1[j] ≠ al2[j] → ¬ G) := fun h => HNA.out (fun e => h (by subst e; rfl))
            have HNX : Hid (al1[j] = al2[j] → ∀ i (h1 : i < al1.length) (h2 : i < al2.length), i < j + 1 → al1[i] = al2[i]) := fun h i h1 h2 hi => by
              by_cases e : i = j
              · subst e; exact h
              · exact HDA.out i h1 h2 (by omega)
            generalize al1[j] = x1 at *
            generalize al2[j] = x2 at *
            obtain ⟨an1, ax1⟩ := x1
            obtain ⟨an2, ax2⟩ := x2
            simp only at ca0 ca1 cb0 cb1
            by_cases hxe : an1 = an2 ∧ ax1 = ax2
            · obtain ⟨rfl, rfl⟩ := hxe
              have hnx := HNX.out rfl
              have HNX2 : Hid _ := hnx
              clear hnx
              go_wp2_with fail
              go_quiet (fail)
              go_wp2_with fail
              go_roundg (al1.length - (j + 1))
              case measure => rw [HGJ.out]; omega
              case rel => exact ⟨j + 1, _, by omega, rfl, rfl, by first | rfl | exact drewN2 _ _ _, HNX2.out⟩
            · have hno : ¬ G := HNE.out (fun e => hxe (by injection e with e1 e2; exact ⟨e1, e2⟩))
              by_cases hn1 : an1 = an2
              · have hx1 : (ax1 == ax2) = false := by
                  have : ax1 ≠ ax2 := fun e => hxe ⟨hn1, e⟩
                  simpa using this
                subst hn1
                clear hxe
                go_wp2_with fail
                go_quiet (fail)
                go_wp2_with fail
                go_ret
                exact SmPost.no' hno ⟨_, by first | rfl | exact drewN2 _ _ _⟩
              · have hx1 : (an1 == an2) = false := by simpa using hn1
                clear hxe hn1
                go_wp2_with fail
                go_quiet (fail)
                go_wp2_with fail
                go_ret
                exact SmPost.no' hno ⟨_, by first | rfl | exact drewN2 _ _ _⟩
          · have hjl' : ((j : Int) < (al1.length : Int)) = False := eq_false (by omega)
            have hae := HAL.out (fun i h1 h2 => HDA.out i h1 h2 (by omega))
            subst hae
            by_cases hsf : SameF d1 d2 kf1 kf2
            · have HI2 : Hid (∀ W, W.heap = w.heap → Calls Tryz.prog 29 #[.slice ka1 kn1 kc1, .slice ka2 kn2 kc2] W fun e w' => e = .returned (.bool true) ∧ ∃ n', w' = W.drewN n') := fun W hW => (HIH.out W hW).mono (fun e w' ⟨r, he, hr, hn⟩ => ⟨by rw [he, hr.2 hsf], hn⟩)
              have hgo := HGO.out (HSN.out.2 (by simpa using hsf))
              have HGO2 : Hid _ := hgo
              clear hgo
              go_wp2_with fail
              go_quiet (first | (go_at_call 29; refine Calls.mono (HI2.out _ (by rfl)) ?_; rintro e w2 ⟨rfl, n', rfl⟩; exact ⟨rfl, _, by rw [drewN2, Nat.add_assoc]⟩))
              go_wp2_with fail
              go_roundg (l.length - (k + 1))
              case measure => rw [HG.out]; omega
              case rel => exact ⟨k + 1, _, by omega, rfl, rfl, by first | rfl | exact drewN2 _ _ _, HGO2.out⟩
            · have HI2 : Hid (∀ W, W.heap = w.heap → Calls Tryz.prog 29 #[.slice ka1 kn1 kc1, .slice ka2 kn2 kc2] W fun e w' => e = .returned (.bool false) ∧ ∃ n', w' = W.drewN n') := fun W hW => (HIH.out W hW).mono (fun e w' ⟨r, he, hr, hn⟩ => ⟨by
                cases r with
                | false => exact he
                | true => exact absurd (hr.1 rfl) hsf, hn⟩)
              have hno : ¬ G := HNOk.out (fun h => hsf (HSN.out.1 h).2.2.2)
              go_wp2_with fail
              go_quiet (first | (go_at_call 29; refine Calls.mono (HI2.out _ (by rfl)) ?_; rintro e w2 ⟨rfl, n', rfl⟩; exact ⟨rfl, _, by rw [drewN2, Nat.add_assoc]⟩))
              go_wp2_with fail
              go_ret
              exact SmPost.no' hno ⟨_, by first | rfl | exact drewN2 _ _ _⟩
      · have hlt' : ((k : Int) < (l.length : Int)) = False := eq_false (by omega)
        have hyes := HYES.out (fun i h1 h2 => HD.out i h1 h2 (by omega))
        go_wp2_with fail
        go_ret
        exact SmPost.yes hyes n
theorem rSm_any : ∀ d, RSmOk d
  | 0 => rSm_zero
  | d + 1 => rSm_succ d (rSm_any d)
end Go.Proofs.YtlpmjpmefdpcmaaGreatDoor
