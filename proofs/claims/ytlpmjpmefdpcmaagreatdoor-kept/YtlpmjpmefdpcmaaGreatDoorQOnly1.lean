import Derived.Test.YtlpmjpmefdpcmaaGreatDoorQStays1
/- scrubkeep.only: is all in a tree what a policy lets by? -/
namespace Go.Proofs.YtlpmjpmefdpcmaaGreatDoor
open Go.RowKit Scrub Go.Shelf
/-- All in a tree is the policy's. -/
def inN {d : Nat} (p : Pol) (V : GF d → Prop) (n : GN d) : Prop := n.1 = [] ∨ (p.1.contains n.1 = true ∧ V n.2.2.1 ∧ n.2.1.all (letsAP p) = true)
def inF (p : Pol) : (d : Nat) → GF d → Prop
  | 0, _ => True
  | d + 1, f => ∀ n ∈ gnodes d f, inN p (inF p d) n
theorem allIn_app {p : Pol} : ∀ {a b : List Ev}, allIn p (a ++ b) → allIn p a ∧ allIn p b
  | [], _, h => ⟨trivial, h⟩
  | some (.inl _t) :: r, _b, h => allIn_app (a := r) h
  | some (.inr (_n, _al)) :: r, _b, h => ⟨⟨h.1, (allIn_app (a := r) h.2).1⟩, (allIn_app (a := r) h.2).2⟩
  | none :: r, _b, h => allIn_app (a := r) h
theorem allIn_tree {p : Pol} : ∀ {d : Nat} {f : GF d}, allIn p (evF d f) → inF p d f
  | 0, _, _ => trivial
  | d + 1, f, h => by
    intro n hn
    have e : evF (d + 1) f = (gnodes d f).flatMap (evN (evF d)) := rfl
    rw [e] at h
    obtain ⟨a, b, hab⟩ := List.append_of_mem hn
    rw [hab, List.flatMap_append, List.flatMap_cons] at h
    have h1 := (allIn_app (allIn_app h).2).1
    by_cases hx : n.1 = []
    · exact .inl hx
    · right
      have e1 : evN (evF d) n = evOpen n.1 n.2.1 :: (evF d n.2.2.1 ++ [none]) := by simp [evN, hx]
      rw [e1] at h1
      have h2 : (p.1.contains n.1 = true ∧ n.2.1.all (letsAP p) = true) ∧ allIn p (evF d n.2.2.1 ++ [none]) := h1
      exact ⟨h2.1.1, allIn_tree (allIn_app h2.2).1, h2.1.2⟩
/-- It answers; where G it answers true. -/
def OPost (G : Prop) (w : World) (e : Ending) (w' : World) : Prop := ∃ r, e = .returned (.bool r) ∧ (G → r = true) ∧ Kept [] w w'
/-- only, to a depth. -/
def OnlyOk (ev av : Value) (p : Pol) (d : Nat) : Prop := ∀ (f : GF d) (v : Value) (w : World), PolAt w ev av p → Lies d w v f → bulkF d f ≤ 1099511627776 →
  Calls Tryz.prog 24 #[.agg #[ev, av], v] w (OPost (inF p d f) w)
theorem begs_lit (w : World) (s : List UInt8) : ∀ w', Kept [] (w.alloc (.cells #[.string ⟨#[104, 116, 116, 112, 58]⟩, .string ⟨#[104, 116, 116, 112, 115, 58]⟩, .string ⟨#[47]⟩, .string ⟨#[35]⟩] 9)) w' →
    Calls Tryz.prog 55 #[.string ⟨s.toArray⟩, .slice (some ⟨w.heap.size, 0, none⟩) 4 4] w' fun e w'' => e = .returned (.bool (beginsWellP s)) ∧ ∃ n, w'' = w'.drewN n := by
  intro w' hk
  have hb := (hk.block w.heap.size (by simp) (by simp)).trans (heap_alloc_new w _)
  have hs : StrsAt w' (.slice (some ⟨w.heap.size, 0, none⟩) 4 4) [[104, 116, 116, 112, 58], [104, 116, 116, 112, 115, 58], [47], [35]] := by
    refine ⟨_, _, rfl, fun i hi => ⟨w.heap.size, 0, rfl, ?_⟩⟩
    have hi' : i < 4 := hi
    have hc : i = 0 ∨ i = 1 ∨ i = 2 ∨ i = 3 := by omega
    unfold World.cell?
    rw [hb]
    rcases hc with rfl | rfl | rfl | rfl <;> rfl
  exact kbegins_any _ _ s w' hs (by decide)
set_option maxRecDepth 100000 in
set_option maxHeartbeats 4000000 in
theorem only_succ (ev av : Value) (p : Pol) (hpl : p.1.length ≤ 12 ∧ p.2.length ≤ 12) (d : Nat) (ih : OnlyOk ev av p d) : OnlyOk ev av p (d + 1) := by
  intro f v w hp hL hb
  have HP : Hid (∀ w', Kept [] w w' → PolAt w' ev av p) := fun w' hk => hp.kept hk
  have HH1 : Hid (∀ w' s, Kept [] w w' → Calls Tryz.prog 54 #[ev, .string ⟨s.toArray⟩] w' fun e w'' => e = .returned (.bool (p.1.contains s)) ∧ w'' = w') := fun w' s hk => has_any ev p.1 s w' (hp.1.kept hk) (by omega)
  have HH2 : Hid (∀ w' s, Kept [] w w' → Calls Tryz.prog 54 #[av, .string ⟨s.toArray⟩] w' fun e w'' => e = .returned (.bool (p.2.contains s)) ∧ w'' = w') := fun w' s hk => has_any av p.2 s w' (hp.2.kept hk) (by omega)
  obtain ⟨a1, c1, rfl⟩ := hp.1.form
  obtain ⟨a2, c2, rfl⟩ := hp.2.form
  have hbl := Nat.le_trans (bulkF_len f) hb
  have HBM : Hid (∀ n ∈ gnodes d f, bulkN (bulkF d) n ≤ 1099511627776) := fun n hn => Nat.le_trans (bulkF_mem hn) hb
  obtain ⟨a, c, hv, hc⟩ := hL
  subst hv
  have HC : Hid (∀ i (h : i < (gnodes d f).length), ∃ g o, a = some ⟨g, o, none⟩ ∧ LiesN (Lies d w) w g (o + i * 4) (gnodes d f)[i]) := hc
  have HG0 : Hid (∀ n ∈ gnodes d f, inF p (d + 1) f → inN p (inF p d) n) := fun n hn h => h n hn
  clear hp hc hb
  generalize inF p (d + 1) f = GG at *
  generalize gnodes d f = l at *
  have hk1 : Kept [] w (w.alloc (.cells #[.slice a1 p.1.length c1, .slice a2 p.2.length c2] 33)) := (Kept.refl [] w).alloc _
  have hg1 : (w.alloc (.cells #[.slice a1 p.1.length c1, .slice a2 p.2.length c2] 33)).heap[w.heap.size]? = some (.cells #[.slice a1 p.1.length c1, .slice a2 p.2.length c2] 33 (0, 0)) := heap_alloc_new w _
  have HG1 : Hid _ := hg1
  clear hg1
  go_enter Tryz.func24, Tryz.ntmps24
  go_wp2_with fail
  go_loopg [5] l.length (fun g x wr => ∃ k : Nat, k ≤ l.length ∧ g = l.length - k ∧ x = .int .i64 (k : Int) ∧ Kept [] w wr ∧ wr.heap[w.heap.size]? = some (.cells #[.slice a1 p.1.length c1, .slice a2 p.2.length c2] 33 (0, 0)))
  case atStart => exact ⟨0, by omega, rfl, rfl, hk1, HG1.out⟩
  case round =>
    obtain ⟨wo, rfl⟩ : ∃ x, x = wr := ⟨wr, rfl⟩
    obtain ⟨k, hk, hgk, rfl, hkept, hbx⟩ := hrel
    have HG : Hid _ := hgk
    have hlt0 : w.heap.size < wo.heap.size := (Array.getElem?_eq_some_iff.1 hbx).1
    have hbox : ∀ w', Kept [] wo w' → w'.heap[w.heap.size]? = some (.cells #[.slice a1 p.1.length c1, .slice a2 p.2.length c2] 33 (0, 0)) ∧ w'.cell? ⟨w.heap.size, 0, none⟩ = some (.slice a1 p.1.length c1) ∧ w'.cell? ⟨w.heap.size, 1, none⟩ = some (.slice a2 p.2.length c2) := fun w' hk' => by
      have e := (hk'.block _ hlt0 (by simp)).trans hbx
      exact ⟨e, by unfold World.cell?; rw [e]; rfl, by unfold World.cell?; rw [e]; rfl⟩
    have HBX : Hid _ := hbox
    clear hgk hbox
    by_cases hlt : k < l.length
    · have hlt' : (k : Int) < (l.length : Int) := by omega
      have hge : (0 : Int) ≤ (k : Int) := by omega
      obtain ⟨g, o, rfl, hn⟩ := HC.out k hlt
      obtain ⟨na, nk, e0, e1, e2, e3, hA, hK⟩ := hn
      have c0 := cell_kept hkept e0
      have c1' := cell_kept hkept e1
      have c2' := cell_kept hkept e2
      have c3 := cell_kept hkept e3
      have hbn := HBM.out l[k] (List.getElem_mem hlt)
      have HON : Hid (∀ w', Kept [] w w' → Calls Tryz.prog 24 #[.agg #[.slice a1 p.1.length c1, .slice a2 p.2.length c2], nk] w' (OPost (inF p d (l[k]).2.2.1) w')) := fun w' hkk => ih (l[k]).2.2.1 nk w' (HP.out w' hkk) (hK.kept d hkk) (by unfold bulkN at hbn; omega)
      have HGN : Hid (GG → inN p (inF p d) l[k]) := HG0.out l[k] (List.getElem_mem hlt)
      have hal : (l[k]).2.1.length ≤ 1099511627776 := by have := bulkA_len (l[k]).2.1; unfold bulkN at hbn; omega
      have HAL : Hid (∀ w', Kept [] w w' → LiesA w' na (l[k]).2.1) := fun w' hkk => hA.kept hkk
      obtain ⟨a3, c3', rfl⟩ := hA.form
      obtain ⟨a4, c4, rfl⟩ := hK.form
      by_cases hnm : (l[k]).1 = []
      · rw [hnm] at c0
        clear hA hK e0 e1 e2 e3 hbn HGN HON HAL
        generalize (l[k]).2.1.length = l3 at *
        generalize glen d (l[k]).2.2.1 = l4 at *
        generalize (l[k]).2.2.2 = tx at *
        have c0' : wo.cell? ⟨g, o + k * 4, none⟩ = some (.string ⟨#[]⟩) := c0
        clear c0
        go_wp2_with fail
        go_roundg (l.length - (k + 1))
        case measure => rw [HG.out]; omega
        case rel => exact ⟨k + 1, by omega, rfl, by go_num, hkept.alloc _, (HBX.out _ ((Kept.refl [] wo).alloc _)).1⟩
      · have hne := notEmpty hnm
        have HNM : Hid (¬ (l[k]).1 = []) := hnm
        have HIN : Hid (inN p (inF p d) l[k] → p.1.contains (l[k]).1 = true ∧ inF p d (l[k]).2.2.1 ∧ (l[k]).2.1.all (letsAP p) = true) := fun h => h.resolve_left HNM.out
        clear hA hK e0 e1 e2 e3 hbn hnm
        generalize inN p (inF p d) l[k] = IN at *
        generalize inF p d (l[k]).2.2.1 = IK at *
        generalize glen d (l[k]).2.2.1 = l4 at *
        generalize (l[k]).2.2.2 = tx at *
        generalize hAL : (l[k]).2.1 = al at *
        generalize (l[k]).1 = nm at *
        clear hAL
        have hka : Kept [] wo (wo.alloc (.cells #[.string ⟨nm.toArray⟩, .slice a3 al.length c3', .slice a4 l4 c4, .string ⟨tx.toArray⟩] 42)) := (Kept.refl [] wo).alloc _
        have hgx : (wo.alloc (.cells #[.string ⟨nm.toArray⟩, .slice a3 al.length c3', .slice a4 l4 c4, .string ⟨tx.toArray⟩] 42)).heap[wo.heap.size]? = some (.cells #[.string ⟨nm.toArray⟩, .slice a3 al.length c3', .slice a4 l4 c4, .string ⟨tx.toArray⟩] 42 (0, 0)) := heap_alloc_new wo _
        have hgz : wo.heap.size < (wo.alloc (.cells #[.string ⟨nm.toArray⟩, .slice a3 al.length c3', .slice a4 l4 c4, .string ⟨tx.toArray⟩] 42)).heap.size := by simp
        obtain ⟨_, p0, p1⟩ := HBX.out _ hka
        go_wp2_with fail
        generalize wo.alloc (.cells #[.string ⟨nm.toArray⟩, .slice a3 al.length c3', .slice a4 l4 c4, .string ⟨tx.toArray⟩] 42) = w1 at *
        have hxb : ∀ w', Kept [] w1 w' → (w'.cell? ⟨w.heap.size, 0, none⟩ = some (.slice a1 p.1.length c1) ∧ w'.cell? ⟨w.heap.size, 1, none⟩ = some (.slice a2 p.2.length c2)) ∧ w'.cell? ⟨wo.heap.size, 0, none⟩ = some (.string ⟨nm.toArray⟩) ∧ w'.cell? ⟨wo.heap.size, 1, none⟩ = some (.slice a3 al.length c3') ∧ w'.cell? ⟨wo.heap.size, 2, none⟩ = some (.slice a4 l4 c4) := fun w' hk' => by
          have e := (hk'.block _ hgz (by simp)).trans hgx
          exact ⟨(HBX.out w' (hka.trans hk')).2, by unfold World.cell?; rw [e]; rfl, by unfold World.cell?; rw [e]; rfl, by unfold World.cell?; rw [e]; rfl⟩
        have HXB : Hid _ := hxb
        have hk2 := hkept.trans hka
        have HIA : Hid (∀ j (h : j < al.length), (GG → letsAP p al[j] = true)) := fun j h hG => List.all_eq_true.1 (HIN.out (HGN.out hG)).2.2 _ (List.getElem_mem h)
        clear hxb hgx hgz p0 p1 c0 c1' c2' c3
        refine (HH1.out _ nm hk2).mono ?_
        rintro e w2 ⟨rfl, rfl⟩
        obtain ⟨⟨b0, b1⟩, b2, b3, b4⟩ := HXB.out w2 (Kept.refl _ _)
        have HCT : Hid (GG → p.1.contains nm = true ∧ IK) := fun h => ⟨(HIN.out (HGN.out h)).1, (HIN.out (HGN.out h)).2.1⟩
        clear HIN HGN
        generalize p.1.contains nm = cn at *
        go_wp2_with fail
        refine (HON.out _ hk2).mono ?_
        rintro e w3 ⟨r, rfl, hr, hk3⟩
        have HR : Hid _ := hr
        clear hr b0 b1 b2 b3 b4
        obtain ⟨⟨b0, b1⟩, b2, b3, b4⟩ := HXB.out w3 hk3
        cases cn with
        | false =>
          go_wp2_with fail
          go_ret
          exact ⟨false, rfl, fun h => absurd (HCT.out h).1 (by simp), hk2.trans hk3⟩
        | true =>
          cases r with
          | false =>
            go_wp2_with fail
            go_ret
            exact ⟨false, rfl, fun h => absurd (HR.out (HCT.out h).2) (by simp), hk2.trans hk3⟩
          | true =>
            go_wp2_with fail
            go_loopg [9] al.length (fun g x wi => ∃ j : Nat, j ≤ al.length ∧ g = al.length - j ∧ x = .int .i64 (j : Int) ∧ Kept [] w2 wi)
            case atStart => exact ⟨0, by omega, rfl, rfl, hk3⟩
            case round =>
              obtain ⟨wi, rfl⟩ : ∃ x, x = wr := ⟨wr, rfl⟩
              obtain ⟨j, hj, hgj, rfl, hki⟩ := hrel
              have HGJ : Hid _ := hgj
              clear hgj b0 b1 b2 b3 b4
              obtain ⟨⟨b0, b1⟩, b2, b3, b4⟩ := HXB.out wi hki
              have hk4 := hk2.trans hki
              by_cases hjl : j < al.length
              · have hjl' : (j : Int) < (al.length : Int) := by omega
                have hjg : (0 : Int) ≤ (j : Int) := by omega
                obtain ⟨la, lc, hv, hcs⟩ := HAL.out wi hk4
                obtain ⟨g3, o3, hg3, q0, q1⟩ := hcs j hjl
                injection hv with hv1 hv2 hv3
                subst hv1 hv3 hg3
                have HLJ : Hid (GG → letsAP p al[j] = true) := HIA.out j hjl
                clear hcs
                have HHA : Hid (∀ w', Kept [] w w' → Calls Tryz.prog 54 #[.slice a2 p.2.length c2, .string ⟨(al[j]).1.toArray⟩] w' fun e w'' => e = .returned (.bool (p.2.contains (al[j]).1)) ∧ w'' = w') := fun w' hk' => HH2.out w' _ hk'
                have HLD : Hid (letsAP p al[j] = (p.2.contains (al[j]).1 && (!leadsP (al[j]).1 || beginsWellP (al[j]).2))) := rfl
                generalize hLA : letsAP p al[j] = la at *
                generalize p.2.contains (al[j]).1 = ic at *
                generalize (al[j]).1 = an at *
                generalize (al[j]).2 = avl at *
                clear hLA
                have hkb : Kept [] wi (wi.alloc (.cells #[.string ⟨an.toArray⟩, .string ⟨avl.toArray⟩] 63)) := (Kept.refl [] wi).alloc _
                have hgx : (wi.alloc (.cells #[.string ⟨an.toArray⟩, .string ⟨avl.toArray⟩] 63)).heap[wi.heap.size]? = some (.cells #[.string ⟨an.toArray⟩, .string ⟨avl.toArray⟩] 63 (0, 0)) := heap_alloc_new wi _
                have hgz : wi.heap.size < (wi.alloc (.cells #[.string ⟨an.toArray⟩, .string ⟨avl.toArray⟩] 63)).heap.size := by simp
                obtain ⟨⟨n0, n1⟩, _⟩ := HXB.out _ (hki.trans hkb)
                go_wp2_with fail
                generalize wi.alloc (.cells #[.string ⟨an.toArray⟩, .string ⟨avl.toArray⟩] 63) = w4 at *
                have hk5 := hk4.trans hkb
                refine (HHA.out _ hk5).mono ?_
                rintro e w5 ⟨rfl, rfl⟩
                have hab : ∀ w', Kept [] w5 w' → w'.cell? ⟨wi.heap.size, 0, none⟩ = some (.string ⟨an.toArray⟩) ∧ w'.cell? ⟨wi.heap.size, 1, none⟩ = some (.string ⟨avl.toArray⟩) := fun w' hk' => by
                  have e := (hk'.block _ hgz (by simp)).trans hgx
                  exact ⟨by unfold World.cell?; rw [e]; rfl, by unfold World.cell?; rw [e]; rfl⟩
                have HAB : Hid _ := hab
                obtain ⟨m0, m1⟩ := hab w5 (Kept.refl _ _)
                have HBG : Hid _ := begs_lit w5 avl _ (Kept.refl [] _)
                clear hab hgx hgz n0 n1
                go_wp2_with fail
                refine Calls.mono HBG.out ?_
                rintro e w6 ⟨rfl, n6, hw6⟩
                have hk6 : Kept [] w5 w6 := by rw [hw6]; exact ((Kept.refl [] w5).alloc _).drewN _
                have hk7 := hk5.trans hk6
                have hk8 : Kept [] w2 w6 := (hki.trans hkb).trans hk6
                clear hw6 m0 m1
                obtain ⟨m0, m1⟩ := HAB.out w6 hk6
                have HBGX : Hid (la = (ic && (!leadsP an || beginsWellP avl))) := HLD.out
                generalize beginsWellP avl = bw at *
                cases ic with
                | false =>
                  go_wp2_with fail
                  go_ret
                  exact ⟨false, rfl, fun h => by have h1 := HLJ.out h; rw [HBGX.out] at h1; simp at h1, hk7⟩
                | true =>
                  cases bw with
                  | true =>
                    go_wp2_with fail
                    all_goals
                      go_roundg (al.length - (j + 1))
                      case measure => rw [HGJ.out]; omega
                      case rel => exact ⟨j + 1, by omega, rfl, by go_num, hk8⟩
                  | false =>
                    by_cases h1 : an = [104, 114, 101, 102]
                    · have HLE : Hid (leadsP an = true) := by show _ = _; rw [h1]; rfl
                      rw [h1] at m0
                      clear h1
                      go_wp2_with fail
                      go_ret
                      exact ⟨false, rfl, fun h => by have h1 := HLJ.out h; rw [HBGX.out, HLE.out] at h1; simp at h1, hk7⟩
                    · by_cases h2 : an = [115, 114, 99]
                      · have HLE : Hid (leadsP an = true) := by show _ = _; rw [h2]; rfl
                        rw [h2] at m0
                        clear h1 h2
                        go_wp2_with fail
                        go_ret
                        exact ⟨false, rfl, fun h => by have h1 := HLJ.out h; rw [HBGX.out, HLE.out] at h1; simp at h1, hk7⟩
                      · have hq1 : (an == [104, 114, 101, 102]) = false := by simpa using h1
                        have hq2 : (an == [115, 114, 99]) = false := by simpa using h2
                        clear h1 h2
                        go_wp2_with fail
                        go_roundg (al.length - (j + 1))
                        case measure => rw [HGJ.out]; omega
                        case rel => exact ⟨j + 1, by omega, rfl, by go_num, hk8⟩
              · have hjl' : ((j : Int) < (al.length : Int)) = False := by simp; omega
                go_wp2_with fail
                go_roundg (l.length - (k + 1))
                case measure => rw [HG.out]; omega
                case rel => exact ⟨k + 1, by omega, rfl, by go_num, hk4, (HBX.out _ (hka.trans hki)).1⟩
    · have hlt' : ((k : Int) < (l.length : Int)) = False := by simp; omega
      go_wp2_with fail
      go_ret
      exact ⟨true, rfl, fun _ => rfl, hkept⟩
set_option maxRecDepth 100000 in
set_option maxHeartbeats 1000000 in
theorem only_zero (ev av : Value) (p : Pol) : OnlyOk ev av p 0 := by
  intro f v w hp hL _
  obtain ⟨a, c, rfl⟩ := hL
  obtain ⟨a1, c1, rfl⟩ := hp.1.form
  obtain ⟨a2, c2, rfl⟩ := hp.2.form
  clear hp
  have hk1 : Kept [] w (w.alloc (.cells #[.slice a1 p.1.length c1, .slice a2 p.2.length c2] 33)) := (Kept.refl [] w).alloc _
  go_enter Tryz.func24, Tryz.ntmps24
  go_wp2_with fail
  go_loopg [5] 0 (fun g x wr => g = 0 ∧ x = .int .i64 0 ∧ wr = w.alloc (.cells #[.slice a1 p.1.length c1, .slice a2 p.2.length c2] 33))
  case atStart => exact ⟨rfl, rfl, rfl⟩
  case round =>
    obtain ⟨rfl, rfl, rfl⟩ := hrel
    go_wp2_with fail
    go_ret
    exact ⟨true, rfl, fun _ => rfl, hk1⟩
theorem only_any (ev av : Value) (p : Pol) (hpl : p.1.length ≤ 12 ∧ p.2.length ≤ 12) : ∀ d, OnlyOk ev av p d
  | 0 => only_zero ev av p
  | d + 1 => only_succ ev av p hpl d (only_any ev av p hpl d)
end Go.Proofs.YtlpmjpmefdpcmaaGreatDoor
