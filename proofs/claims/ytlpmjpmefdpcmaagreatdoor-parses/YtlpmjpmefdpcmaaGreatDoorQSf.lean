import Derived.Test.YtlpmjpmefdpcmaaGreatDoorQSd
import Derived.Deep.CutBlock
import Derived.Test.YtlpmjpmefdpcmaaGreatDoorQParse
/- The reference: an attribute at a place. -/
namespace Go.Proofs.YtlpmjpmefdpcmaaGreatDoor
open Go.RowKit Scrub Go.Shelf
/-- What is answered of an attribute at i. -/
def AttrAns (s : ByteArray) (i : Nat) (e : Ending) : Prop :=
  match attributeP (s.data.toList.drop i) with
  | none => ∃ a b : ByteArray, e = .returned (.tuple #[.agg #[.string a, .string b], .int .i64 (-1)])
  | some ((n, x), rest) => ∃ E : Nat, e = .returned (.tuple #[.agg #[.string ⟨n.toArray⟩, .string ⟨x.toArray⟩], .int .i64 (E : Int)]) ∧ i < E ∧ E ≤ s.size ∧ rest = s.data.toList.drop E
theorem AttrAns.none {s : ByteArray} {i : Nat} (h : attributeP (s.data.toList.drop i) = none) (a b : ByteArray) : AttrAns s i (.returned (.tuple #[.agg #[.string a, .string b], .int .i64 (-1)])) := by
  unfold AttrAns
  rw [h]
  exact ⟨a, b, rfl⟩
theorem AttrAns.some {s : ByteArray} {i E : Nat} {n x : List UInt8} (h : attributeP (s.data.toList.drop i) = some ((n, x), s.data.toList.drop E)) (h1 : i < E) (h2 : E ≤ s.size) : AttrAns s i (.returned (.tuple #[.agg #[.string ⟨n.toArray⟩, .string ⟨x.toArray⟩], .int .i64 (E : Int)])) := by
  unfold AttrAns
  rw [h]
  exact ⟨E, rfl, h1, h2, rfl⟩
/-- Two cells of a block that may be written. -/
def Two (w : World) (b : Nat) (x y : Value) : Prop := w.heap[b]? = Option.some (.cells #[x, y] 63 (0, 0))
theorem Two.cells {w : World} {b : Nat} {x y : Value} (h : Two w b x y) : w.cell? ⟨b, 0, .none⟩ = Option.some x ∧ w.cell? ⟨b, 1, .none⟩ = Option.some y ∧ w.frozen? ⟨b, 0, .none⟩ = false ∧ w.frozen? ⟨b, 1, .none⟩ = false := by
  unfold Two at h
  exact ⟨by simp [World.cell?, h], by simp [World.cell?, h], by simp [World.frozen?, h], by simp [World.frozen?, h]⟩
theorem Two.kept {S : List Nat} {w w' : World} {b : Nat} {x y : Value} (h : Two w b x y) (hk : Kept S w w') (hb : b ∉ S) : Two w' b x y := by
  unfold Two at h ⊢
  rw [hk.block b (Array.getElem?_eq_some_iff.1 h).1 hb]
  exact h
theorem Two.lt {w : World} {b : Nat} {x y : Value} (h : Two w b x y) : b < w.heap.size := (Array.getElem?_eq_some_iff.1 h).1
set_option maxHeartbeats 4000000 in
theorem rAttribute (s : ByteArray) (i : Nat) (w : World) (hs : s.size ≤ 1099511627776) (hi : i < s.size) :
    Calls Tryz.prog 200 #[.string s, .int .i64 (i : Int)] w fun e w' => AttrAns s i e ∧ Kept [] w w' := by
  have hll : s.data.toList.length = s.size := len_of s
  obtain ⟨k1, hk1⟩ : ∃ k1, k1 = i + 1 + ((s.data.toList.drop (i + 1)).takeWhile (fun c => !endsAttrB c)).length := ⟨_, rfl⟩
  obtain ⟨k2, hk2⟩ : ∃ k2, k2 = k1 + ((s.data.toList.drop k1).takeWhile blankB).length := ⟨_, rfl⟩
  have HN : Hid (NameTo s.data.toList i k1 k2) := ⟨hk1, hk2⟩
  obtain ⟨_, _, _, hb1, hb2, hb3, hb4⟩ := HN.out.name (by omega)
  rw [hll] at hb1 hb2
  have HK1 : Hid _ := hk1
  have HK2 : Hid _ := hk2
  clear hk1 hk2
  go_enter Tryz.func200, Tryz.ntmps200
  go_upto_block 0 with fail
  go_cut [6] from 12 to 42 (fun x wx => x = .int .i64 (k1 : Int) ∧ Kept [] w wx ∧ Two wx w.heap.size (.string ⟨#[]⟩) (.string ⟨#[]⟩))
  case first =>
    go_wp2_with fail
    go_loopg [6] (s.size - (i + 1)) (fun g x wr => ∃ k : Nat, i + 1 ≤ k ∧ k ≤ s.size ∧ g = s.size - k ∧ x = .int .i64 (k : Int) ∧ k1 = k + ((s.data.toList.drop k).takeWhile (fun c => !endsAttrB c)).length ∧ Kept [] w wr ∧ Two wr w.heap.size (.string ⟨#[]⟩) (.string ⟨#[]⟩))
    case atStart => exact ⟨i + 1, by omega, by omega, rfl, by go_num, HK1.out, (Kept.refl _ _).alloc _, heap_alloc_new w _⟩
    case round =>
      obtain ⟨k, hik, hks, hgk, rfl, hinv, hkept, htwo⟩ := hrel
      have HG : Hid _ := hgk
      have HI : Hid _ := hinv
      clear hgk hinv
      by_cases hlt : k < s.size
      · have hlt' : (k : Int) < (s.size : Int) := by omega
        have hge : (0 : Int) ≤ (k : Int) := by omega
        have hkl : k < s.data.toList.length := by omega
        obtain ⟨x1, h1⟩ : ∃ x, ((s[k].toNat : Int) != 47) = x := ⟨_, rfl⟩
        obtain ⟨x2, h2⟩ : ∃ x, ((s[k].toNat : Int) != 61) = x := ⟨_, rfl⟩
        obtain ⟨x3, h3⟩ : ∃ x, ((s[k].toNat : Int) != 62) = x := ⟨_, rfl⟩
        have HP : Hid ((!endsAttrB s.data.toList[k]) = (!blankB s[k] && x1 && x2 && x3)) := by
          show _ = _
          have e1 : decide (s[k].toNat = 47) = !x1 := by rw [← h1, Bool.eq_iff_iff]; simp; omega
          have e2 : decide (s[k].toNat = 61) = !x2 := by rw [← h2, Bool.eq_iff_iff]; simp; omega
          have e3 : decide (s[k].toNat = 62) = !x3 := by rw [← h3, Bool.eq_iff_iff]; simp; omega
          show (!(blankB s[k] || decide (s[k].toNat = 47) || decide (s[k].toNat = 61) || decide (s[k].toNat = 62))) = _
          rw [e1, e2, e3]
          generalize blankB s[k] = b
          clear h1 h2 h3 e1 e2 e3
          revert b x1 x2 x3
          decide
        have HSTEP : Hid _ := takeWhile_step (fun c => !endsAttrB c) s.data.toList k hkl
        have HSTOP : Hid ((!endsAttrB s.data.toList[k]) = false → _) := fun h => takeWhile_stop (fun c => !endsAttrB c) s.data.toList k (fun _ => h)
        go_wp2_with fail
        refine (rIsBlank s[k] _).mono ?_
        rintro e w2 ⟨rfl, rfl⟩
        generalize blankB s[k] = b at *
        have HGO : Hid ((!b && x1 && x2 && x3) = true → k1 = k + 1 + ((s.data.toList.drop (k + 1)).takeWhile (fun c => !endsAttrB c)).length) := fun h => by
          rw [HI.out]
          exact HSTEP.out (by rw [HP.out]; exact h)
        have HEND : Hid ((!b && x1 && x2 && x3) = false → k1 = k) := fun h => by
          rw [HI.out]
          exact HSTOP.out (by rw [HP.out]; exact h)
        clear HP HSTEP HSTOP HI HN HK1 HK2
        cases b <;> cases x1 <;> cases x2 <;> cases x3
        all_goals
          go_wp2_with fail
          first
            | (go_roundg (s.size - (k + 1))
               case measure => rw [HG.out]; omega
               case rel => exact ⟨k + 1, by omega, by omega, rfl, by go_num, HGO.out rfl, hkept, htwo⟩)
            | (go_meet
               case rel => exact ⟨by rw [HEND.out rfl], hkept, htwo⟩)
      · have hlt' : ((k : Int) < (s.size : Int)) = False := eq_false (by omega)
        go_wp2_with fail
        go_meet
        case rel =>
          refine ⟨?_, hkept, htwo⟩
          rw [HI.out, takeWhile_stop (fun c => !endsAttrB c) _ _ (fun h => by omega)]
  case rest =>
  obtain ⟨rfl, hkept, htwo⟩ := hcut
  obtain ⟨q0, q1, f0, f1⟩ := htwo.cells
  have hik' : (i : Int) ≤ (k1 : Int) := by omega
  have hks' : (k1 : Int) ≤ (s.size : Int) := by omega
  have hi0 : (0 : Int) ≤ (i : Int) := by omega
  go_wp2_with fail
  refine (rSmall (s.extract i k1) _ (by simp; omega)).mono ?_
  rintro e w2 ⟨rfl, hkw2⟩
  have HNM : Hid (small (s.extract i k1).data.toList = small ((s.data.toList.drop i).take (k1 - i))) := by
    show _ = _
    simp
  rw [HNM.out]
  generalize hnm : small ((s.data.toList.drop i).take (k1 - i)) = nm at *
  have HNM2 : Hid _ := hnm
  clear hnm HNM
  have htwo2 := htwo.kept hkw2 (by simp)
  have hkw : Kept [] w w2 := hkept.trans hkw2
  have hlt2 := htwo2.lt
  clear htwo hkw2 hkept q0 q1 f0 f1
  obtain ⟨q0, q1, f0, f1⟩ := htwo2.cells
  go_wp2_with fail
  refine (rSkip s k1 false _ hs hb1).mono ?_
  rintro e w3 ⟨rfl, rfl⟩
  rw [skip_blank, ← HK2.out]
  have hA : Two (w2.alloc (.cells #[.string ⟨nm.toArray⟩, .string ⟨#[]⟩] 63)) w2.heap.size (.string ⟨nm.toArray⟩) (.string ⟨#[]⟩) := heap_alloc_new w2 _
  have hR := htwo2.kept ((Kept.refl [] w2).alloc (.cells #[.string ⟨nm.toArray⟩, .string ⟨#[]⟩] 63)) (by simp)
  have hK4 : Kept [] w (w2.alloc (.cells #[.string ⟨nm.toArray⟩, .string ⟨#[]⟩] 63)) := hkw.alloc _
  generalize (w2.alloc (.cells #[.string ⟨nm.toArray⟩, .string ⟨#[]⟩] 63)) = w4 at *
  have hne : w2.heap.size ≠ w.heap.size := by omega
  have hlw : w.heap.size ≤ w2.heap.size := by omega
  generalize w2.heap.size = ab at *
  clear q0 q1 f0 f1 htwo2 hkw hlt2
  obtain ⟨q0, q1, f0, f1⟩ := hR.cells
  obtain ⟨p0, p1, g0, g1⟩ := hA.cells
  by_cases hlt : k2 < s.size
  · have hlt' : ((s.size : Int) ≤ (k2 : Int)) = False := eq_false (by omega)
    have hlt2' : (k2 : Int) < (s.size : Int) := by omega
    have hge2 : (0 : Int) ≤ (k2 : Int) := by omega
    cases hq : ((s[k2].toNat : Int) != 61) with
    | true =>
      have HQ : Hid _ := hq
      go_wp2_with fail
      refine bodyPost_ret (v := .tuple #[.agg #[.string ⟨nm.toArray⟩, .string ⟨#[]⟩], .int .i64 (k2 : Int)]) (by simp [results, Tryz.results200, go_sem, q0, q1]) rfl ?_
      have hb := attr_bare HN.out (by omega) (by omega) (fun e => by
        have h1 : s[k2] = 61 := e
        have h2 := HQ.out
        rw [h1] at h2
        simp at h2)
      rw [HNM2.out] at hb
      exact ⟨AttrAns.some hb (by omega) (by omega), (hK4.setCell (.inr (Nat.le_refl _)) _).setCell (.inr (Nat.le_refl _)) _⟩
    | false =>
      have HQ : Hid (s.data.toList[k2]'(by omega) = 61) := by
        show s[k2] = 61
        apply UInt8.toNat_inj.1
        simp at hq
        show s[k2].toNat = 61
        omega
      obtain ⟨k3, hk3⟩ : ∃ k3, k3 = k2 + 1 + ((s.data.toList.drop (k2 + 1)).takeWhile blankB).length := ⟨_, rfl⟩
      obtain ⟨_, hc3, hc4, _⟩ := attr_in HN.out (by omega) (by omega) HQ.out hk3
      rw [hll] at hc3
      have HK3 : Hid _ := hk3
      clear hk3
      go_wp2_with fail
      rw [show ((k2 : Int) + 1) = ((k2 + 1 : Nat) : Int) by omega]
      refine (rSkip s (k2 + 1) false _ hs (by omega)).mono ?_
      rintro e w5 ⟨rfl, rfl⟩
      rw [skip_blank, ← HK3.out]
      by_cases hlt3 : k3 < s.size
      · have hlt3' : ((s.size : Int) ≤ (k3 : Int)) = False := eq_false (by omega)
        have hlt32 : (k3 : Int) < (s.size : Int) := by omega
        have hge3 : (0 : Int) ≤ (k3 : Int) := by omega
        have hle3 : (k3 : Int) + 1 ≤ (s.size : Int) := by omega
        by_cases hqq : s[k3] = 34 ∨ s[k3] = 39
        · have hqb : ((s[k3].toNat : Int) == 34) = true ∨ (((s[k3].toNat : Int) == 34) = false ∧ ((s[k3].toNat : Int) == 39) = true) := by
            rcases hqq with h | h
            · exact .inl (by rw [h]; rfl)
            · exact .inr ⟨by rw [h]; rfl, by rw [h]; rfl⟩
          have HANS : Hid _ := attr_quoted HN.out (by omega) (by omega) HQ.out HK3.out (by omega) hqq
          have HEX : Hid ((s.extract k3 (k3 + 1)).data.toList = (s.data.toList.drop k3).take 1) := by
            show _ = _
            simp
          have HONE : Hid (((s.data.toList.drop k3).take 1).length = 1) := by
            show _ = _
            simp
            omega
          clear hqq HK3 HQ HN HK1 HK2
          rcases hqb with hqa | ⟨hqa, hqb⟩
          all_goals
            go_wp2_with fail
            rw [show ((k3 : Int) + 1) = ((k3 + 1 : Nat) : Int) by omega]
            refine (rFind s (s.extract k3 (k3 + 1)) (k3 + 1) _ hs (by simp; omega) (fun e => by rw [HEX.out] at e; have := HONE.out; rw [e] at this; simp at this) (by omega)).mono ?_
            rintro e w6 ⟨rfl, rfl⟩
            rw [HEX.out]
            rcases HANS.out with ⟨f1, f2⟩ | ⟨E, f1, f2, f3, f4⟩
            · rw [f1]
              have F2 : Hid _ := f2
              clear f1 f2
              go_wp2_with fail
              refine bodyPost_ret (v := .tuple #[.agg #[.string ⟨nm.toArray⟩, .string ⟨#[]⟩], .int .i64 (-1)]) (by simp [results, Tryz.results200, go_sem, q0, q1]) rfl ?_
              exact ⟨AttrAns.none F2.out _ _, (hK4.setCell (.inr (Nat.le_refl _)) _).setCell (.inr (Nat.le_refl _)) _⟩
            · rw [f1]
              have F4 : Hid _ := f4
              clear f1 f4
              have g1' : ((E : Int) < 0) = False := eq_false (by omega)
              have g2' : ((k3 : Int) + 1 ≤ (E : Int)) := by omega
              have g3' : ((E : Int) ≤ (s.size : Int)) := by omega
              have g4' : (0 : Int) ≤ (k3 : Int) + 1 := by omega
              go_wp2_with fail
              refine (rSigns (s.extract (k3 + 1) E) _ (by simp; omega)).mono ?_
              rintro e w7 ⟨rfl, hk7⟩
              have HV : Hid ((s.extract (k3 + 1) E).data.toList = (s.data.toList.drop (k3 + 1)).take (E - (k3 + 1))) := by
                show _ = _
                simp
              rw [HV.out]
              generalize hvl : signs ((s.data.toList.drop (k3 + 1)).take (E - (k3 + 1))) = vl at *
              have HVL : Hid _ := hvl
              clear hvl HV q0 q1 f0 f1 p0 p1 g0 g1
              obtain ⟨q0, q1, f0, f1⟩ := (hR.kept hk7 (by simp)).cells
              obtain ⟨p0, p1, g0, g1⟩ := (hA.kept hk7 (by simp)).cells
              have hK7 := hK4.trans hk7
              go_wp2_with fail
              refine bodyPost_ret (v := .tuple #[.agg #[.string ⟨nm.toArray⟩, .string ⟨vl.toArray⟩], .int .i64 ((E + 1 : Nat) : Int)]) (by simp [results, Tryz.results200, go_sem, q0, q1]) rfl ?_
              have hb := F4.out
              rw [HNM2.out] at hb
              exact ⟨AttrAns.some hb (by omega) (by omega), ((hK7.setCell (.inr hlw) _).setCell (.inr (Nat.le_refl _)) _).setCell (.inr (Nat.le_refl _)) _⟩
        · have hqa : ((s[k3].toNat : Int) == 34) = false := by
            rw [beq_eq_false_iff_ne]
            intro e
            exact hqq (.inl (UInt8.toNat_inj.1 (by show s[k3].toNat = 34; omega)))
          have hqb : ((s[k3].toNat : Int) == 39) = false := by
            rw [beq_eq_false_iff_ne]
            intro e
            exact hqq (.inr (UInt8.toNat_inj.1 (by show s[k3].toNat = 39; omega)))
          obtain ⟨E, hE⟩ : ∃ E, E = k3 + ((s.data.toList.drop k3).takeWhile (fun c => !endsValueB c)).length := ⟨_, rfl⟩
          obtain ⟨hans, he1, he2⟩ := attr_plain HN.out (by omega) (by omega) HQ.out HK3.out (by omega) (fun e => hqq (.inl e)) (fun e => hqq (.inr e)) hE
          rw [hll] at he2
          have HANS : Hid _ := hans
          have HE : Hid _ := hE
          clear hqq HK3 HQ HN HK1 HK2 hans hE
          go_upto_block 2 with fail
          go_cut [9] from 105 to 123 (fun x wx => x = .int .i64 (E : Int) ∧ wx = w5)
          case first =>
            go_wp2_with fail
            go_loopg [9] (s.size - k3) (fun g x wr => ∃ k : Nat, k3 ≤ k ∧ k ≤ s.size ∧ g = s.size - k ∧ x = .int .i64 (k : Int) ∧ E = k + ((s.data.toList.drop k).takeWhile (fun c => !endsValueB c)).length ∧ wr = w5)
            case atStart => exact ⟨k3, by omega, by omega, rfl, rfl, HE.out, rfl⟩
            case round =>
              obtain ⟨k, hik, hks, hgk, rfl, hinv, rfl⟩ := hrel
              have HG : Hid _ := hgk
              have HI : Hid _ := hinv
              clear hgk hinv
              by_cases hlt : k < s.size
              · have hlt' : (k : Int) < (s.size : Int) := by omega
                have hge : (0 : Int) ≤ (k : Int) := by omega
                have hkl : k < s.data.toList.length := by omega
                obtain ⟨x3, h3⟩ : ∃ x, ((s[k].toNat : Int) != 62) = x := ⟨_, rfl⟩
                have HP : Hid ((!endsValueB s.data.toList[k]) = (!blankB s[k] && x3)) := by
                  show _ = _
                  have e3 : decide (s[k].toNat = 62) = !x3 := by rw [← h3, Bool.eq_iff_iff]; simp; omega
                  show (!(blankB s[k] || decide (s[k].toNat = 62))) = _
                  rw [e3]
                  generalize blankB s[k] = b
                  clear h3 e3
                  revert b x3
                  decide
                have HSTEP : Hid _ := takeWhile_step (fun c => !endsValueB c) s.data.toList k hkl
                have HSTOP : Hid ((!endsValueB s.data.toList[k]) = false → _) := fun h => takeWhile_stop (fun c => !endsValueB c) s.data.toList k (fun _ => h)
                go_wp2_with fail
                refine (rIsBlank s[k] _).mono ?_
                rintro e w2 ⟨rfl, rfl⟩
                generalize blankB s[k] = b at *
                have HGO : Hid ((!b && x3) = true → E = k + 1 + ((s.data.toList.drop (k + 1)).takeWhile (fun c => !endsValueB c)).length) := fun h => by
                  rw [HI.out]
                  exact HSTEP.out (by rw [HP.out]; exact h)
                have HEND : Hid ((!b && x3) = false → E = k) := fun h => by
                  rw [HI.out]
                  exact HSTOP.out (by rw [HP.out]; exact h)
                clear HP HSTEP HSTOP HI
                cases b <;> cases x3
                all_goals
                  go_wp2_with fail
                  first
                    | (go_roundg (s.size - (k + 1))
                       case measure => rw [HG.out]; omega
                       case rel => exact ⟨k + 1, by omega, by omega, rfl, by go_num, HGO.out rfl, rfl⟩)
                    | (go_meet
                       case rel => exact ⟨by rw [HEND.out rfl], rfl⟩)
              · have hlt' : ((k : Int) < (s.size : Int)) = False := eq_false (by omega)
                go_wp2_with fail
                go_meet
                case rel =>
                  refine ⟨?_, rfl⟩
                  rw [HI.out, takeWhile_stop (fun c => !endsValueB c) _ _ (fun h => by omega)]
          case rest =>
          obtain ⟨rfl, rfl⟩ := hcut
          have g2' : ((k3 : Int) ≤ (E : Int)) := by omega
          have g3' : ((E : Int) ≤ (s.size : Int)) := by omega
          go_wp2_with fail
          refine (rSigns (s.extract k3 E) _ (by simp; omega)).mono ?_
          rintro e w7 ⟨rfl, hk7⟩
          have HV : Hid ((s.extract k3 E).data.toList = (s.data.toList.drop k3).take (E - k3)) := by
            show _ = _
            simp
          rw [HV.out]
          generalize hvl : signs ((s.data.toList.drop k3).take (E - k3)) = vl at *
          have HVL : Hid _ := hvl
          clear hvl HV q0 q1 f0 f1 p0 p1 g0 g1
          obtain ⟨q0, q1, f0, f1⟩ := (hR.kept hk7 (by simp)).cells
          obtain ⟨p0, p1, g0, g1⟩ := (hA.kept hk7 (by simp)).cells
          have hK7 := hK4.trans hk7
          go_wp2_with fail
          refine bodyPost_ret (v := .tuple #[.agg #[.string ⟨nm.toArray⟩, .string ⟨vl.toArray⟩], .int .i64 (E : Int)]) (by simp [results, Tryz.results200, go_sem, q0, q1]) rfl ?_
          have hb := HANS.out
          rw [HNM2.out] at hb
          exact ⟨AttrAns.some hb (by omega) (by omega), ((hK7.setCell (.inr hlw) _).setCell (.inr (Nat.le_refl _)) _).setCell (.inr (Nat.le_refl _)) _⟩
      · have hlt3' : (s.size : Int) ≤ (k3 : Int) := by omega
        go_wp2_with fail
        refine bodyPost_ret (v := .tuple #[.agg #[.string ⟨nm.toArray⟩, .string ⟨#[]⟩], .int .i64 (-1)]) (by simp [results, Tryz.results200, go_sem, q0, q1]) rfl ?_
        exact ⟨AttrAns.none (attr_none2 HN.out (by omega) (by omega) HQ.out HK3.out (by omega)) _ _, (hK4.setCell (.inr (Nat.le_refl _)) _).setCell (.inr (Nat.le_refl _)) _⟩
  · have hlt' : (s.size : Int) ≤ (k2 : Int) := by omega
    go_wp2_with fail
    refine bodyPost_ret (v := .tuple #[.agg #[.string ⟨nm.toArray⟩, .string ⟨#[]⟩], .int .i64 (-1)]) (by simp [results, Tryz.results200, go_sem, q0, q1]) rfl ?_
    exact ⟨AttrAns.none (attr_none1 HN.out (by omega) (by omega)) _ _, (hK4.setCell (.inr (Nat.le_refl _)) _).setCell (.inr (Nat.le_refl _)) _⟩
end Go.Proofs.YtlpmjpmefdpcmaaGreatDoor
/- The reference: a start. -/
namespace Go.Proofs.YtlpmjpmefdpcmaaGreatDoor
open Go.RowKit Scrub Go.Shelf
/-- Four cells of a block that may be written. -/
def Four (w : World) (b : Nat) (t : TypeId) (x0 x1 x2 x3 : Value) : Prop := w.heap[b]? = some (.cells #[x0, x1, x2, x3] t (0, 0))
theorem Four.kept {S : List Nat} {w w' : World} {b : Nat} {t : TypeId} {x0 x1 x2 x3 : Value} (h : Four w b t x0 x1 x2 x3) (hk : Kept S w w') (hb : b ∉ S) : Four w' b t x0 x1 x2 x3 := by
  unfold Four at h ⊢
  rw [hk.block b (Array.getElem?_eq_some_iff.1 h).1 hb]
  exact h
theorem Four.lt {w : World} {b : Nat} {t : TypeId} {x0 x1 x2 x3 : Value} (h : Four w b t x0 x1 x2 x3) : b < w.heap.size := (Array.getElem?_eq_some_iff.1 h).1
theorem Four.set2 {w : World} {b : Nat} {t : TypeId} {x0 x1 x2 x3 : Value} (h : Four w b t x0 x1 x2 x3) (v : Value) : Four (w.setCell ⟨b, 2, none⟩ v) b t x0 x1 v x3 := by
  unfold Four at h ⊢
  simp [World.setCell, Array.getElem?_modify, h]
/-- The start's token, and what it has of attributes so far. -/
structure StAt (w : World) (tb : Nat) (nm : List UInt8) (wr : World) (v : Value) (al : List (List UInt8 × List UInt8)) : Prop where
  kept : Kept [] w wr
  res : Four wr w.heap.size 131 (.int .i64 0) (.string ⟨#[]⟩) (.slice none 0 0) (.string ⟨#[]⟩)
  tok : Four wr tb 131 (.int .i64 1) (.string ⟨nm.toArray⟩) v (.string ⟨#[]⟩)
  own : AOwn wr v al
  far : ∀ k, v.ownBlock = some k → w.heap.size < k ∧ k ≠ tb
  lt : w.heap.size < tb
theorem StAt.step {w wr w' : World} {tb : Nat} {nm : List UInt8} {v : Value} {al : List (List UInt8 × List UInt8)} (h : StAt w tb nm wr v al) (hk : Kept [] wr w') : StAt w tb nm w' v al :=
  ⟨h.kept.trans hk, h.res.kept hk (by simp), h.tok.kept hk (by simp), ownsRow_kept h.own hk (by simp), h.far, h.lt⟩
theorem StAt.add {w wr w' : World} {tb : Nat} {nm : List UInt8} {v v' : Value} {al al' : List (List UInt8 × List UInt8)} (h : StAt w tb nm wr v al) (hk : Kept v.ownBlock.toList wr w') (ho : AOwn w' v' al') (hm : Moved wr v v') : StAt w tb nm (w'.setCell ⟨tb, 2, none⟩ v') v' al' := by
  have hvt : tb ∉ v.ownBlock.toList := fun hc => (h.far tb (by simpa using hc)).2 rfl
  have hvr : w.heap.size ∉ v.ownBlock.toList := fun hc => by have := (h.far _ (by simpa using hc)).1; omega
  have hf' : ∀ k, v'.ownBlock = some k → w.heap.size < k ∧ k ≠ tb := by
    intro k hk'
    rcases hm with hm | ⟨k2, hm1, hm2⟩
    · exact h.far k (by rw [← hm]; exact hk')
    · rw [hm1] at hk'
      injection hk' with e
      have h1 := h.tok.lt
      have h2 := h.res.lt
      omega
  have hk1 : Kept [] w w' := h.kept.trans_new hk (fun i hi => by have := (h.far i (by simpa using hi)).1; exact .inr (by omega))
  have hlt := h.lt
  refine ⟨hk1.setCell (.inr (by show w.heap.size ≤ tb; omega)) _, ?_, ((h.tok.kept hk hvt).set2 v'), ?_, hf', h.lt⟩
  · exact (h.res.kept hk hvr).kept (S := [tb]) ((Kept.refl _ _).setCell (by simp) _) (by simp; omega)
  · exact ownsRow_kept ho (S := [tb]) ((Kept.refl _ _).setCell (by simp) _) (fun k hk' => by have := (hf' k hk').2; simpa using this)
/-- What is answered of a start of the name nm: o: its attributes and what is left. -/
def StPost (s : ByteArray) (nm : List UInt8) (o : Option (List (List UInt8 × List UInt8) × List UInt8)) (w : World) (e : Ending) (w' : World) : Prop :=
  Kept [] w w' ∧ match o with
  | none => ∃ x0 x1 a n c x3, e = .returned (.tuple #[.agg #[.int .i64 x0, .string x1, .slice a n c, .string x3], .int .i64 (-1)])
  | some (al, r3) => ∃ (v : Value) (E : Nat), e = .returned (.tuple #[.agg #[.int .i64 1, .string ⟨nm.toArray⟩, v, .string ⟨#[]⟩], .int .i64 (E : Int)]) ∧ AOwn w' v al ∧ (∀ k, v.ownBlock = some k → w.heap.size ≤ k) ∧ E ≤ s.size ∧ r3 = s.data.toList.drop E ∧ al.length ≤ s.size
theorem StPost.none {s : ByteArray} {nm : List UInt8} {w w' : World} (h : Kept [] w w') (x0 : Int) (x1 : ByteArray) (a : Option Addr) (n c : Nat) (x3 : ByteArray) : StPost s nm none w (.returned (.tuple #[.agg #[.int .i64 x0, .string x1, .slice a n c, .string x3], .int .i64 (-1)])) w' := ⟨h, x0, x1, a, n, c, x3, rfl⟩
set_option maxHeartbeats 4000000 in
theorem rStart (s : ByteArray) (i : Nat) (w : World) (hs : s.size ≤ 1099511627776) (hi : i ≤ s.size) :
    Calls Tryz.prog 147 #[.string s, .int .i64 (i : Int)] w (StPost s (small ((s.data.toList.drop i).takeWhile nameB)) (attrsP ((s.data.toList.drop i).dropWhile nameB) []) w) := by
  have hll : s.data.toList.length = s.size := len_of s
  obtain ⟨k0, hk0⟩ : ∃ k0, k0 = i + ((s.data.toList.drop i).takeWhile nameB).length := ⟨_, rfl⟩
  have hk0s := takeWhile_room nameB s.data.toList i (by omega)
  rw [← hk0, hll] at hk0s
  have HK0 : Hid _ := hk0
  have HD0 : Hid ((s.data.toList.drop i).dropWhile nameB = s.data.toList.drop k0) := by
    show _ = _
    rw [drop_while, hk0]
  generalize hnm : small ((s.data.toList.drop i).takeWhile nameB) = nm
  have HNM : Hid _ := hnm
  clear hk0 hnm
  rw [HD0.out]
  obtain ⟨O, hO⟩ : ∃ O, attrsP (s.data.toList.drop k0) [] = O := ⟨_, rfl⟩
  rw [hO]
  have HO : Hid _ := hO
  clear hO
  go_enter Tryz.func147, Tryz.ntmps147
  go_wp2_with fail
  refine (rNameAt s i _ hs hi).mono ?_
  rintro e w1 ⟨rfl, hkw1⟩
  rw [HNM.out, ← HK0.out]
  have hr1 : Four w1 w.heap.size 131 (.int .i64 0) (.string ⟨#[]⟩) (.slice none 0 0) (.string ⟨#[]⟩) := Four.kept (heap_alloc_new w _) hkw1 (by simp)
  have hkk1 : Kept [] w w1 := ((Kept.refl [] w).alloc _).trans hkw1
  have hlt1 := hr1.lt
  clear hkw1
  go_wp2_with fail
  go_loopg [7] (s.size - k0) (fun g x wr => ∃ (k : Nat) (v : Value) (al : List (List UInt8 × List UInt8)), k0 ≤ k ∧ k ≤ s.size ∧ g = s.size - k ∧ x = .int .i64 (k : Int) ∧ O = attrsP (s.data.toList.drop k) al ∧ al.length ≤ k ∧ StAt w w1.heap.size nm wr v al)
  case atStart =>
    refine ⟨k0, .slice none 0 0, [], by omega, hk0s, rfl, rfl, HO.out.symm, by simp, ⟨hkk1.alloc _, hr1.kept ((Kept.refl [] _).alloc _) (by simp), heap_alloc_new w1 _, nilA _, (fun k hk => by cases hk), hlt1⟩⟩
  case round =>
    obtain ⟨k, v, al, hk0k, hks, hgk, rfl, hinv, hal, hst⟩ := hrel
    obtain ⟨va, vc, rfl⟩ := ownsRow_form hst.own
    have HG : Hid _ := hgk
    have HI : Hid _ := hinv
    clear hgk hinv
    obtain ⟨kk, hkk⟩ : ∃ kk, kk = k + ((s.data.toList.drop k).takeWhile blankSlashB).length := ⟨_, rfl⟩
    have hkks := takeWhile_room blankSlashB s.data.toList k (by omega)
    rw [← hkk, hll] at hkks
    have hkkk : k ≤ kk := by omega
    have HKK : Hid _ := hkk
    have HD : Hid ((s.data.toList.drop k).dropWhile blankSlashB = s.data.toList.drop kk) := by
      show _ = _
      rw [drop_while, hkk]
    clear hkk
    obtain ⟨⟨q0, q1, q2, q3⟩, ⟨f0, f1, f2, f3⟩⟩ := cells4 hst.res
    obtain ⟨⟨p0, p1, p2, p3⟩, ⟨g0, g1, g2, g3⟩⟩ := cells4 hst.tok
    have hlt0 := hst.lt
    have htl := hst.tok.lt
    generalize w1.heap.size = tb at *
    go_wp2_with fail
    refine (rSkip s k true _ hs hks).mono ?_
    rintro e w2 ⟨rfl, rfl⟩
    rw [skip_slash, ← HKK.out]
    by_cases hlt : kk < s.size
    · have hlt1' : ((s.size : Int) ≤ (kk : Int)) = False := eq_false (by omega)
      have hlt2' : (kk : Int) < (s.size : Int) := by omega
      have hge2 : (0 : Int) ≤ (kk : Int) := by omega
      have hdc : s.data.toList.drop kk = s[kk] :: s.data.toList.drop (kk + 1) := List.drop_eq_getElem_cons (by omega)
      have HNE : Hid (s.data.toList.drop kk ≠ []) := by show _ ≠ _; rw [hdc]; simp
      have HHD : Hid ((s.data.toList.drop kk).headD 0 = s[kk]) := by show _ = _; rw [hdc]; rfl
      clear hdc
      cases hq : ((s[kk].toNat : Int) == 62) with
      | true =>
        have HQ : Hid _ := hq
        go_wp2_with fail
        refine bodyPost_ret (v := .tuple #[.agg #[.int .i64 1, .string ⟨nm.toArray⟩, .slice va al.length vc, .string ⟨#[]⟩], .int .i64 ((kk + 1 : Nat) : Int)]) (by simp [results, Tryz.results147, go_sem, q0, q1, q2, q3]) rfl ?_
        have hkf := hst.kept.set4 (k := w.heap.size) (.inr (Nat.le_refl _)) (.int .i64 1) (.string ⟨nm.toArray⟩) (.slice va al.length vc) (.string ⟨#[]⟩)
        rw [HI.out, attrsP_close HD.out HNE.out (by rw [HHD.out]; have := HQ.out; simp at this; omega), List.drop_drop]
        refine ⟨hkf, _, kk + 1, rfl, ?_, fun k hk => by have := (hst.far k hk).1; omega, by omega, rfl, by omega⟩
        exact ownsRow_kept hst.own ((Kept.refl [w.heap.size] _).set4 (k := w.heap.size) (.inl (by simp)) _ _ _ _) (fun k hk => by have := (hst.far k hk).1; simp; omega)
      | false =>
        have HQ : Hid (((s.data.toList.drop kk).headD 0).toNat ≠ 62) := by
          show _ ≠ _
          rw [HHD.out]
          simp at hq
          omega
        have HONE : Hid _ := attrsP_one (al := al) HD.out HNE.out HQ.out
        clear HNE HHD HQ
        go_wp2_with fail
        refine (rAttribute s kk _ hs hlt).mono ?_
        rintro e w3 ⟨hans, hk3⟩
        have hst3 := hst.step hk3
        clear hst q0 q1 q2 q3 f0 f1 f2 f3 p0 p1 p2 p3 g0 g1 g2 g3
        cases hat : attributeP (s.data.toList.drop kk) with
        | none =>
          unfold AttrAns at hans
          rw [hat] at hans
          obtain ⟨a, b, rfl⟩ := hans
          have HAT : Hid _ := hat
          have hst4 := hst3.step ((Kept.refl [] w3).alloc (.cells #[.string a, .string b] 63))
          obtain ⟨⟨q0, q1, q2, q3⟩, ⟨f0, f1, f2, f3⟩⟩ := cells4 hst3.res
          obtain ⟨⟨p0, p1, p2, p3⟩, ⟨g0, g1, g2, g3⟩⟩ := cells4 hst3.tok
          have htl3 := hst3.tok.lt
          have hrl3 := hst3.res.lt
          go_wp2_with fail
          have hX := Four.kept (set4_at hst3.res (.int .i64 1) (.string ⟨nm.toArray⟩) (.slice va al.length vc) (.string ⟨#[]⟩)) ((Kept.refl [] _).alloc (.cells #[.string a, .string b] 63)) (by simp)
          obtain ⟨⟨r0, r1, r2, r3⟩, _⟩ := cells4 hX
          refine bodyPost_ret (v := .tuple #[.agg #[.int .i64 1, .string ⟨nm.toArray⟩, .slice va al.length vc, .string ⟨#[]⟩], .int .i64 (-1)]) (by simp [results, Tryz.results147, go_sem, r0, r1, r2, r3]) rfl ?_
          rw [HI.out, HONE.out, HAT.out]
          exact StPost.none ((hst3.kept.set4 (k := w.heap.size) (.inr (Nat.le_refl _)) _ _ _ _).alloc _) _ _ _ _ _ _
        | some p =>
          obtain ⟨⟨n, x⟩, rest⟩ := p
          unfold AttrAns at hans
          rw [hat] at hans
          obtain ⟨E, rfl, hE1, hE2, rfl⟩ := hans
          have HNX : Hid (attrsP (s.data.toList.drop k) al = attrsP (s.data.toList.drop E) (withP al (n, x))) := by
            show _ = _
            rw [HONE.out, hat]
          clear hat HONE
          have hst4 := hst3.step ((Kept.refl [] w3).alloc (.cells #[.string ⟨n.toArray⟩, .string ⟨x.toArray⟩] 63))
          obtain ⟨⟨p0, p1, p2, p3⟩, ⟨g0, g1, g2, g3⟩⟩ := cells4 hst3.tok
          have htl3 := hst3.tok.lt
          have hE3 : ((E : Int) < 0) = False := eq_false (by omega)
          go_wp2_with fail
          refine (rWith _ al n x _ hst4.own (by omega)).mono ?_
          rintro e w5 ⟨v', rfl, ho5, hm5, hk5⟩
          have hvt : tb ∉ (Value.slice va al.length vc).ownBlock.toList := fun hc => (hst4.far tb (by simpa using hc)).2 rfl
          obtain ⟨⟨r0, r1, r2, r3⟩, ⟨j0, j1, j2, j3⟩⟩ := cells4 (hst4.tok.kept hk5 hvt)
          have hst6 := hst4.add hk5 ho5 hm5
          obtain ⟨va', vc', rfl⟩ := ownsRow_form ho5
          go_wp2_with fail
          go_roundg (s.size - E)
          case measure => rw [HG.out]; omega
          case rel => exact ⟨E, _, withP al (n, x), by omega, hE2, rfl, rfl, by rw [HI.out]; exact HNX.out, by have := withP_le al (n, x); omega, hst6⟩
    · have hlt1' : (s.size : Int) ≤ (kk : Int) := by omega
      go_wp2_with fail
      refine bodyPost_ret (v := .tuple #[.agg #[.int .i64 1, .string ⟨nm.toArray⟩, .slice va al.length vc, .string ⟨#[]⟩], .int .i64 (-1)]) (by simp [results, Tryz.results147, go_sem, q0, q1, q2, q3]) rfl ?_
      rw [HI.out, attrsP_end HD.out (List.drop_eq_nil_of_le (by omega))]
      exact StPost.none (hst.kept.set4 (k := w.heap.size) (.inr (Nat.le_refl _)) _ _ _ _) _ _ _ _ _ _
end Go.Proofs.YtlpmjpmefdpcmaaGreatDoor
