import Derived.Test.YtlpmjpmefdpcmaaGreatDoorQRef1
import Derived.Test.YtlpmjpmefdpcmaaGreatDoorQRef2
import Derived.Test.YtlpmjpmefdpcmaaGreatDoorQRef3
import Derived.Test.YtlpmjpmefdpcmaaGreatDoorQWrite
import Derived.Test.YtlpmjpmefdpcmaaGreatDoorQTree1
import Derived.Deep.DeepCutAuto
import Derived.Deep.CutBlock
import Derived.Deep.RegionHeld3
namespace Go.Proofs.YtlpmjpmefdpcmaaGreatDoor
open Go.RowKit Scrub Go.Shelf
theorem SOwn.set {w : World} {g n c : Nat} {l : List (List UInt8)} (h : SOwn w (.slice (some ⟨g, 0, none⟩) n c) l) (hl : l.length = n) (i : Nat) (hi : i < n) (x : List UInt8) : SOwn (w.setCell ⟨g, i, none⟩ (.string ⟨x.toArray⟩)) (.slice (some ⟨g, 0, none⟩) n c) (l.set i x) := by
  unfold SOwn at h ⊢
  rw [hl] at h
  have e : strCells (l.set i x) = (strCells l).set i (.string ⟨x.toArray⟩) := by simp [strCells, List.map_set]
  have e2 : (l.set i x).length = n := by simp [hl]
  rw [e, e2]
  exact own_setCell h i (by simp [strCells, hl]; omega) _
theorem SOwn.row {w : World} {v : Value} {n : Nat} {l : List (List UInt8)} (h : SOwn w v l) (hl : l.length = n) : w.ownsRow 0 9 1 v n (strCells l) := by
  unfold SOwn at h
  rw [hl] at h
  exact h
theorem app_fin {w W0 w' : World} {g : Nat} {v' : Value} {x : List UInt8} (hK : Kept [] w W0) (hown : w'.ownsRow 0 9 1 v' (16 + 1) (strCells (List.replicate 16 []) ++ [.string ⟨x.toArray⟩])) (hgr : W0.grownBy w' (Value.slice (some ⟨g, 0, none⟩) 16 16).ownBlock) (hg : w.heap.size ≤ g) :
    SOwn w' v' (List.replicate 16 [] ++ [x]) ∧ Kept [] w w' := by
  refine ⟨?_, hK.trans_new (Kept.own hgr) (fun i hi => .inr ?_)⟩
  · unfold SOwn
    have e : (List.replicate 16 [] ++ [x]).length = 16 + 1 := by simp
    rw [e, strCells_snoc]
    exact hown
  · have : some i = some g := by simpa [Value.ownBlock] using (Option.mem_toList.1 hi).symm
    injection this with this
    omega
set_option maxRecDepth 100000 in
set_option maxHeartbeats 8000000 in
theorem refused_any (n k : Int) (w : World) (ht : Tabs w) (hn1 : -9223372036854775808 ≤ n) (hn2 : n ≤ 9223372036854775807) (hk1 : -9223372036854775808 ≤ k) (hk2 : k ≤ 9223372036854775807) :
    Calls Tryz.prog 12 #[.int .i64 n, .int .i64 k] w fun e w' => e = .returned (.bool true) ∧ Kept [] w w' := by
  obtain ⟨i0, hi, hz0, hz1, hz2⟩ := info_parts infoNode
  obtain ⟨i1, hi1, hy0, hy1, hy2⟩ := info_parts infoStr
  have HX : Hid _ := cleanX_any w ht
  have HT : Hid (∀ w', Kept [] w w' → Tabs w') := fun w' hk => ht.kept hk
  have HP50 : Hid (∀ w', Calls Tryz.prog 27 #[.int .i64 n, .int .i64 50] w' fun e w'' => (∃ m : Nat, m < 50 ∧ e = .returned (.int .i64 (m : Int))) ∧ w'' = w') := fun w' => pick_int n 50 w' hn1 hn2 (by omega) (by omega)
  have HP5 : Hid (∀ w', Calls Tryz.prog 27 #[.int .i64 k, .int .i64 5] w' fun e w'' => (∃ m : Nat, m < 5 ∧ e = .returned (.int .i64 (m : Int))) ∧ w'' = w') := fun w' => pick_int k 5 w' hk1 hk2 (by omega) (by omega)
  have HP9 : Hid (∀ w', Calls Tryz.prog 27 #[.int .i64 n, .int .i64 9] w' fun e w'' => (∃ m : Nat, m < 9 ∧ e = .returned (.int .i64 (m : Int))) ∧ w'' = w') := fun w' => pick_int n 9 w' hn1 hn2 (by omega) (by omega)
  have HP16 : Hid (∀ w', Calls Tryz.prog 27 #[.int .i64 k, .int .i64 16] w' fun e w'' => (∃ m : Nat, m < 16 ∧ e = .returned (.int .i64 (m : Int))) ∧ w'' = w') := fun w' => pick_int k 16 w' hk1 hk2 (by omega) (by omega)
  clear ht hn1 hn2 hk1 hk2
  go_enter Tryz.func12, Tryz.ntmps12
  go_wp2_with fail
  refine Calls.mono HX.out ?_
  rintro e w1 ⟨rfl, hk1⟩
  go_wp2_with fail
  refine (HP50.out _).mono ?_
  rintro e w2 ⟨⟨m1, hm1, rfl⟩, rfl⟩
  obtain ⟨w3, hmk, hk3, hb3⟩ := make_bytes (601 + m1) w2 (by omega)
  have ec : ((601 + m1 : Nat) : Int) = 601 + (m1 : Int) := by omega
  rw [ec] at hmk
  have hcv := conv_back (P := Tryz.prog) w3 60 9 5 w2.heap.size (601 + m1) (601 + m1) (List.replicate (601 + m1) 0) (by simp) Tryz.underlying60 Tryz.underlying5 Tryz.underlying9 hb3
  have hll : (List.replicate (601 + m1) (0 : UInt8)).length = 601 + m1 := by simp
  generalize List.replicate (601 + m1) (0 : UInt8) = long at *
  have HLZ : Hid (600 < (⟨long.toArray⟩ : ByteArray).size) := by
    have e : (⟨long.toArray⟩ : ByteArray).size = long.length := by simp [ByteArray.size]
    show 600 < _
    omega
  have HLA : Hid ([[], long].any longP = true) := by
    show (longP [] || (longP long || false)) = true
    have e : longP long = true := decide_eq_true (by omega)
    rw [e]
    rfl
  go_wp2_with fail
  clear hcv hmk hb3 ec
  refine (HP50.out _).mono ?_
  rintro e w4 ⟨⟨m2, hm2, rfl⟩, rfl⟩
  obtain ⟨w5, hmk, hk5, hb5⟩ := make_bytes (21 + m2) w4 (by omega)
  have ec : ((21 + m2 : Nat) : Int) = 21 + (m2 : Int) := by omega
  rw [ec] at hmk
  have hcv := conv_back (P := Tryz.prog) w5 60 9 5 w4.heap.size (21 + m2) (21 + m2) (List.replicate (21 + m2) 0) (by simp) Tryz.underlying60 Tryz.underlying5 Tryz.underlying9 hb5
  have hwl : (List.replicate (21 + m2) (0 : UInt8)).length = 21 + m2 := by simp
  generalize List.replicate (21 + m2) (0 : UInt8) = wide at *
  go_wp2_with fail
  clear hcv hmk hb5 ec
  have hk6 := (hk1.trans hk3).trans hk5
  refine (HP5.out _).mono ?_
  rintro e w6 ⟨⟨m3, hm3, rfl⟩, rfl⟩
  obtain ⟨w7, hmk, hk7, hs7⟩ := make_strs (13 + m3) w6 (by omega)
  have ec : ((13 + m3 : Nat) : Int) = 13 + (m3 : Int) := by omega
  rw [ec] at hmk
  have HS7 : Hid _ := hs7
  have hk8 := hk6.trans hk7
  have hb7 : w6.heap.size < w7.heap.size := own_lt hs7 rfl
  clear hs7
  go_wp2_with fail
  clear hmk ec
  go_loopg [9] (13 + m3) (fun g x wr => ∃ j : Nat, j ≤ 13 + m3 ∧ g = 13 + m3 - j ∧ x = .int .i64 (j : Int) ∧ Kept [] w wr ∧ ∃ l : List (List UInt8), l.length = 13 + m3 ∧ SOwn wr (.slice (some ⟨w6.heap.size, 0, none⟩) (13 + m3) (13 + m3)) l)
  case atStart => exact ⟨0, by omega, rfl, rfl, hk8, List.replicate (13 + m3) [], by simp, HS7.out⟩
  case round =>
    obtain ⟨wo, rfl⟩ : ∃ x, x = wr := ⟨wr, rfl⟩
    obtain ⟨j, hj, hgj, rfl, hkj, l, hll2, hown⟩ := hrel
    have HGJ : Hid _ := hgj
    have HOW : Hid _ := hown
    clear hgj HS7
    by_cases hjl : j < 13 + m3
    · have hjl' : (j : Int) < 13 + (m3 : Int) := by omega
      have hjg : (0 : Int) ≤ (j : Int) := by omega
      have hc0 : wo.cell? ⟨w6.heap.size, j, none⟩ = some (.string ⟨(l[j]'(by omega)).toArray⟩) := row_cell (hown.row hll2) (by simp [strCells, List.getElem?_eq_getElem (show j < l.length by omega)])
      have hf0 : wo.frozen? ⟨w6.heap.size, j, none⟩ = false := row_free (hown.row hll2) j
      have HST : Hid (SOwn (wo.setCell ⟨w6.heap.size, j, none⟩ (.string ⟨#[120]⟩)) (.slice (some ⟨w6.heap.size, 0, none⟩) (13 + m3) (13 + m3)) (l.set j [120])) := hown.set hll2 j hjl [120]
      have HLS : Hid ((l.set j [120]).length = 13 + m3) := by show _ = _; simp [hll2]
      have HKS : Hid (Kept [] w (wo.setCell ⟨w6.heap.size, j, none⟩ (.string ⟨#[120]⟩))) := hkj.setCell (.inr hk6.size) _
      clear hown
      go_wp2_with fail
      go_roundg (13 + m3 - (j + 1))
      case measure => rw [HGJ.out]; omega
      case rel => exact ⟨j + 1, by omega, rfl, by go_num, HKS.out, _, HLS.out, HST.out⟩
    · have hjl' : ((j : Int) < 13 + (m3 : Int)) = False := eq_false (by omega)
      have HMA : Hid (∀ w', Kept [] wo w' → StrsAt w' (.slice (some ⟨w6.heap.size, 0, none⟩) (13 + m3) (13 + m3)) l) := fun w' hk' => hown.strs.kept hk'
      have HDF : Hid _ := DeepAt.first wo
      clear hown HOW
      go_wp2_with fail
      go_loopg [10, 11] 21 (fun g dv x wr => ∃ j : Nat, j ≤ 21 ∧ g = 21 - j ∧ x = .int .i64 (j : Int) ∧ Kept [] wo wr ∧ ∃ b kv, dv = .slice (some ⟨b, 0, none⟩) 1 1 ∧ wo.heap.size ≤ b ∧ DeepAt j b kv wr)
      case atStart => exact ⟨0, by omega, rfl, rfl, (Kept.refl [] wo).alloc _, _, _, rfl, Nat.le_refl _, HDF.out⟩
      case round =>
        obtain ⟨wi, rfl⟩ : ∃ x, x = wr := ⟨wr, rfl⟩
        obtain ⟨q, hq, hgq, rfl, hkq, b, kv, rfl, hbo, hDq⟩ := hrel
        have HGQ : Hid _ := hgq
        have HDQ : Hid (DeepAt _ _ _ _) := hDq
        clear hgq hDq HDF
        go_wp2_with fail
        refine (HP9.out _).mono ?_
        rintro e w10 ⟨⟨m4, hm4, rfl⟩, rfl⟩
        by_cases hql : q < 12 + m4
        · have hql' : (q : Int) < 12 + (m4 : Int) := by omega
          have HDM : Hid (DeepAt _ _ _ _) := HDQ.out.more
          go_wp2_with fail
          go_roundg (21 - (q + 1))
          case measure => rw [HGQ.out]; omega
          case rel => exact ⟨q + 1, by omega, rfl, by go_num, hkq.alloc _, _, _, rfl, hkq.size, HDM.out⟩
        · have hql' : ((q : Int) < 12 + (m4 : Int)) = False := eq_false (by omega)
          have hq12 : 12 ≤ q := by omega
          have hk12 := hkj.trans hkq
          clear hql
          go_wp2_with fail
          refine Calls.mono (parse_long ⟨long.toArray⟩ _ HLZ.out) ?_
          rintro e w11 ⟨rfl, hk11⟩
          have hk11' : Kept [] (allocs w10 (badL w10.heap.size)) w11 := hk11
          have hBA := (bad_at w10).kept hk11'
          have hNB : w11.cell? ⟨w10.heap.size, 0, none⟩ = some (.slice none 0 0) ∧ w11.cell? ⟨w10.heap.size, 1, none⟩ = some (.slice none 0 0) := by
            have hb := (none_at w10).kept hk11'
            exact ⟨hb.cell 0, hb.cell 1⟩
          have hk13 : Kept [] w10 w11 := (allocs_kept _ w10).trans hk11'
          have HBA : Hid (BadAt w11 (w10.heap.size + 1 + 1 + 1 + 1 + 1 + 1 + 1 + 1 + 1 + 1 + 1 + 1 + 1 + 1 + 1 + 1 + 1 + 1 + 1 + 1 + 1 + 1 + 1 + 1 + 1 + 1 + 1 + 1 + 1)) := hBA
          have HNB : Hid _ := hNB
          clear hk11 hk11' hBA hNB
          have hk14 := hk12.trans hk13
          go_wp2_with fail
          generalize w10.heap.size + 1 + 1 + 1 + 1 + 1 + 1 + 1 + 1 + 1 + 1 + 1 + 1 + 1 + 1 + 1 + 1 + 1 + 1 + 1 + 1 + 1 + 1 + 1 + 1 + 1 + 1 + 1 + 1 + 1 = bb at *
          refine (HP16.out _).mono ?_
          rintro e w12 ⟨⟨m5, hm5, rfl⟩, rfl⟩
          obtain ⟨cb, fb, y0, hfb, hLb⟩ := HBA.out m5 hm5
          obtain ⟨hck, hbk⟩ := badG_check fb hfb
          have hm5' : (m5 : Int) < 16 := by omega
          have hm50 : (0 : Int) ≤ (m5 : Int) := by omega
          have HWB : Hid (Calls Tryz.prog 16 #[.slice (some ⟨cb, 0, none⟩) 1 1] w12 fun e w' => e = .returned (.tuple #[.string ⟨#[]⟩, .int .i64 2]) ∧ Kept [] w12 w') := by
            have h := write_any 3 fb (.slice (some ⟨cb, 0, none⟩) 1 1) w12 hLb (by omega) (HT.out _ hk14).1
            have e : writeAns 3 fb = [] := by rw [writeAns, if_neg (by rw [hck]; decide)]
            rw [hck, e] at h
            exact h
          have y0' : w12.cell? ⟨bb, m5, none⟩ = some (.slice (some ⟨cb, 0, none⟩) 1 1) := y0
          clear y0 hfb hLb hck hbk HBA
          go_wp2_with fail
          refine Calls.mono HWB.out ?_
          rintro e w13 ⟨rfl, hk15⟩
          have hk16 := hk13.trans hk15
          have hk17 := hk14.trans hk15
          obtain ⟨q', rfl⟩ : ∃ q', q = q' + 1 := ⟨q - 1, by omega⟩
          have hD13 := HDQ.out.kept hk16
          have HD13 : Hid (DeepAt _ _ _ _) := hD13
          have HWD : Hid (Calls Tryz.prog 16 #[.slice (some ⟨b, 0, none⟩) 1 1] w13 fun e w' => e = .returned (.tuple #[.string ⟨#[]⟩, .int .i64 3]) ∧ Kept [] w13 w') := by
            have h := write_any (q' + 2) (deepG (q' + 1)) _ w13 hD13.lies (by rw [deepG_bulk]; omega) (HT.out _ hk17).1
            have hck : checkF (q' + 2) (deepG (q' + 1)) = 3 := by rw [checkF, deepG_depth, if_pos (by omega)]
            have e : writeAns (q' + 2) (deepG (q' + 1)) = [] := by rw [writeAns, if_neg (by rw [hck]; decide)]
            rw [hck, e] at h
            exact h
          clear hD13 HWB
          go_wp2_with fail
          refine Calls.mono HWD.out ?_
          rintro e w14 ⟨rfl, hk18⟩
          have hk19 := hk17.trans hk18
          have HD14 : Hid (DeepAt _ _ _ _) := HD13.out.kept hk18
          have HNB14 : Hid _ := HNB.out
          have hbl : b < w10.heap.size := (Array.getElem?_eq_some_iff.1 HDQ.out.1).1
          have hz14 := ((hk16.trans hk18)).size
          have hNB14 : w14.cell? ⟨w10.heap.size, 0, none⟩ = some (.slice none 0 0) ∧ w14.cell? ⟨w10.heap.size, 1, none⟩ = some (.slice none 0 0) := ⟨cell_kept (hk15.trans hk18) HNB.out.1, cell_kept (hk15.trans hk18) HNB.out.2⟩
          have hlt14 : w10.heap.size < w14.heap.size := cell_lt hNB14.1
          have hko14 : Kept [] wo w14 := (hkq.trans hk16).trans hk18
          clear HWD HD13 HNB HNB14
          go_wp2_with (at_builtin; refine wpList_append_fp _ rfl _ _ 31 rfl 0 42 i0 _ 4 80 Tryz.underlying31 hi hz0 hz1 hz2 rfl (by decide) _ 1 [.string ⟨#[98]⟩, .slice none 0 0, kv, .string ⟨#[]⟩] rfl ?own _ 1 1 [.string ⟨#[]⟩, .slice none 0 0, .slice none 0 0, .string ⟨#[]⟩] rfl rfl ?news ?one ?len ?bytes (Nat.zero_le _) ?_)
          case own => exact ownsRow_kept HD14.out.own ((Kept.refl [] _).alloc _) (by simp)
          case news => exact new_cells w14 [.string ⟨#[]⟩, .slice none 0 0, .slice none 0 0, .string ⟨#[]⟩] 42
          case one => intro u hu; simp at hu; rcases hu with rfl | rfl | rfl <;> rfl
          case len => unfold maxLen; omega
          case bytes => omega
          intro v' w15 hown hgr hmv
          have hL15 := HD14.out.append ((Kept.refl [] w14).alloc _) hown hgr
          have hkb := Kept.own hgr
          have hnb : ∀ i, i ∈ (Value.slice (some ⟨b, 0, none⟩) 1 1).ownBlock.toList → i = b := fun i hi => by
            have := Option.mem_toList.1 hi
            simpa [Value.ownBlock] using this.symm
          have hko15 : Kept [] wo w15 := (hko14.alloc _).trans_new hkb (fun i hi => .inr (by rw [hnb i hi]; exact hbo))
          have hk20 : Kept [] w w15 := hkj.trans hko15
          have hNB15 : w15.cell? ⟨w10.heap.size, 0, none⟩ = some (.slice none 0 0) ∧ w15.cell? ⟨w10.heap.size, 1, none⟩ = some (.slice none 0 0) := by
            have hc : ∀ o, w15.cell? ⟨w10.heap.size, o, none⟩ = w14.cell? ⟨w10.heap.size, o, none⟩ := fun o => by
              rw [hkb.cell (p := ⟨w10.heap.size, o, none⟩) (by simp; omega) (fun hi => by have := hnb _ hi; simp at this; omega)]
              exact ((Kept.refl [] w14).alloc _).cell (p := ⟨w10.heap.size, o, none⟩) hlt14 (by simp)
            exact ⟨(hc 0).trans hNB14.1, (hc 1).trans hNB14.2⟩
          have HWE : Hid (Calls Tryz.prog 16 #[v'] w15 fun e w' => e = .returned (.tuple #[.string ⟨#[]⟩, .int .i64 3]) ∧ Kept [] w15 w') := by
            have h := write_any (q' + 2) (deepE (q' + 1)) v' w15 hL15 (Nat.le_trans (deepE_bulk (q' + 1)) (by omega)) (HT.out _ hk20).1
            have hck : checkF (q' + 2) (deepE (q' + 1)) = 3 := by rw [checkF, if_pos (Nat.lt_of_lt_of_le (by omega : 12 < q' + 1 + 1) (deepE_depth (q' + 1)))]
            have e : writeAns (q' + 2) (deepE (q' + 1)) = [] := by rw [writeAns, if_neg (by rw [hck]; decide)]
            rw [hck, e] at h
            exact h
          have HNB15 : Hid _ := hNB15
          have HMB : Hid (∀ w', Kept [] w15 w' → StrsAt w' (.slice (some ⟨w6.heap.size, 0, none⟩) (13 + m3) (13 + m3)) l) := fun w' hk' => HMA.out _ (hko15.trans hk')
          have HTB : Hid (∀ w', Kept [] w15 w' → Tabs w') := fun w' hk' => HT.out _ (hk20.trans hk')
          obtain ⟨g7, c7, hv7⟩ := form_pos (n := 1) hown
          subst hv7
          clear hown hgr hmv hL15 hkb hnb hNB14 hNB15 HD14 HMA
          go_wp2_with fail
          refine Calls.mono HWE.out ?_
          rintro e w16 ⟨rfl, hk21⟩
          have HCA : Hid (Calls Tryz.prog 20 #[.agg #[.slice (some ⟨w6.heap.size, 0, none⟩) (13 + m3) (13 + m3), .slice none 0 0], .string ⟨long.toArray⟩] w16 fun e w' => e = .returned (.tuple #[.string ⟨#[]⟩, .int .i64 4]) ∧ Kept [] w16 w') :=
            clean_bad _ _ (l, []) _ w16 ⟨HMB.out _ hk21, StrsAt.nil _ _ _⟩ (notPol_l (by omega))
          clear HWE
          go_wp2_with fail
          refine Calls.mono HCA.out ?_
          rintro e w17 ⟨rfl, hk22⟩
          have hk23 := hk21.trans hk22
          have HCB : Hid (Calls Tryz.prog 20 #[.agg #[.slice none 0 0, .slice (some ⟨w6.heap.size, 0, none⟩) (13 + m3) (13 + m3)], .string ⟨#[]⟩] w17 fun e w' => e = .returned (.tuple #[.string ⟨#[]⟩, .int .i64 4]) ∧ Kept [] w17 w') :=
            clean_bad _ _ ([], l) _ w17 ⟨StrsAt.nil _ _ _, HMB.out _ hk23⟩ (notPol_r (by omega))
          clear HCA
          go_wp2_with fail
          refine Calls.mono HCB.out ?_
          rintro e w18 ⟨rfl, hk24⟩
          have hk25 := hk23.trans hk24
          clear HCB
          go_wp2_with fail
          refine Calls.mono (clean_bad _ _ ([[]], []) _ _ ⟨strs_one (s := []) (Kept.refl _ _), StrsAt.nil _ _ _⟩ (by rfl)) ?_
          rintro e w19 ⟨rfl, hk26'⟩
          have hk26 : Kept [] w15 w19 := (hk25.alloc _).trans hk26'
          clear hk26'
          go_wp2_with fail
          refine Calls.mono (clean_bad _ _ ([], [wide]) _ _ ⟨StrsAt.nil _ _ _, strs_one (s := wide) (Kept.refl _ _)⟩ (notPol_wide (by omega))) ?_
          rintro e w20 ⟨rfl, hk27'⟩
          have hk27 : Kept [] w15 w20 := (hk26.alloc _).trans hk27'
          clear hk27'
          have n0 := cell_kept hk27 HNB15.out.1
          have n1 := cell_kept hk27 HNB15.out.2
          go_wp2_with fail
          refine Calls.mono (clean_long _ _ ([], []) ⟨long.toArray⟩ w20 ⟨StrsAt.nil _ _ _, StrsAt.nil _ _ _⟩ (by rfl) HLZ.out) ?_
          rintro e w21 ⟨rfl, hk28'⟩
          have hk28 := hk27.trans hk28'
          clear hk28' n0 n1
          obtain ⟨w22, hmk22, hk29, hs22⟩ := make_strs 17 (w21.alloc (.cells #[.string ⟨wide.toArray⟩] 9)) (by omega)
          have e17 : ((17 : Nat) : Int) = 17 := rfl
          rw [e17] at hmk22
          go_wp2_with fail
          refine Calls.mono (cleanAll_bad _ _ _ ([], [wide]) (List.replicate 17 []) w22 ⟨StrsAt.nil _ _ _, strs_one (s := wide) hk29⟩ (by have h := hs22.strs; rw [World.size_alloc] at h; exact h) (notPol_wide (by omega))) ?_
          rintro e w23 ⟨rfl, hk30'⟩
          have hk30 : Kept [] w15 w23 := ((hk28.alloc _).trans hk29).trans hk30'
          clear hk30' hmk22 hs22 hk29 e17
          have e16 : ((16 : Nat) : Int) = 16 := rfl
          obtain ⟨wA, hmkA, hkA, hsA⟩ := make_strs 16 w23.drew (by omega)
          obtain ⟨wB, hmkB, hkB, hsB⟩ := make_strs 16 (w23.alloc (.cells #[.string ⟨long.toArray⟩] 9)).drew (by omega)
          have hzA : w23.drew.heap.size = w23.heap.size := rfl
          have hzB : (w23.alloc (.cells #[.string ⟨long.toArray⟩] 9)).drew.heap.size = w23.heap.size + 1 := World.size_alloc _ _
          rw [e16, hzA] at hmkA
          rw [e16, hzB] at hmkB
          rw [hzA] at hsA
          rw [hzB] at hsB
          have hKA : Kept [] w23 wA := ((Kept.refl [] w23).drew).trans hkA
          have hKB : Kept [] w23 wB := (((Kept.refl [] w23).alloc _).drew).trans hkB
          have HNW : Hid (∀ (j : Nat) (u : Value), [Value.string ⟨long.toArray⟩][j]? = some u → wB.cell? ((⟨w23.heap.size, 0, none⟩ : Addr).add j) = some u) := fun j u h => cell_kept (((Kept.refl [] _).drew).trans hkB) (new_cells w23 [.string ⟨long.toArray⟩] 9 j u h)
          have HSA : Hid _ := hsA.row (n := 16) (by simp)
          have HSB : Hid _ := hsB.row (n := 16) (by simp)
          have n0 := cell_kept hk30 HNB15.out.1
          have n1 := cell_kept hk30 HNB15.out.2
          have nA0 := cell_kept (hk30.trans hKA) HNB15.out.1
          have nA1 := cell_kept (hk30.trans hKA) HNB15.out.2
          have nB0 := cell_kept (hk30.trans hKB) HNB15.out.1
          have nB1 := cell_kept (hk30.trans hKB) HNB15.out.2
          have hlz : w10.heap.size < w23.heap.size := cell_lt n0
          have hlA : w10.heap.size < wA.heap.size := cell_lt nA0
          clear hsA hsB hkA hkB e16
          go_wp2_with fail
          go_region_held3 (fun w' => w'.cell? ⟨w10.heap.size, 0, none⟩ = some (.slice none 0 0) ∧ w'.cell? ⟨w10.heap.size, 1, none⟩ = some (.slice none 0 0)) (go_keep)
            (first
              | (refine step_append_fp (by rfl) (.tmp 207) (.tmp 209) 22 (by rfl) 0 9 i1 _ 1 16 Tryz.underlying22 hi1 hy0 hy1 hy2 (by rfl) (by decide) (.slice (some ⟨w23.heap.size, 0, none⟩) 16 16) 16 (strCells (List.replicate 16 [])) (by simp [Act.eval]) (by exact ownsRow_kept HSA.out ((Kept.refl [] wA).alloc _) (by simp)) _ 1 1 [.string ⟨long.toArray⟩] (by simp [Act.eval]; rfl) rfl (by exact new_cells wA [.string ⟨long.toArray⟩] 9) (by simp [Value.oneCell']) (by unfold maxLen; omega) (by omega) (Nat.zero_le _) ?_; intro v3 w25 hown hgr hmv; obtain ⟨hs25, hk32⟩ := app_fin (hKA.alloc _) hown hgr (Nat.le_refl _); obtain ⟨g8, c8, rfl⟩ := form_pos (n := 16) hown; clear hown hgr hmv; have m0 := cell_kept (hk30.trans hk32) HNB15.out.1; have m1 := cell_kept (hk30.trans hk32) HNB15.out.2)
              | (refine step_append_fp (by rfl) (.tmp 207) (.tmp 209) 22 (by rfl) 0 9 i1 _ 1 16 Tryz.underlying22 hi1 hy0 hy1 hy2 (by rfl) (by decide) (.slice (some ⟨w23.heap.size + 1, 0, none⟩) 16 16) 16 (strCells (List.replicate 16 [])) (by simp [Act.eval]) (by exact HSB.out) _ 1 1 [.string ⟨long.toArray⟩] (by simp [Act.eval]; rfl) rfl (by exact HNW.out) (by simp [Value.oneCell']) (by unfold maxLen; omega) (by omega) (Nat.zero_le _) ?_; intro v3 w25 hown hgr hmv; obtain ⟨hs25, hk32⟩ := app_fin hKB hown hgr (Nat.le_succ _); obtain ⟨g8, c8, rfl⟩ := form_pos (n := 16) hown; clear hown hgr hmv; have m0 := cell_kept (hk30.trans hk32) HNB15.out.1; have m1 := cell_kept (hk30.trans hk32) HNB15.out.2)
              | (go_at_call 26; refine Calls.mono (cleanAll_many (.slice none 0 0) (.slice none 0 0) _ ([], []) (List.replicate 16 [] ++ [long]) w25 ⟨StrsAt.nil _ _ _, StrsAt.nil _ _ _⟩ hs25.strs (by rfl) (by simp)) ?_; rintro e w26 ⟨rfl, hk33'⟩; have p0 := cell_kept ((hk30.trans hk32).trans hk33') HNB15.out.1; have p1 := cell_kept ((hk30.trans hk32).trans hk33') HNB15.out.2)
              | fail)
          all_goals
            have hk33 := (hk30.trans hk32).trans hk33'
            clear hk33' m0 m1 p0 p1 hs25
            have n0 := cell_kept hk33 HNB15.out.1
            have n1 := cell_kept hk33 HNB15.out.2
            have hkt : Kept [] w26 (w26.alloc (.cells #[.string ⟨#[]⟩, .string ⟨long.toArray⟩] 9)) := (Kept.refl [] w26).alloc _
            have n0' := cell_kept (hk33.trans hkt) HNB15.out.1
            have n1' := cell_kept (hk33.trans hkt) HNB15.out.2
            go_wp2_with fail
            refine Calls.mono (cleanAll_long (.slice none 0 0) (.slice none 0 0) _ ([], []) [[], long] _ ⟨StrsAt.nil _ _ _, StrsAt.nil _ _ _⟩ (strs_two (s := []) (s2 := long) (Kept.refl _ _)) (by rfl) (by simp) HLA.out) ?_
            rintro e w27 ⟨rfl, hk34'⟩
            have hk34 := (hk33.trans hkt).trans hk34'
            clear hk34' n0 n1 n0' n1'
            go_wp2_with fail
            go_ret
            exact ⟨rfl, hk20.trans hk34⟩
end Go.Proofs.YtlpmjpmefdpcmaaGreatDoor
