import Derived.Test.YtlpmjpmefdpcmaaGreatDoorQLiesH
import Derived.Test.YtlpmjpmefdpcmaaGreatDoorQBld4
import Derived.Deep.Cut
import Derived.Deep.CutRange
namespace Go.Proofs.YtlpmjpmefdpcmaaGreatDoor
open Go.RowKit Scrub Go.Shelf
theorem infoLevel : (Tryz.prog.info? 139).map (fun i => (i.zero, i.size, i.bytes)) = some (some (.agg #[.slice none 0 0, .int .i64 0]), 2, 32) := by kernel_rfl
/-- Between two levels. -/
def DInv (w : World) (D : Bool) (T : Nat) (g : Nat) (lv : Value) (wr : World) : Prop :=
  ∃ items : List Lvl, LvInv w items lv wr ∧ g = lvSize items ∧ g ≤ T ∧ D = items.any deepI
/-- Between two nodes of a level. -/
def DInv2 (w : World) (D : Bool) (d : Nat) (l : List (GN d)) (win T : Nat) (ab : Nat) (at_ : Obj) (g : Nat) (lv xi : Value) (wr : World) : Prop :=
  ∃ (items : List Lvl) (k : Nat), k ≤ l.length ∧ g = l.length - k ∧ xi = .int .i64 (k : Int) ∧ LvInv w items lv wr ∧ lvSize items + kidsSize d (l.drop k) < T ∧ D = (items.any deepI || (l.drop k).any (nodeDeep d win)) ∧ wr.heap[ab]? = some at_ ∧ lv.ownBlock ≠ some ab
/-- A level's nodes, whatever its depth. -/
theorem level_nodes (w : World) (d1 : Nat) (f1 : GF d1) (a : Option Addr) (c : Nat) (h : Lies d1 w (.slice a (glen d1 f1) c) f1) (hb : bulkF d1 f1 ≤ 1099511627776) :
    ∃ (d : Nat) (l : List (GN d)), glen d1 f1 = l.length ∧ (∀ win, win ≤ 12 → decide (12 < win + depthF d1 f1) = l.any (nodeDeep d win)) ∧ sizeF d1 f1 = kidsSize d l ∧ l.length ≤ 1099511627776 ∧
      ∀ i (hi : i < l.length), bulkF d (l[i]).2.2.1 ≤ 1099511627776 ∧ ∃ g o, a = some ⟨g, o, none⟩ ∧ LiesN (Lies d w) w g (o + i * 4) l[i] := by
  cases d1 with
  | zero =>
    refine ⟨0, [], rfl, fun win hw => ?_, rfl, by simp, fun i hi => by simp at hi⟩
    show decide (12 < win + 0) = false
    simp
    omega
  | succ d =>
    obtain ⟨a', c', hv, hcells⟩ := h
    injection hv with e1 e2 e3
    subst e1
    refine ⟨d, gnodes d f1, rfl, fun win hw => deep_nodes d f1 win hw, rfl, Nat.le_trans (bulkF_len f1) hb, fun i hi => ⟨?_, hcells i hi⟩⟩
    have := Nat.le_trans (bulkF_mem (List.getElem_mem hi)) hb
    unfold bulkN at this
    omega
theorem kidsSize_drop {d : Nat} {l : List (GN d)} {k : Nat} (h : k < l.length) : kidsSize d (l.drop k) = sizeF d (l[k]).2.2.1 + 1 + kidsSize d (l.drop (k + 1)) := by
  rw [List.drop_eq_getElem_cons h]
  rfl
theorem any_drop {d : Nat} {l : List (GN d)} {k win : Nat} (h : k < l.length) : (l.drop k).any (nodeDeep d win) = (nodeDeep d win l[k] || (l.drop (k + 1)).any (nodeDeep d win)) := by
  rw [List.drop_eq_getElem_cons h, List.any_cons]
set_option maxHeartbeats 8000000 in
theorem tooDeep_any (d : Nat) (f : GF d) (v : Value) (w : World) (hL : Lies d w v f) (hb : bulkF d f ≤ 1099511627776) :
    Calls Tryz.prog 69 #[v] w fun e w' => e = .returned (.bool (decide (12 < depthF d f))) ∧ Kept [] w w' := by
  obtain ⟨i0, hi, hz0, hz1, hz2⟩ := info_parts infoLevel
  have hmade := LvInv.made w d f v hL hb
  have hT : lvSize [((⟨d, f⟩ : Σ d : Nat, GF d), 0, v)] ≤ 1099511627777 := by
    have := sizeF_le d f
    show sizeF d f + 1 + 0 ≤ _
    omega
  have HD : Hid (decide (12 < depthF d f) = [((⟨d, f⟩ : Σ d : Nat, GF d), 0, v)].any deepI) := by
    show _ = _
    simp [deepI]
  obtain ⟨va, vc, hv⟩ := hL.form
  generalize decide (12 < depthF d f) = D at *
  subst hv
  go_enter Tryz.func69, Tryz.ntmps69
  go_wp2_with fail
  go_loopg [3] (lvSize [((⟨d, f⟩ : Σ d : Nat, GF d), 0, Value.slice va (glen d f) vc)]) (fun g lv wr => DInv w D 1099511627777 g lv wr)
  case atStart => exact ⟨_, hmade, rfl, hT, HD.out⟩
  case round =>
    clear hmade hT HD hL hb
    obtain ⟨items, hlv, hg, hgT, hD⟩ := hrel
    rcases List.eq_nil_or_concat items with h0 | ⟨it0, x, h0⟩
    · subst h0
      have HD : Hid (D = false) := hD
      obtain ⟨la, lc, rfl⟩ := ownsRow_form hlv.1
      have hK := hlv.2.1
      clear hlv hD hg
      have hgt : decide ((0 : Int) < 0) = false := by simp
      go_wp2_with fail
      go_ret
      exact ⟨ret_bool HD.out.symm, hK⟩
    · have h0' : items = it0 ++ [x] := by simpa using h0
      subst h0'
      clear h0
      obtain ⟨⟨d1, f1⟩, win, v1⟩ := x
      have hown := hlv.1
      have hl1 : (it0 ++ [((⟨d1, f1⟩ : Σ d : Nat, GF d), win, v1)]).length = it0.length + 1 := by simp
      rw [hl1] at hown
      obtain ⟨gb, cap, rfl⟩ := form_pos hown
      obtain ⟨hLx, hwin, hbx⟩ := hlv.2.2 (⟨d1, f1⟩, win, v1) (by simp)
      simp only at hLx hwin hbx
      rw [lvCells_snoc] at hown
      have c0 := row_cell hown (j := it0.length * 2) (u := v1) (by rw [List.getElem?_append_right (by rw [lvCells_length]; omega), lvCells_length]; simp)
      have c1 := row_cell hown (j := it0.length * 2 + 1) (u := .int .i64 (win : Int)) (by rw [List.getElem?_append_right (by rw [lvCells_length]; omega), lvCells_length]; simp)
      have hpop := row_pop hown rfl
      have hcap : (it0.length : Int) ≤ (cap : Int) := by have := own_cap hown; omega
      obtain ⟨ka, kc, hv1⟩ := hLx.form
      subst hv1
      have HG : Hid _ := hg
      have HD : Hid _ := hD
      have HLX : Hid _ := hLx
      have HLV : Hid _ := hlv
      have hK := hlv.2.1
      have hidx : (it0.length : Int) < (it0.length : Int) + 1 := by omega
      have hpos : (0 : Int) < (it0.length : Int) + 1 := by omega
      have hb0 : (0 : Int) ≤ (it0.length : Int) := by omega
      have hitl : it0.length ≤ 1099511627777 := by
        have := lvSize_len (it0 ++ [((⟨d1, f1⟩ : Σ d : Nat, GF d), win, Value.slice ka (glen d1 f1) kc)])
        rw [hl1] at this
        omega
      obtain ⟨d2, l, hgl, hdn, hsz, hll, hnodes⟩ := level_nodes w d1 f1 ka kc hLx hbx
      have HSZ : Hid _ := hsz
      have HDN : Hid _ := hdn win hwin
      have HNO : Hid _ := hnodes
      have hga : gb < wr.heap.size := (hpop.lt gb rfl).2
      clear hg hD hLx hlv hown hsz hdn hnodes
      go_wp2_with fail
      have hbox := heap_alloc_new wr (.cells #[.slice ka l.length kc, .int .i64 (win : Int)] 139)
      have hlv0 : LvInv w it0 (.slice (some ⟨gb, 0, none⟩) it0.length cap) (wr.alloc (.cells #[.slice ka l.length kc, .int .i64 (win : Int)] 139)) := LvInv.kept ⟨hpop, hK, fun x hx => HLV.out.2.2 x (by simp [hx])⟩ ((Kept.refl [] _).alloc _)
      have HD2 : Hid (D = (it0.any deepI || l.any (nodeDeep d2 win))) := by
        show _ = _
        rw [HD.out, List.any_append, List.any_cons]
        have : ∀ v, deepI ((⟨d1, f1⟩ : Σ d : Nat, GF d), win, v) = l.any (nodeDeep d2 win) := fun _ => HDN.out
        rw [this]
        simp
      have HGK : Hid (gk = lvSize it0 + (kidsSize d2 l + 1)) := by
        show _ = _
        rw [HG.out, lvSize_append, ← HSZ.out]
        rfl
      generalize hab0 : wr.heap.size = ab at *
      go_loopg [3, 28] l.length (fun g lv xi wi => DInv2 w D d2 l win gk ab (.cells #[.slice ka l.length kc, .int .i64 (win : Int)] 139 (0, 0)) g lv xi wi)
      case atStart => exact ⟨it0, 0, by omega, rfl, rfl, hlv0, by have := HGK.out; simp; omega, by simpa using HD2.out, hbox, by simp [Value.ownBlock]; omega⟩
      case round =>
        clear hlv0 hbox hpop hga HG HD HLX HLV HDN HSZ hgl hab0 c0 c1
        obtain ⟨items, k, hk, hgi, rfl, hlv2, hT2, hI2, hat, hab⟩ := hrel
        have HI : Hid _ := hI2
        have HT : Hid _ := hT2
        have hitl2 : items.length ≤ 1099511627777 := by have := lvSize_len items; omega
        have HGI : Hid _ := hgi
        clear hI2 hT2 hgi
        by_cases hlt : k < l.length
        · obtain ⟨hbk, g, o, rfl, hn⟩ := HNO.out k hlt
          have HKS : Hid (kidsSize d2 (l.drop k) = sizeF d2 (l[k]).2.2.1 + 1 + kidsSize d2 (l.drop (k + 1))) := kidsSize_drop hlt
          have HAN : Hid ((l.drop k).any (nodeDeep d2 win) = (nodeDeep d2 win l[k] || (l.drop (k + 1)).any (nodeDeep d2 win))) := any_drop hlt
          have HNB : Hid (nodeDeep d2 win l[k] = decide (12 < win + (depthF d2 (l[k]).2.2.1 + (if (l[k]).1 = [] then 0 else 1)))) := rfl
          have HDZ : Hid (glen d2 (l[k]).2.2.1 = 0 → depthF d2 (l[k]).2.2.1 = 0) := depth_none d2 _
          have hlt' : (k : Int) < (l.length : Int) := by omega
          have hge : (0 : Int) ≤ (k : Int) := by omega
          obtain ⟨av, kv, e0, e1, e2, e3, hA, hKd⟩ := hn
          obtain ⟨aa', ac', rfl⟩ := hA.form
          obtain ⟨ka', kc', hkv⟩ := hKd.form
          subst hkv
          have HLK : Hid (Lies d2 w (.slice ka' (glen d2 (l[k]).2.2.1) kc') (l[k]).2.2.1) := hKd
          have e0' := cell_kept hlv2.2.1 e0
          have e1' := cell_kept hlv2.2.1 e1
          have e2' := cell_kept hlv2.2.1 e2
          have e3' := cell_kept hlv2.2.1 e3
          clear e0 e1 e2 e3 hA hKd
          generalize (l[k]).1 = nm at *
          generalize (l[k]).2.2.2 = tx at *
          generalize (l[k]).2.1.length = an at *
          generalize nodeDeep d2 win l[k] = bnd at *
          generalize (l[k]).2.2.1 = kk at *
          generalize hdp : depthF d2 kk = dep at *
          have HDEP : Hid (depthF d2 kk = dep) := hdp
          clear hdp
          generalize glen d2 kk = kn at *
          have b0 : wr.cell? ⟨ab, 0, none⟩ = some (.slice (some ⟨g, o, none⟩) l.length kc) := by simp [World.cell?, hat]
          have b1 : wr.cell? ⟨ab, 1, none⟩ = some (.int .i64 (win : Int)) := by simp [World.cell?, hat]
          have hlta : ab < wr.heap.size := (Array.getElem?_eq_some_iff.1 hat).1
          have HAT : Hid _ := hat
          have hkz : Kept [] wr (wr.alloc (.cells #[.string ⟨nm.toArray⟩, .slice aa' an ac', .slice ka' kn kc', .string ⟨tx.toArray⟩] 42)) := (Kept.refl [] _).alloc _
          obtain ⟨la, lc, rfl⟩ := ownsRow_form hlv2.1
          clear hat
          by_cases hnm : nm = []
          · have hne : nm.isEmpty = true := by simp [hnm]
            subst hnm
            have HND : Hid (bnd = decide (12 < win + dep)) := by
              show _ = _
              rw [HNB.out]
              simp
            by_cases hgt : 12 < win
            · exact absurd hgt (by omega)
            · have hgt' : ((12 : Int) < (win : Int)) = False := by simp; omega
              have HGT : Hid (¬ 12 < win) := hgt
              clear hgt
              by_cases hkn : kn = 0
              · subst hkn
                go_wp2_with fail
                go_roundg (l.length - (k + 1))
                case measure => rw [HGI.out]; omega
                case rel =>
                  refine ⟨items, k + 1, by omega, rfl, rfl, hlv2.kept hkz, by have := HT.out; rw [HKS.out] at this; omega, ?_, (Below.heap_alloc _ _ _ (Array.getElem?_eq_some_iff.1 HAT.out).1).trans HAT.out, hab⟩
                  have hdep : dep = 0 := HDZ.out (by first | rfl | trivial)
                  have hb0 : bnd = false := by rw [HND.out, hdep]; exact decide_eq_false HGT.out
                  rw [HI.out, HAN.out, hb0]
                  simp
              · obtain ⟨km, rfl⟩ : ∃ m, kn = m + 1 := ⟨kn - 1, by omega⟩
                have hkp : (0 : Int) < (km : Int) + 1 := by omega
                clear hkn HDZ
                have hsz1 : (wr.alloc (.cells #[.string ⟨([] : List UInt8).toArray⟩, .slice aa' an ac', .slice ka' (km + 1) kc', .string ⟨tx.toArray⟩] 42)).heap.size = wr.heap.size + 1 := by simp
                have hnews := new_cells (wr.alloc (.cells #[.string ⟨([] : List UInt8).toArray⟩, .slice aa' an ac', .slice ka' (km + 1) kc', .string ⟨tx.toArray⟩] 42)) [.slice ka' (km + 1) kc', .int .i64 (win : Int)] 139
                rw [hsz1] at hnews
                have HNEWS : Hid _ := hnews
                have HOWN : Hid _ := ownsRow_kept hlv2.1 (hkz.alloc (.cells #[.slice ka' (km + 1) kc', .int .i64 (win : Int)] 139)) (by simp)
                have HONE : Hid (∀ u ∈ [Value.slice ka' (km + 1) kc', .int .i64 (win : Int)], u.oneCell' = true) := by intro u hu; simp at hu; rcases hu with rfl | rfl <;> rfl
                have HLEN : Hid (items.length + 1 ≤ maxLen) := by show _ ≤ _; unfold maxLen; omega
                have HBY : Hid ((items.length + 1) * 32 ≤ 140737488355328) := by show _ ≤ _; omega
                have HBS : Hid _ := (hlv2.2.1.trans (hkz.alloc (.cells #[.slice ka' (km + 1) kc', .int .i64 (win : Int)] 139))).size
                clear hnews hsz1
                go_wp2_with (at_builtin; refine wpList_append_fp _ rfl (.tmp 45) (.tmp 50) 140 rfl w.heap.size 139 i0 _ 2 32 Tryz.underlying140 hi hz0 hz1 hz2 rfl (by decide) (.slice la items.length lc) items.length (lvCells items) rfl HOWN.out ⟨wr.heap.size + 1, 0, none⟩ 1 1 [.slice ka' (km + 1) kc', .int .i64 (win : Int)] rfl rfl HNEWS.out HONE.out HLEN.out HBY.out HBS.out ?_)
                intro v' w' hown' hgr' hmv'
                have hkA : Kept [] wr ((wr.alloc (.cells #[.string ⟨([] : List UInt8).toArray⟩, .slice aa' an ac', .slice ka' (km + 1) kc', .string ⟨tx.toArray⟩] 42)).alloc (.cells #[.slice ka' (km + 1) kc', .int .i64 (win : Int)] 139)) := hkz.alloc _
                have hkB := (hkA.mono (S' := (Value.slice la items.length lc).ownBlock.toList) (by simp)).trans (Kept.own hgr')
                have hltA : ab < wr.heap.size := (Array.getElem?_eq_some_iff.1 HAT.out).1
                obtain ⟨gq, cq, rfl⟩ := form_pos hown'
                go_wp2_with fail
                go_roundg (l.length - (k + 1))
                case measure => rw [HGI.out]; omega
                case rel =>
                  have hbase : ∀ i, i ∈ (Value.slice la items.length lc).ownBlock.toList → i ∈ ([] : List Nat) ∨ w.heap.size ≤ i := fun i hi => .inr (hlv2.1.lt i (by simpa using hi)).1
                  have hKw : Kept [] w w' := hlv2.2.1.trans_new hkB hbase
                  have hws := hlv2.2.1.size
                  refine ⟨items ++ [(⟨d2, kk⟩, win, .slice ka' (km + 1) kc')], k + 1, by omega, rfl, rfl, ⟨?_, hKw, ?_⟩, ?_, ?_, ?_, ?_⟩
                  · rw [lvCells_snoc, List.length_append]
                    exact hown'
                  · intro x hx
                    rcases List.mem_append.1 hx with hx | hx
                    · exact hlv2.2.2 x hx
                    · simp at hx
                      subst hx
                      exact ⟨HLK.out, Nat.le_of_not_lt HGT.out, hbk⟩
                  · have h1 := HT.out
                    rw [HKS.out] at h1
                    rw [lvSize_append]
                    show lvSize items + (sizeF d2 kk + 1 + 0) + _ < _
                    omega
                  · have h1 : deepI ((⟨d2, kk⟩ : Σ d : Nat, GF d), win, Value.slice ka' (km + 1) kc') = bnd := by
                      rw [HND.out, ← HDEP.out]
                      rfl
                    rw [HI.out, HAN.out, List.any_append, List.any_cons, h1]
                    simp [Bool.or_assoc]
                  · exact (hkB.block ab hltA (fun hc => hab (by simpa using hc))).trans HAT.out
                  · rcases hmv' with h1 | ⟨k1, h1, h2⟩
                    · rw [h1]; exact hab
                    · rw [h1]
                      have := hkA.size
                      intro hc
                      injection hc with hc
                      omega
          · have hne : nm.isEmpty = false := by simpa using hnm
            have HNM : Hid (¬ nm = []) := hnm
            clear hnm
            have HND : Hid (bnd = decide (12 < win + 1 + dep)) := by
              show _ = _
              rw [HNB.out]
              simp [HNM.out]
              omega
            by_cases hgt : 12 < win + 1
            · have hgt' : (12 : Int) < ((win : Int) + 1) := by omega
              have HGT : Hid (12 < win + 1) := hgt
              clear hgt
              go_wp2_with fail
              go_ret
              refine ⟨ret_bool ?_, hlv2.2.1.trans hkz⟩
              rw [HI.out, HAN.out, HND.out, decide_eq_true (Nat.lt_of_lt_of_le HGT.out (Nat.le_add_right _ _))]
              simp
            · have hgt' : ((12 : Int) < ((win : Int) + 1)) = False := by simp; omega
              have HGT : Hid (¬ 12 < win + 1) := hgt
              clear hgt
              by_cases hkn : kn = 0
              · subst hkn
                go_wp2_with fail
                go_roundg (l.length - (k + 1))
                case measure => rw [HGI.out]; omega
                case rel =>
                  refine ⟨items, k + 1, by omega, rfl, rfl, hlv2.kept hkz, by have := HT.out; rw [HKS.out] at this; omega, ?_, (Below.heap_alloc _ _ _ (Array.getElem?_eq_some_iff.1 HAT.out).1).trans HAT.out, hab⟩
                  have hdep : dep = 0 := HDZ.out (by first | rfl | trivial)
                  have hb0 : bnd = false := by rw [HND.out, hdep]; exact decide_eq_false HGT.out
                  rw [HI.out, HAN.out, hb0]
                  simp
              · obtain ⟨km, rfl⟩ : ∃ m, kn = m + 1 := ⟨kn - 1, by omega⟩
                have hkp : (0 : Int) < (km : Int) + 1 := by omega
                clear hkn HDZ
                have hsz1 : (wr.alloc (.cells #[.string ⟨nm.toArray⟩, .slice aa' an ac', .slice ka' (km + 1) kc', .string ⟨tx.toArray⟩] 42)).heap.size = wr.heap.size + 1 := by simp
                have hnews := new_cells (wr.alloc (.cells #[.string ⟨nm.toArray⟩, .slice aa' an ac', .slice ka' (km + 1) kc', .string ⟨tx.toArray⟩] 42)) [.slice ka' (km + 1) kc', .int .i64 ((win : Int) + 1)] 139
                rw [hsz1] at hnews
                have HNEWS : Hid _ := hnews
                have HOWN : Hid _ := ownsRow_kept hlv2.1 (hkz.alloc (.cells #[.slice ka' (km + 1) kc', .int .i64 ((win : Int) + 1)] 139)) (by simp)
                have HONE : Hid (∀ u ∈ [Value.slice ka' (km + 1) kc', .int .i64 ((win : Int) + 1)], u.oneCell' = true) := by intro u hu; simp at hu; rcases hu with rfl | rfl <;> rfl
                have HLEN : Hid (items.length + 1 ≤ maxLen) := by show _ ≤ _; unfold maxLen; omega
                have HBY : Hid ((items.length + 1) * 32 ≤ 140737488355328) := by show _ ≤ _; omega
                have HBS : Hid _ := (hlv2.2.1.trans (hkz.alloc (.cells #[.slice ka' (km + 1) kc', .int .i64 ((win : Int) + 1)] 139))).size
                clear hnews hsz1
                go_wp2_with (at_builtin; refine wpList_append_fp _ rfl (.tmp 45) (.tmp 50) 140 rfl w.heap.size 139 i0 _ 2 32 Tryz.underlying140 hi hz0 hz1 hz2 rfl (by decide) (.slice la items.length lc) items.length (lvCells items) rfl HOWN.out ⟨wr.heap.size + 1, 0, none⟩ 1 1 [.slice ka' (km + 1) kc', .int .i64 ((win : Int) + 1)] rfl rfl HNEWS.out HONE.out HLEN.out HBY.out HBS.out ?_)
                intro v' w' hown' hgr' hmv'
                have hkA : Kept [] wr ((wr.alloc (.cells #[.string ⟨nm.toArray⟩, .slice aa' an ac', .slice ka' (km + 1) kc', .string ⟨tx.toArray⟩] 42)).alloc (.cells #[.slice ka' (km + 1) kc', .int .i64 ((win : Int) + 1)] 139)) := hkz.alloc _
                have hkB := (hkA.mono (S' := (Value.slice la items.length lc).ownBlock.toList) (by simp)).trans (Kept.own hgr')
                have hltA : ab < wr.heap.size := (Array.getElem?_eq_some_iff.1 HAT.out).1
                obtain ⟨gq, cq, rfl⟩ := form_pos hown'
                go_wp2_with fail
                go_roundg (l.length - (k + 1))
                case measure => rw [HGI.out]; omega
                case rel =>
                  have hbase : ∀ i, i ∈ (Value.slice la items.length lc).ownBlock.toList → i ∈ ([] : List Nat) ∨ w.heap.size ≤ i := fun i hi => .inr (hlv2.1.lt i (by simpa using hi)).1
                  have hKw : Kept [] w w' := hlv2.2.1.trans_new hkB hbase
                  have hws := hlv2.2.1.size
                  refine ⟨items ++ [(⟨d2, kk⟩, win + 1, .slice ka' (km + 1) kc')], k + 1, by omega, rfl, rfl, ⟨?_, hKw, ?_⟩, ?_, ?_, ?_, ?_⟩
                  · rw [lvCells_snoc, List.length_append]
                    exact hown'
                  · intro x hx
                    rcases List.mem_append.1 hx with hx | hx
                    · exact hlv2.2.2 x hx
                    · simp at hx
                      subst hx
                      exact ⟨HLK.out, Nat.le_of_not_lt HGT.out, hbk⟩
                  · have h1 := HT.out
                    rw [HKS.out] at h1
                    rw [lvSize_append]
                    show lvSize items + (sizeF d2 kk + 1 + 0) + _ < _
                    omega
                  · have h1 : deepI ((⟨d2, kk⟩ : Σ d : Nat, GF d), win + 1, Value.slice ka' (km + 1) kc') = bnd := by
                      rw [HND.out, ← HDEP.out]
                      rfl
                    rw [HI.out, HAN.out, List.any_append, List.any_cons, h1]
                    simp [Bool.or_assoc]
                  · exact (hkB.block ab hltA (fun hc => hab (by simpa using hc))).trans HAT.out
                  · rcases hmv' with h1 | ⟨k1, h1, h2⟩
                    · rw [h1]; exact hab
                    · rw [h1]
                      have := hkA.size
                      intro hc
                      injection hc with hc
                      omega
        · have hlt' : ((k : Int) < (l.length : Int)) = False := by simp; omega
          have HDR : Hid (l.drop k = []) := List.drop_eq_nil_of_le (by omega)
          obtain ⟨la, lc, rfl⟩ := ownsRow_form hlv2.1
          go_wp2_with fail
          go_roundg (lvSize items)
          case measure => have := HT.out; rw [HDR.out] at this; simp [kidsSize] at this; omega
          case rel => exact ⟨items, hlv2, rfl, by have := HT.out; omega, by rw [HI.out, HDR.out]; simp⟩
end Go.Proofs.YtlpmjpmefdpcmaaGreatDoor
