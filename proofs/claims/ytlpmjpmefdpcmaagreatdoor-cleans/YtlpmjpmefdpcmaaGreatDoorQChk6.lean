import Derived.Test.YtlpmjpmefdpcmaaGreatDoorQLies
import Derived.Test.YtlpmjpmefdpcmaaGreatDoorQAttrs
import Derived.Deep.Cut
import Derived.Maps.Own
import Derived.Maps.OwnOps
import Derived.Maps.Views
namespace Go.Proofs.YtlpmjpmefdpcmaaGreatDoor
open Go.RowKit Scrub Go.Shelf
set_option maxHeartbeats 1000000 in
theorem isText_any (nm tx : List UInt8) (aa ka : Option Addr) (an ac kn kc : Nat) (w : World) :
    Calls Tryz.prog 100 #[.agg #[.string ⟨nm.toArray⟩, .slice aa an ac, .slice ka kn kc, .string ⟨tx.toArray⟩]] w
      fun e w' => e = .returned (.bool (decide (nm = []) && decide (tx ≠ []) && decide (an = 0) && decide (kn = 0))) ∧ Kept [] w w' := by
  have hk0 : ∀ o, Kept [] w (w.alloc o) := fun o => (Kept.refl [] _).alloc _
  by_cases h1 : nm = []
  · subst h1
    by_cases h2 : tx = []
    · subst h2
      go_enter Tryz.func100, Tryz.ntmps100
      go_wp2_with fail
      go_ret
      exact ⟨ret_bool (by simp), hk0 _⟩
    · have hb2 : tx.isEmpty = false := by simp [h2]
      by_cases h3 : an = 0
      · subst h3
        by_cases h4 : kn = 0
        · subst h4
          have HT : Hid (¬ tx = []) := h2
          clear h2
          go_enter Tryz.func100, Tryz.ntmps100
          go_wp2_with fail
          go_ret
          exact ⟨ret_bool (by simp [HT.out]), hk0 _⟩
        · have hb4 : ((kn : Int) == 0) = false := by rw [beq_eq_false_iff_ne]; omega
          have HT : Hid (¬ tx = []) := h2
          have H4 : Hid (¬ kn = 0) := h4
          clear h2 h4
          go_enter Tryz.func100, Tryz.ntmps100
          go_wp2_with fail
          go_ret
          exact ⟨ret_bool (by simp [HT.out, H4.out]), hk0 _⟩
      · have hb3 : ((an : Int) == 0) = false := by rw [beq_eq_false_iff_ne]; omega
        have HT : Hid (¬ tx = []) := h2
        have H3 : Hid (¬ an = 0) := h3
        clear h2 h3
        go_enter Tryz.func100, Tryz.ntmps100
        go_wp2_with fail
        go_ret
        exact ⟨ret_bool (by simp [HT.out, H3.out]), hk0 _⟩
  · have hb1 : (nm == []) = false := by simpa using h1
    have hb1' : nm.isEmpty = false := by simpa using h1
    have H1 : Hid (¬ nm = []) := h1
    clear h1
    go_enter Tryz.func100, Tryz.ntmps100
    go_wp2_with fail
    go_ret
    exact ⟨ret_bool (by simp [H1.out]), hk0 _⟩
set_option maxHeartbeats 1000000 in
theorem holds_any (s : ByteArray) (f : FuncId) (p : UInt8 → Bool) (w : World) (hs : s.size ≤ 1099511627776)
    (eg : ∀ (args : Array Value) (w : World), (callFunc f args).run Tryz.prog w = .ok (.enter f args) w)
    (hf : Hid (∀ (c : UInt8) (w : World), Calls Tryz.prog f #[.int .u8 (c.toNat : Int)] w fun e w' => e = .returned (.bool (p c)) ∧ w' = w)) :
    Calls Tryz.prog 203 #[.string s, .func (.func f) #[] #[]] w fun e w' => e = .returned (.bool (s.data.toList.any p)) ∧ ∃ n, w' = w.drewN n := by
  go_enter Tryz.func203, Tryz.ntmps203
  go_wp2_with fail
  go_loopg [8] s.size (fun g x wr => ∃ k n : Nat, k ≤ s.size ∧ g = s.size - k ∧ x = .int .i64 (k : Int) ∧ wr = w.drewN n ∧ s.data.toList.any p = (s.data.toList.drop k).any p)
  case atStart => exact ⟨0, 0, by omega, rfl, rfl, rfl, by simp⟩
  case round =>
    obtain ⟨k, n, hk, rfl, rfl, rfl, hinv⟩ := hrel
    have HI : Hid _ := hinv
    clear hinv
    by_cases hlt : k < s.size
    · have hlt' : (k : Int) < (s.size : Int) := by omega
      have hge : (0 : Int) ≤ (k : Int) := by omega
      have HS : Hid ((s.data.toList.drop k).any p = (p s[k] || (s.data.toList.drop (k + 1)).any p)) := by
        show _ = _
        rw [drop_get hlt]
        simp
      go_wp2_with fail
      refine (hf.out s[k] _).mono ?_
      rintro e w1 ⟨rfl, rfl⟩
      cases hp : p s[k] with
      | true =>
        have HP : Hid (p s[k] = true) := hp
        clear hp
        go_wp2_with fail
        go_ret
        exact ⟨ret_bool (by rw [HI.out, HS.out, HP.out]; rfl), _, rfl⟩
      | false =>
        have HP : Hid (p s[k] = false) := hp
        clear hp
        go_wp2_with fail
        go_roundg (s.size - (k + 1))
        case measure => omega
        case rel => exact ⟨k + 1, n, by omega, rfl, rfl, rfl, by rw [HI.out, HS.out, HP.out]; rfl⟩
    · have hlt' : ((k : Int) < (s.size : Int)) = False := by simp; omega
      have HD : Hid (s.data.toList.drop k = []) := List.drop_eq_nil_of_le (by simp; omega)
      go_wp2_with fail
      go_ret
      exact ⟨ret_bool (by rw [HI.out, HD.out]; rfl), _, rfl⟩
end Go.Proofs.YtlpmjpmefdpcmaaGreatDoor
namespace Go.Proofs.YtlpmjpmefdpcmaaGreatDoor
open Go.RowKit Scrub Go.Shelf
theorem not_any_not (p : UInt8 → Bool) (l : List UInt8) : (!l.any fun c => !p c) = l.all p := by
  induction l with
  | nil => rfl
  | cons a t ih => simp only [List.any_cons, List.all_cons, Bool.not_or, Bool.not_not, ih]
theorem not_all_not (p : UInt8 → Bool) (l : List UInt8) : (!l.any p) = l.all (fun c => !p c) := by
  induction l with
  | nil => rfl
  | cons a t ih => simp only [List.any_cons, List.all_cons, Bool.not_or, ih]
set_option maxHeartbeats 400000 in
theorem isName1_any (c : UInt8) (w : World) :
    Calls Tryz.prog 204 #[.int .u8 (c.toNat : Int)] w fun e w' => e = .returned (.bool (!nameB c)) ∧ w' = w := by
  go_enter Tryz.func204, Tryz.ntmps204
  go_wp2_with (go_at_call 180; refine (isNameByte_any _ _).mono ?_; rintro e w' ⟨rfl, rfl⟩)
  go_ret
  exact ⟨rfl, rfl⟩
theorem enters_isName1 (args : Array Value) (w : World) : (callFunc 204 args).run Tryz.prog w = .ok (.enter 204 args) w := enters_of Tryz.func204 (by kernel_rfl) rfl args w
theorem enters_endsAttr (args : Array Value) (w : World) : (callFunc 215 args).run Tryz.prog w = .ok (.enter 215 args) w := enters_of Tryz.func215 (by kernel_rfl) rfl args w
set_option maxHeartbeats 1000000 in
theorem isName_any (s : List UInt8) (w : World) (hs : s.length ≤ 1099511627776) :
    Calls Tryz.prog 161 #[.string ⟨s.toArray⟩] w fun e w' => e = .returned (.bool (isNameP s)) ∧ Kept [] w w' := by
  cases s with
  | nil =>
    go_enter Tryz.func161, Tryz.ntmps161
    go_wp2_with fail
    go_ret
    exact ⟨rfl, Kept.refl _ _⟩
  | cons c t =>
    have hsz : (⟨(c :: t).toArray⟩ : ByteArray).size = t.length + 1 := by simp [ByteArray.size]
    have hsm := fun w' => small_any ⟨(c :: t).toArray⟩ w' (by rw [hsz]; simpa using hs)
    have hks : (({ data := (c :: t).toArray } : ByteArray).data.toList) = c :: t := by simp
    have hho := fun w' => holds_any ⟨(c :: t).toArray⟩ _ (fun c => !nameB c) w' (by rw [hsz]; simpa using hs) enters_isName1 (fun c w => isName1_any c w)
    rw [hks] at hho
    have HSM : Hid _ := hsm
    have HHO : Hid _ := hho
    clear hsm hho hks
    go_enter Tryz.func161, Tryz.ntmps161
    go_wp2_with fail
    refine (isLetter_any _ _).mono ?_
    rintro e w1 ⟨rfl, rfl⟩
    have h0 : (⟨(c :: t).toArray⟩ : ByteArray)[0] = c := rfl
    rw [h0]
    clear h0
    have HP : Hid (isNameP (c :: t) = (letB c && (small (c :: t) == c :: t) && (c :: t).all nameB)) := by show _ = _; simp [isNameP]
    cases hl : letB c with
    | false =>
      have HL : Hid (letB c = false) := hl
      clear hl
      go_wp2_with fail
      go_ret
      exact ⟨ret_bool (by rw [HP.out, HL.out]; rfl), Kept.refl _ _⟩
    | true =>
      have HL : Hid (letB c = true) := hl
      clear hl
      go_wp2_with fail
      refine (HSM.out _).mono ?_
      rintro e w2 ⟨rfl, hk2⟩
      go_upto_if 16 with fail
      generalize hbs : (small (c :: t) == c :: t) = bs
      have HBS : Hid ((small (c :: t) == c :: t) = bs) := hbs
      clear hbs
      cases bs with
      | false =>
        go_wp2_with fail
        go_ret
        exact ⟨ret_bool (by rw [HP.out, HL.out, HBS.out]; rfl), hk2⟩
      | true =>
        go_wp2_with fail
        refine (HHO.out _).mono ?_
        rintro e w3 ⟨rfl, n3, rfl⟩
        go_wp2_with fail
        go_ret
        refine ⟨ret_bool ?_, hk2.drewN n3⟩
        rw [HP.out, HL.out, HBS.out, ← not_any_not nameB (c :: t)]
        simp
set_option maxHeartbeats 1000000 in
theorem isAttrName_any (s : List UInt8) (w : World) (hs : s.length ≤ 1099511627776) :
    Calls Tryz.prog 205 #[.string ⟨s.toArray⟩] w fun e w' => e = .returned (.bool (isAttrNameP s)) ∧ Kept [] w w' := by
  cases s with
  | nil =>
    go_enter Tryz.func205, Tryz.ntmps205
    go_wp2_with fail
    go_ret
    exact ⟨rfl, Kept.refl _ _⟩
  | cons c t =>
    have hsz : (⟨(c :: t).toArray⟩ : ByteArray).size = t.length + 1 := by simp [ByteArray.size]
    have hsm := fun w' => small_any ⟨(c :: t).toArray⟩ w' (by rw [hsz]; simpa using hs)
    have hks : (({ data := (c :: t).toArray } : ByteArray).data.toList) = c :: t := by simp
    have hex : (⟨(c :: t).toArray⟩ : ByteArray).extract 1 (t.length + 1) = ⟨t.toArray⟩ := by
      apply ByteArray.ext
      simp
    have hsz2 : (⟨t.toArray⟩ : ByteArray).size = t.length := by simp [ByteArray.size]
    have hks2 : (({ data := t.toArray } : ByteArray).data.toList) = t := by simp
    have hho := fun w' => holds_any ⟨t.toArray⟩ _ endsAttrB w' (by rw [hsz2]; simp at hs; omega) enters_endsAttr (fun c w => endsAttrName_any c w)
    rw [hks2] at hho
    have HSM : Hid _ := hsm
    have HHO : Hid _ := hho
    have HEX : Hid _ := hex
    clear hsm hho hks hks2 hsz2 hex
    have HP : Hid (isAttrNameP (c :: t) = (!endsRawB c && (small (c :: t) == c :: t) && t.all (fun c => !endsAttrB c))) := by show _ = _; simp [isAttrNameP]
    go_enter Tryz.func205, Tryz.ntmps205
    go_wp2_with fail
    refine (endsName_any _ _).mono ?_
    rintro e w1 ⟨rfl, rfl⟩
    have h0 : (⟨(c :: t).toArray⟩ : ByteArray)[0] = c := rfl
    rw [h0]
    clear h0
    cases hl : endsRawB c with
    | true =>
      have HL : Hid (endsRawB c = true) := hl
      clear hl
      go_wp2_with fail
      go_ret
      exact ⟨ret_bool (by rw [HP.out, HL.out]; rfl), Kept.refl _ _⟩
    | false =>
      have HL : Hid (endsRawB c = false) := hl
      clear hl
      go_wp2_with fail
      refine (HSM.out _).mono ?_
      rintro e w2 ⟨rfl, hk2⟩
      go_upto_if 15 with fail
      generalize hbs : (small (c :: t) == c :: t) = bs
      have HBS : Hid ((small (c :: t) == c :: t) = bs) := hbs
      clear hbs
      cases bs with
      | false =>
        go_wp2_with fail
        go_ret
        exact ⟨ret_bool (by rw [HP.out, HL.out, HBS.out]; rfl), hk2⟩
      | true =>
        go_wp2_with fail
        rw [HEX.out]
        refine (HHO.out _).mono ?_
        rintro e w3 ⟨rfl, n3, rfl⟩
        go_wp2_with fail
        go_ret
        refine ⟨ret_bool ?_, hk2.drewN n3⟩
        rw [HP.out, HL.out, HBS.out, ← not_all_not]
        simp
end Go.Proofs.YtlpmjpmefdpcmaaGreatDoor
namespace Scrub
theorem attrsOk_snoc (l : List (List UInt8 × List UInt8)) (a : List UInt8 × List UInt8) : attrsOkP (l ++ [a]) = (attrsOkP l && isAttrNameP a.1 && decide (List.count a.1 (l.map Prod.fst) = 0)) := by
  rw [Bool.eq_iff_iff]
  simp only [attrsOkP, List.all_append, List.map_append, Bool.and_eq_true, decide_eq_true_eq, List.nodup_append, List.count_eq_zero]
  simp
  constructor
  · rintro ⟨⟨h1, h2⟩, h3, h4⟩
    exact ⟨⟨⟨h1, h3⟩, h2⟩, fun b hb => h4 a.1 b hb rfl⟩
  · rintro ⟨⟨⟨h1, h3⟩, h2⟩, h4⟩
    exact ⟨⟨h1, h2⟩, h3, fun x b hb e => h4 b (e ▸ hb)⟩
theorem attrsOk_take (l : List (List UInt8 × List UInt8)) (k : Nat) (h : attrsOkP (l.take k) = false) : attrsOkP l = false := by
  cases hc : attrsOkP l with
  | false => rfl
  | true =>
    have h2 : attrsOkP (l.take k) = true := by
      simp only [attrsOkP, Bool.and_eq_true, decide_eq_true_eq] at hc ⊢
      refine ⟨?_, ?_⟩
      · rw [List.all_eq_true] at hc ⊢
        exact fun x hx => hc.1 x (List.mem_of_mem_take hx)
      · rw [List.map_take]
        exact List.Sublist.nodup (List.take_sublist _ _) hc.2
    rw [h] at h2
    cases h2
end Scrub
namespace Go.Proofs.YtlpmjpmefdpcmaaGreatDoor
open Go.RowKit Scrub Go.Shelf Go.Maps Go.WideMaps
theorem keyS : Keyed Tryz.prog 9 := string_keyed Tryz.underlying9
theorem zeroI (w : World) : (zeroValue 3).run Tryz.prog w = .ok (.int .i64 0) w := by kernel_rfl
theorem makeMap_hint (n : Int) (w : World) : (Instr.makeMap 207 (some (.int .i64 n))).run Tryz.prog w = .ok (.map (some w.heap.size)) (w.alloc (.map #[] 0)) := by
  simp [Instr.makeMap, run_underlying Tryz.underlying207, asInt, asIntOf, Result.andThen]
/-- Block B counts the names that were seen. -/
def SeenMap (w : World) (B : Nat) (seen : List (List UInt8)) : Prop :=
  ∃ D : DataW Unit, w.ownsMap Tryz.prog 9 (plainElem Tryz.prog 3) B seen.length D ∧ IsMap D ∧ ∀ l : List UInt8, D.atKey (.string l) (.lit (.int .i64 0)) = .lit (.int .i64 (seen.count l))
theorem SeenMap.made (w : World) : SeenMap (w.alloc (.map #[] 0)) w.heap.size [] :=
  ⟨.map [], World.ownsMap_made _ _ _ _, ⟨[], rfl⟩, fun l => by rw [WideAt.atKey_none _ (by simp)]; rfl⟩
theorem SeenMap.kept {w w' : World} {B : Nat} {seen : List (List UInt8)} (h : SeenMap w B seen) (hk : Kept [] w w') : SeenMap w' B seen := by
  obtain ⟨D, h1, h2, h3⟩ := h
  exact ⟨D, h1.kept (hk.toGrown none) (by simp), h2, h3⟩
theorem key_of (l : List UInt8) (hl : l.length ≤ 1099511627776) : keyOf Tryz.prog 9 (.string ⟨l.toArray⟩) = some (.string l) := by
  have := keyOf_string_mk (P := Tryz.prog) (s := ⟨l.toArray⟩) Tryz.underlying9 (by simp [ByteArray.size, maxLen]; omega)
  simpa using this
theorem SeenMap.look {w : World} {B : Nat} {seen : List (List UInt8)} (h : SeenMap w B seen) (l : List UInt8) (hl : l.length ≤ 1099511627776) :
    (Instr.lookup 207 (.map (some B)) (.string ⟨l.toArray⟩) false).run Tryz.prog w = .ok (.int .i64 (seen.count l)) w := by
  obtain ⟨D, h1, h2, h3⟩ := h
  obtain ⟨c, hrun, hat, _⟩ := h1.lookup_int keyS Tryz.underlying207 Tryz.underlying3 (zeroI _) (key_of l hl)
  rw [h3 l] at hat
  have h4 := (Lit.int.inj (DataW.lit.inj hat)).2
  rw [hrun, h4]
set_option maxHeartbeats 4000000 in
theorem areAttrs_any (v : Value) (al : List (List UInt8 × List UInt8)) (w : World) (hL : LiesA w v al) (hal : al.length ≤ 1099511627776) (hnl : ∀ x ∈ al, x.1.length ≤ 1099511627776) :
    Calls Tryz.prog 162 #[v] w fun e w' => e = .returned (.bool (attrsOkP al)) ∧ Kept [] w w' := by
  obtain ⟨a, c, rfl, hcells⟩ := hL
  have hmm := makeMap_hint (al.length : Int)
  have HNL : Hid (∀ x ∈ al, x.1.length ≤ 1099511627776) := hnl
  have HCE : Hid (∀ i (h : i < al.length), ∃ g o, a = some ⟨g, o, none⟩ ∧ w.cell? ⟨g, o + i * 2, none⟩ = some (.string ⟨(al[i]).1.toArray⟩) ∧ w.cell? ⟨g, o + i * 2 + 1, none⟩ = some (.string ⟨(al[i]).2.toArray⟩)) := hcells
  clear hnl hcells
  go_enter Tryz.func162, Tryz.ntmps162
  go_wp2_with fail
  go_loopg [11] al.length (fun g x wr => ∃ k : Nat, k ≤ al.length ∧ g = al.length - k ∧ x = .int .i64 (k : Int) ∧ Kept [] w wr ∧ SeenMap wr w.heap.size ((al.take k).map Prod.fst) ∧ attrsOkP (al.take k) = true)
  case atStart => exact ⟨0, by omega, rfl, rfl, (Kept.refl _ _).alloc _, SeenMap.made w, rfl⟩
  case round =>
    clear hmm
    obtain ⟨k, hk, rfl, rfl, hK, hS, hok⟩ := hrel
    have HOK : Hid _ := hok
    clear hok
    by_cases hlt : k < al.length
    · obtain ⟨g, o, rfl, c1, c2⟩ := HCE.out k hlt
      have hlt' : (k : Int) < (al.length : Int) := by omega
      have hge : (0 : Int) ≤ (k : Int) := by omega
      have d1 := cell_kept hK c1
      have d2 := cell_kept hK c2
      have hnm : (al[k]).1.length ≤ 1099511627776 := HNL.out _ (List.getElem_mem hlt)
      have HT : Hid (al.take (k + 1) = al.take k ++ [al[k]]) := List.take_succ_eq_append_getElem hlt
      have HSN : Hid (((al.take (k + 1)).map Prod.fst) = (al.take k).map Prod.fst ++ [(al[k]).1]) := by show _ = _; rw [HT.out, List.map_append]; rfl
      have HOK2 : Hid (attrsOkP (al.take (k + 1)) = (isAttrNameP (al[k]).1 && decide (List.count (al[k]).1 ((al.take k).map Prod.fst) = 0))) := by show _ = _; rw [HT.out, attrsOk_snoc, HOK.out]; rfl
      have HLEN : Hid (((al.take k).map Prod.fst).length = k) := by show _ = _; simp; omega
      generalize (al[k]).1 = nm at *
      generalize (al[k]).2 = vl at *
      generalize (al.take k).map Prod.fst = seen at *
      clear c1 c2 HCE
      have hkz : Kept [] wr (wr.alloc (.cells #[.string ⟨nm.toArray⟩, .string ⟨vl.toArray⟩] 63)) := (Kept.refl [] _).alloc _
      have hS1 := hS.kept hkz
      have hcl : ((seen.count nm : Nat) : Int) ≤ k := by have := List.count_le_length (a := nm) (l := seen); rw [HLEN.out] at this; omega
      have hlk := hS1.look nm hnm
      obtain ⟨D, hown, hD1, hD2⟩ := hS1
      have HKEY : Hid (keyOf Tryz.prog 9 (.string ⟨nm.toArray⟩) = some (.string nm)) := key_of nm hnm
      have HD2 : Hid _ := hD2
      clear hD2
      generalize hcn : seen.count nm = cn at *
      have HCN : Hid _ := hcn
      have hcb : (cn : Int) + 1 ≤ 9223372036854775807 := by omega
      have HMX : Hid (seen.length < maxLen) := by show _ < _; rw [HLEN.out]; unfold maxLen; omega
      have hpe : plainElem (H := Unit) Tryz.prog 3 (.int .i64 ((cn : Int) + 1)) = some (.lit (.int .i64 ((cn : Int) + 1)), []) := plainElem_int Tryz.underlying3 (WalkArith.wf_i64 ⟨by omega, by omega⟩)
      have HPE : Hid _ := hpe
      clear hcn hpe
      go_wp2_with (at_mapUpdate; refine Hid.out (p := _) ?_)
      show wpList _ _ _ _ _ _
      refine wpList_mapUpdate_own (H := Unit) _ rfl (.tmp 15) (.tmp 17) (.tmp 19) 207 rfl 9 3 keyS Tryz.underlying207 (plainElem Tryz.prog 3) w.heap.size seen.length D ?h1 hown HMX.out (.string ⟨nm.toArray⟩) (.int .i64 ((cn : Int) + 1)) (.string nm) ?h2 ?h3 HKEY.out (.lit (.int .i64 ((cn : Int) + 1))) [] HPE.out ?_
      case h1 => rfl
      case h2 => rfl
      case h3 => rfl
      intro w1 hown1 hgrow1
      have hBlt : w.heap.size < wr.heap.size := by
        obtain ⟨D0, hD0, _⟩ := hS
        exact hD0.lt
      have hk1 : Kept [w.heap.size] (wr.alloc (.cells #[.string ⟨nm.toArray⟩, .string ⟨vl.toArray⟩] 63)) w1 := Kept.grown hgrow1 (fun j hj => by simpa using hj.symm)
      have hbx1 : w1.heap[wr.heap.size]? = some (.cells #[.string ⟨nm.toArray⟩, .string ⟨vl.toArray⟩] 63 (0, 0)) := (hk1.block wr.heap.size (by simp) (by simp; omega)).trans (heap_alloc_new wr _)
      have hK1 : Kept [] w w1 := (hK.trans hkz).trans_new hk1 (fun i hi => .inr (by simp at hi; omega))
      have hS1 : SeenMap w1 w.heap.size (seen ++ [nm]) := by
        refine ⟨_, by rw [List.length_append]; exact hown1, hD1.put _ _, fun l => ?_⟩
        by_cases hl : l = nm
        · subst hl
          rw [atKey_put_same hD1 (by simp [WideAt.IsKeyLit])]
          rw [List.count_append, HCN.out]
          simp
        · rw [atKey_put_other (by simpa using hl), HD2.out l]
          have h0 : List.count l [nm] = 0 := by rw [List.count_eq_zero]; simpa using hl
          rw [List.count_append, h0]
          rfl
      have hct : (seen ++ [nm]).count nm = cn + 1 := by rw [List.count_append, HCN.out]; simp
      have e0 : w1.cell? ⟨wr.heap.size, 0, none⟩ = some (.string ⟨nm.toArray⟩) := by simp [World.cell?, hbx1]
      clear hlk hown hown1 hgrow1 hk1 hS HKEY HMX HPE d1 d2
      go_wp2_with fail
      refine (isAttrName_any nm _ hnm).mono ?_
      rintro e w2 ⟨rfl, hk2⟩
      have e2 := cell_kept hk2 e0
      have hK2 := hK1.trans hk2
      have hS2 := hS1.kept hk2
      have hlk2 := hS2.look nm hnm
      rw [hct] at hlk2
      clear hS1 e0 hbx1 hk2 hK1
      cases hat : isAttrNameP nm with
      | false =>
        have HAT : Hid (isAttrNameP nm = false) := hat
        clear hat
        go_wp2_with fail
        go_ret
        refine ⟨ret_bool ?_, hK2⟩
        exact (attrsOk_take al (k + 1) (by rw [HOK2.out, HAT.out]; rfl)).symm
      | true =>
        have HAT : Hid (isAttrNameP nm = true) := hat
        clear hat
        by_cases hc0 : cn = 0
        · subst hc0
          go_wp2_with fail
          go_roundg (al.length - (k + 1))
          case measure => omega
          case rel => exact ⟨k + 1, by omega, rfl, rfl, hK2, by rw [HSN.out]; exact hS2, by rw [HOK2.out, HAT.out]; rfl⟩
        · have hgt : ((1 : Int) < (cn : Int) + 1) := by omega
          have HC0 : Hid (¬ cn = 0) := hc0
          clear hc0
          go_wp2_with fail
          go_ret
          refine ⟨ret_bool ?_, hK2⟩
          exact (attrsOk_take al (k + 1) (by rw [HOK2.out, HAT.out]; simp [HC0.out])).symm
    · have hlt' : ((k : Int) < (al.length : Int)) = False := by simp; omega
      have hkl : k = al.length := by omega
      have HR : Hid (attrsOkP al = true) := by
        have := HOK.out
        rw [hkl, List.take_length] at this
        exact this
      clear hkl
      go_wp2_with fail
      go_ret
      exact ⟨ret_bool HR.out.symm, hK⟩
end Go.Proofs.YtlpmjpmefdpcmaaGreatDoor
namespace Go.Proofs.YtlpmjpmefdpcmaaGreatDoor
open Go.RowKit Scrub Go.Shelf
set_option maxHeartbeats 1000000 in
theorem holdsEnd_any (s name : ByteArray) (w : World) (hs : s.size ≤ 1099511627776) :
    Calls Tryz.prog 223 #[.string s, .string name] w fun e w' => e = .returned (.bool (holdsEndP name.data.toList s.data.toList)) ∧ Kept [] w w' := by
  go_enter Tryz.func223, Tryz.ntmps223
  go_wp2_with fail
  go_loopg [8] s.size (fun g x wr => ∃ k : Nat, k ≤ s.size ∧ g = s.size - k ∧ x = .int .i64 (k : Int) ∧ Kept [] w wr ∧ holdsEndP name.data.toList s.data.toList = holdsEndP name.data.toList (s.data.toList.drop k))
  case atStart => exact ⟨0, by omega, rfl, rfl, Kept.refl _ _, by simp⟩
  case round =>
    obtain ⟨k, hk, rfl, rfl, hK, hinv⟩ := hrel
    have HI : Hid _ := hinv
    clear hinv
    by_cases hlt : k < s.size
    · have hlt' : (k : Int) < (s.size : Int) := by omega
      have hge : (0 : Int) ≤ (k : Int) := by omega
      have hle : (k : Int) ≤ (s.size : Int) := by omega
      have HS : Hid (holdsEndP name.data.toList (s.data.toList.drop k) = (endsRawP (s.data.toList.drop k) name.data.toList || holdsEndP name.data.toList (s.data.toList.drop (k + 1)))) := by
        show _ = _
        rw [drop_get hlt, holdsEndP]
      have hex : (s.extract k s.size).data.toList = s.data.toList.drop k := by
        simp
        exact List.take_of_length_le (by simp)
      have hxs : (s.extract k s.size).size ≤ 1099511627776 := by simp; omega
      go_wp2_with fail
      refine (endsRaw_any (s.extract k s.size) name _ hxs).mono ?_
      rintro e w1 ⟨rfl, hk1⟩
      rw [hex]
      clear hex hxs
      cases hp : endsRawP (s.data.toList.drop k) name.data.toList with
      | true =>
        have HP : Hid _ := hp
        clear hp
        go_wp2_with fail
        go_ret
        exact ⟨ret_bool (by rw [HI.out, HS.out, HP.out]; rfl), hK.trans hk1⟩
      | false =>
        have HP : Hid _ := hp
        clear hp
        go_wp2_with fail
        go_roundg (s.size - (k + 1))
        case measure => omega
        case rel => exact ⟨k + 1, by omega, rfl, rfl, hK.trans hk1, by rw [HI.out, HS.out, HP.out]; rfl⟩
    · have hlt' : ((k : Int) < (s.size : Int)) = False := by simp; omega
      have HD : Hid (s.data.toList.drop k = []) := List.drop_eq_nil_of_le (by simp; omega)
      go_wp2_with fail
      go_ret
      exact ⟨ret_bool (by rw [HI.out, HD.out]; rfl), hK⟩
set_option maxHeartbeats 1000000 in
theorem isRawText_any (nm tx name : List UInt8) (aa ka : Option Addr) (an ac kn kc : Nat) (w : World) (htx : tx.length ≤ 1099511627776) :
    Calls Tryz.prog 206 #[.agg #[.string ⟨nm.toArray⟩, .slice aa an ac, .slice ka kn kc, .string ⟨tx.toArray⟩], .string ⟨name.toArray⟩] w
      fun e w' => e = .returned (.bool ((decide (nm = []) && decide (tx ≠ []) && decide (an = 0) && decide (kn = 0)) && !holdsEndP name tx)) ∧ Kept [] w w' := by
  have hsz : (⟨tx.toArray⟩ : ByteArray).size ≤ 1099511627776 := by simpa [ByteArray.size] using htx
  have hhe := fun w' => holdsEnd_any ⟨tx.toArray⟩ ⟨name.toArray⟩ w' hsz
  have hks : (({ data := tx.toArray } : ByteArray).data.toList) = tx := by simp
  have hks2 : (({ data := name.toArray } : ByteArray).data.toList) = name := by simp
  rw [hks, hks2] at hhe
  have HHE : Hid _ := hhe
  clear hhe hks hks2 hsz
  go_enter Tryz.func206, Tryz.ntmps206
  go_wp2_with fail
  refine (isText_any nm tx aa ka an ac kn kc _).mono ?_
  rintro e w1 ⟨rfl, hk1⟩
  have hbx1 := (hk1.block w.heap.size (by simp) (by simp)).trans (heap_alloc_new w (.cells #[.string ⟨nm.toArray⟩, .slice aa an ac, .slice ka kn kc, .string ⟨tx.toArray⟩] 42))
  obtain ⟨⟨q0, q1, q2, q3⟩, _⟩ := cells4 hbx1
  have hK1 : Kept [] w w1 := ((Kept.refl [] w).alloc _).trans hk1
  clear hk1 hbx1
  cases ht : (decide (nm = []) && decide (tx ≠ []) && decide (an = 0) && decide (kn = 0)) with
  | false =>
    have HT : Hid _ := ht
    clear ht
    go_wp2_with fail
    go_ret
    exact ⟨ret_bool (by rw [HT.out]; rfl), hK1⟩
  | true =>
    have HT : Hid _ := ht
    clear ht
    go_wp2_with fail
    refine (HHE.out _).mono ?_
    rintro e w2 ⟨rfl, hk2⟩
    go_wp2_with fail
    go_ret
    exact ⟨ret_bool (by rw [HT.out]; simp), hK1.trans hk2⟩
end Go.Proofs.YtlpmjpmefdpcmaaGreatDoor
namespace Go.Proofs.YtlpmjpmefdpcmaaGreatDoor
open Go.RowKit Scrub Go.Shelf
/-- areNodes, to a depth. -/
def NodesOk (d : Nat) : Prop := ∀ (v : Value) (f : GF d) (w : World), Lies d w v f → bulkF d f ≤ 1099511627776 →
  Calls Tryz.prog 70 #[v] w fun e w' => e = .returned (.bool (soundF d f)) ∧ Kept [] w w'
/-- What isRawText tells of the first kid. -/
theorem rawOk_one {d : Nat} {f : GF d} (nm : List UInt8) (h : glen d f = 1) : ∃ (d' : Nat) (e : d = d' + 1) (x : GN d'), gnodes d' (e ▸ f) = [x] ∧ rawOk d f nm = (textG x && !holdsEndP nm x.2.2.2) := by
  cases d with
  | zero => simp [glen] at h
  | succ d' =>
    have h1 : (gnodes d' f).length = 1 := h
    obtain ⟨x, hx⟩ := List.length_eq_one_iff.1 h1
    refine ⟨d', rfl, x, hx, ?_⟩
    show (match gnodes d' f with | [] => true | [k] => textG k && !holdsEndP nm k.2.2.2 | _ => false) = _
    rw [hx]
theorem rawOk_none {d : Nat} {f : GF d} (nm : List UInt8) (h : glen d f = 0) : rawOk d f nm = true := by
  cases d with
  | zero => rfl
  | succ d' =>
    have h1 : (gnodes d' f).length = 0 := h
    have h2 := List.eq_nil_of_length_eq_zero h1
    show (match gnodes d' f with | [] => true | [k] => textG k && !holdsEndP nm k.2.2.2 | _ => false) = _
    rw [h2]
theorem rawOk_many {d : Nat} {f : GF d} (nm : List UInt8) (h : 1 < glen d f) : rawOk d f nm = false := by
  cases d with
  | zero => simp [glen] at h
  | succ d' =>
    have h1 : 1 < (gnodes d' f).length := h
    show (match gnodes d' f with | [] => true | [k] => textG k && !holdsEndP nm k.2.2.2 | _ => false) = _
    match hg : gnodes d' f, h1 with
    | [], h1 => simp at h1
    | [a], h1 => simp at h1
    | a :: b :: t, _ => rfl
set_option maxHeartbeats 4000000 in
theorem holdsKids_any (d : Nat) (ih : NodesOk d) (nm : List UInt8) (al : List (List UInt8 × List UInt8)) (k : GF d) (tx : List UInt8) (av kv : Value) (w : World) (hA : LiesA w av al) (hK : Lies d w kv k) (hb : bulkF d k ≤ 1099511627776) :
    Calls Tryz.prog 163 #[.agg #[.string ⟨nm.toArray⟩, av, kv, .string ⟨tx.toArray⟩]] w
      fun e w' => e = .returned (.bool (kidsOk (soundF d) (nm, al, k, tx))) ∧ Kept [] w w' := by
  obtain ⟨aa, ac, rfl⟩ := hA.form
  obtain ⟨ka, kc, hkv⟩ := hK.form
  subst hkv
  have HKO : Hid (kidsOk (soundF d) (nm, al, k, tx) = if kindP nm = 1 then decide (glen d k = 0) else if kindP nm = 2 then rawOk d k nm else soundF d k) := rfl
  have hk0 : Kept [] w (w.alloc (.cells #[.string ⟨nm.toArray⟩, .slice aa al.length ac, .slice ka (glen d k) kc, .string ⟨tx.toArray⟩] 42)) := (Kept.refl [] _).alloc _
  have hbx := heap_alloc_new w (.cells #[.string ⟨nm.toArray⟩, .slice aa al.length ac, .slice ka (glen d k) kc, .string ⟨tx.toArray⟩] 42)
  have hK0 := hK.kept d hk0
  go_enter Tryz.func163, Tryz.ntmps163
  go_wp2_with fail
  refine (kindOf_any _ _).mono ?_
  rintro e w1 ⟨rfl, rfl⟩
  have hks : (({ data := nm.toArray } : ByteArray).data.toList) = nm := by simp
  rw [hks]
  clear hks
  by_cases h1 : kindP nm = 1
  · have HR : Hid (kidsOk (soundF d) (nm, al, k, tx) = decide (glen d k = 0)) := by show _ = _; rw [HKO.out, if_pos h1]
    rw [h1]
    clear h1 HKO
    go_wp2_with fail
    go_ret
    refine ⟨ret_bool ?_, hk0⟩
    rw [HR.out, Bool.eq_iff_iff]
    simp
  · by_cases h2 : kindP nm = 2
    · have HR : Hid (kidsOk (soundF d) (nm, al, k, tx) = rawOk d k nm) := by show _ = _; rw [HKO.out, if_neg h1, if_pos h2]
      rw [h2]
      clear h1 HKO h2
      rcases Nat.lt_trichotomy (glen d k) 1 with hz | hz | hz
      · have hz0 : glen d k = 0 := by omega
        have HR2 : Hid (kidsOk (soundF d) (nm, al, k, tx) = true) := by show _ = _; rw [HR.out, rawOk_none nm hz0]
        rw [hz0] at hbx ⊢
        clear hz hz0 hK0 hK hb
        obtain ⟨⟨q0, q1, q2, q3⟩, _⟩ := cells4 hbx
        go_wp2_with fail
        go_region
        all_goals
          go_wp2_with fail
          go_ret
          exact ⟨ret_bool HR2.out.symm, ((Kept.refl [] w).alloc _).drew⟩
      · obtain ⟨d', rfl, x, hx, hro⟩ := rawOk_one nm hz
        have hx' : gnodes d' k = [x] := hx
        have HR2 : Hid (kidsOk (soundF (d' + 1)) (nm, al, k, tx) = (textG x && !holdsEndP nm x.2.2.2)) := by show _ = _; rw [HR.out, hro]
        have hbx2 : bulkN (bulkF d') x ≤ 1099511627776 := Nat.le_trans (bulkF_mem (by rw [hx']; simp)) hb
        have htx2 : x.2.2.2.length ≤ 1099511627776 := by unfold bulkN at hbx2; omega
        obtain ⟨a0, c0, hv0, hcells⟩ := hK0
        obtain ⟨g, o, ha0, av', kv', e0, e1, e2, e3, hA', hK'⟩ := hcells 0 (by rw [hx']; simp)
        have hx0 : (gnodes d' k)[0]'(by rw [hx']; simp) = x := by simp [hx']
        rw [hx0] at e0 e3 hA' hK'
        obtain ⟨aa', ac', rfl⟩ := hA'.form
        obtain ⟨ka', kc', rfl⟩ := hK'.form
        have HTG : Hid (textG x = (decide (x.1 = []) && decide (x.2.2.2 ≠ []) && decide (x.2.1.length = 0) && decide (glen d' x.2.2.1 = 0))) := by
          show _ = _
          unfold textG
          congr 2
          simp
        injection hv0 with hv1 hv2 hv3
        subst hv1 hv3 ha0
        simp only [Nat.zero_mul, Nat.add_zero] at e0 e1 e2 e3
        rw [hz] at hbx e0 e1 e2 e3 ⊢
        have hir := fun w' => isRawText_any x.1 x.2.2.2 nm aa' ka' x.2.1.length ac' (glen d' x.2.2.1) kc' w' htx2
        have hr3 := HR2.out
        rw [HTG.out] at hr3
        generalize ((decide (x.1 = []) && decide (x.2.2.2 ≠ []) && decide (x.2.1.length = 0) && decide (glen d' x.2.2.1 = 0)) && !holdsEndP nm x.2.2.2) = bv at hir hr3
        have HR3 : Hid _ := hr3
        have HIR : Hid _ := hir
        clear hcells hK hb hx hx' hro hx0 hbx2 hA' hK' hv2 hr3 hir HR2 HTG htx2
        generalize x.1 = nm' at *
        generalize x.2.2.2 = tx' at *
        generalize x.2.1.length = an' at *
        generalize glen d' x.2.2.1 = kn' at *
        obtain ⟨⟨q0, q1, q2, q3⟩, _⟩ := cells4 hbx
        go_wp2_with fail
        go_region_with (go_at_call 206; refine (HIR.out _).mono ?_; rintro e w3 ⟨rfl, hk3⟩)
        all_goals
          go_wp2_with fail
          go_ret
          exact ⟨ret_bool HR3.out.symm, Kept.trans ((Kept.refl [] w).alloc _) ((Kept.refl [] _).drew.trans hk3)⟩
      · have HR2 : Hid (kidsOk (soundF d) (nm, al, k, tx) = false) := by show _ = _; rw [HR.out, rawOk_many nm hz]
        have hb0 : ((glen d k : Int) == 0) = false := by rw [beq_eq_false_iff_ne]; omega
        have hb1 : ((glen d k : Int) == 1) = false := by rw [beq_eq_false_iff_ne]; omega
        clear hz hK0 hK hb
        generalize glen d k = kn at *
        obtain ⟨⟨q0, q1, q2, q3⟩, _⟩ := cells4 hbx
        go_wp2_with fail
        go_region
        all_goals
          go_wp2_with fail
          go_ret
          exact ⟨ret_bool HR2.out.symm, ((Kept.refl [] w).alloc _).drew⟩
    · have HR : Hid (kidsOk (soundF d) (nm, al, k, tx) = soundF d k) := by show _ = _; rw [HKO.out, if_neg h1, if_neg h2]
      have hb1 : (kindP nm == 1) = false := by simpa using h1
      have hb2 : (kindP nm == 2) = false := by simpa using h2
      clear h1 h2 HKO
      go_wp2_with fail
      refine (ih _ k _ hK0 hb).mono ?_
      rintro e w2 ⟨rfl, hk2⟩
      go_wp2_with fail
      go_ret
      exact ⟨ret_bool HR.out.symm, hk0.trans hk2⟩
end Go.Proofs.YtlpmjpmefdpcmaaGreatDoor
namespace Go.Proofs.YtlpmjpmefdpcmaaGreatDoor
open Go.RowKit Scrub Go.Shelf
set_option maxHeartbeats 4000000 in
theorem isElement_any (d : Nat) (ih : NodesOk d) (n : GN d) (av kv : Value) (w : World) (hA : LiesA w av n.2.1) (hK : Lies d w kv n.2.2.1) (hb : bulkN (bulkF d) n ≤ 1099511627776) :
    Calls Tryz.prog 101 #[.agg #[.string ⟨n.1.toArray⟩, av, kv, .string ⟨n.2.2.2.toArray⟩]] w
      fun e w' => e = .returned (.bool (elemG (soundF d) n)) ∧ Kept [] w w' := by
  obtain ⟨nm, al, k, tx⟩ := n
  simp only at hA hK hb ⊢
  have hb1 : nm.length ≤ 1099511627776 := by unfold bulkN at hb; simp only at hb; omega
  have hb2 : bulkA al ≤ 1099511627776 := by unfold bulkN at hb; simp only at hb; omega
  have hb3 : bulkF d k ≤ 1099511627776 := by unfold bulkN at hb; simp only at hb; omega
  have hAA : Hid (∀ w', Kept [] w w' → Calls Tryz.prog 162 #[av] w' fun e w'' => e = .returned (.bool (attrsOkP al)) ∧ Kept [] w' w'') := fun w' hk => areAttrs_any av al w' (hA.kept hk) (Nat.le_trans (bulkA_len al) hb2) (fun x hx => by have := bulkA_mem hx; omega)
  have hKK : Hid (∀ w', Kept [] w w' → Calls Tryz.prog 163 #[.agg #[.string ⟨nm.toArray⟩, av, kv, .string ⟨tx.toArray⟩]] w' fun e w'' => e = .returned (.bool (kidsOk (soundF d) (nm, al, k, tx))) ∧ Kept [] w' w'') := fun w' hk => holdsKids_any d ih nm al k tx av kv w' (hA.kept hk) (hK.kept d hk) hb3
  have HE : Hid (elemG (soundF d) (nm, al, k, tx) = (isNameP nm && decide (tx = []) && attrsOkP al && kidsOk (soundF d) (nm, al, k, tx))) := rfl
  obtain ⟨aa, ac, hav⟩ := hA.form
  obtain ⟨ka, kc, hkv⟩ := hK.form
  subst hav hkv
  have hk0 : Kept [] w (w.alloc (.cells #[.string ⟨nm.toArray⟩, .slice aa al.length ac, .slice ka (glen d k) kc, .string ⟨tx.toArray⟩] 42)) := (Kept.refl [] _).alloc _
  have hbx := heap_alloc_new w (.cells #[.string ⟨nm.toArray⟩, .slice aa al.length ac, .slice ka (glen d k) kc, .string ⟨tx.toArray⟩] 42)
  generalize glen d k = kn at *
  generalize attrsOkP al = ba at *
  generalize kidsOk (soundF d) (nm, al, k, tx) = bk at *
  generalize al.length = an at *
  clear hA hK hb hb2 hb3
  go_enter Tryz.func101, Tryz.ntmps101
  go_wp2_with fail
  refine (isName_any nm _ hb1).mono ?_
  rintro e w1 ⟨rfl, hk1⟩
  have hbx1 := (hk1.block w.heap.size (by simp) (by simp)).trans hbx
  have hK1 : Kept [] w w1 := hk0.trans hk1
  obtain ⟨⟨q0, q1, q2, q3⟩, _⟩ := cells4 hbx1
  cases hn : isNameP nm with
  | false =>
    have HN : Hid _ := hn
    clear hn
    go_wp2_with fail
    go_ret
    exact ⟨ret_bool (by rw [HE.out, HN.out]; rfl), hK1⟩
  | true =>
    have HN : Hid _ := hn
    clear hn
    by_cases ht : tx = []
    · subst ht
      go_wp2_with fail
      refine (hAA.out _ hK1).mono ?_
      rintro e w2 ⟨rfl, hk2⟩
      have hbx2 := (hk2.block w.heap.size (Array.getElem?_eq_some_iff.1 hbx1).1 (by simp)).trans hbx1
      have hK2 := hK1.trans hk2
      clear q0 q1 q2 q3
      obtain ⟨⟨q0, q1, q2, q3⟩, _⟩ := cells4 hbx2
      cases ba with
      | false =>
        go_wp2_with fail
        go_ret
        exact ⟨ret_bool (by rw [HE.out, HN.out]; simp), hK2⟩
      | true =>
        go_wp2_with fail
        refine (hKK.out _ hK2).mono ?_
        rintro e w3 ⟨rfl, hk3⟩
        go_wp2_with fail
        go_ret
        exact ⟨ret_bool (by rw [HE.out, HN.out]; simp), hK2.trans hk3⟩
    · have htb : (tx == []) = false := by simpa using ht
      have hte : tx.isEmpty = false := by simpa using ht
      have HT : Hid (¬ tx = []) := ht
      clear ht
      go_wp2_with fail
      go_ret
      exact ⟨ret_bool (by rw [HE.out, HN.out]; simp [HT.out]), hK1⟩
set_option maxHeartbeats 4000000 in
theorem areNodes_zero : NodesOk 0 := by
  intro v f w hL hb
  obtain ⟨a, c, rfl⟩ := hL
  go_enter Tryz.func70, Tryz.ntmps70
  go_wp2_with fail
  go_loopg [7] 0 (fun g x wr => g = 0 ∧ wr = w ∧ x = .int .i64 0)
  case atStart => exact ⟨rfl, rfl, rfl⟩
  case round =>
    obtain ⟨rfl, rfl, rfl⟩ := hrel
    go_wp2_with fail
    go_ret
    exact ⟨rfl, Kept.refl _ _⟩
set_option maxHeartbeats 4000000 in
theorem areNodes_succ (d : Nat) (ih : NodesOk d) : NodesOk (d + 1) := by
  intro v f w hL hb
  have hlen := Nat.le_trans (bulkF_len f) hb
  have HB : Hid (∀ n ∈ gnodes d f, bulkN (bulkF d) n ≤ 1099511627776) := fun n hn => Nat.le_trans (bulkF_mem hn) hb
  obtain ⟨a, c, rfl, hcells⟩ := hL
  have HC : Hid (∀ i (h : i < (gnodes d f).length), ∃ g o, a = some ⟨g, o, none⟩ ∧ LiesN (Lies d w) w g (o + i * 4) (gnodes d f)[i]) := hcells
  have HSO : Hid (soundF (d + 1) f = (gnodes d f).all (fun n => textG n || elemG (soundF d) n)) := rfl
  clear hcells hb
  generalize gnodes d f = l at *
  go_enter Tryz.func70, Tryz.ntmps70
  go_wp2_with fail
  go_loopg [7] l.length (fun g x wr => ∃ k : Nat, k ≤ l.length ∧ g = l.length - k ∧ x = .int .i64 (k : Int) ∧ Kept [] w wr ∧ soundF (d + 1) f = (l.drop k).all (fun n => textG n || elemG (soundF d) n))
  case atStart => exact ⟨0, by omega, rfl, rfl, Kept.refl _ _, by simpa using HSO.out⟩
  case round =>
    clear HSO
    obtain ⟨k, hk, rfl, rfl, hK, hinv⟩ := hrel
    have HI : Hid _ := hinv
    clear hinv
    by_cases hlt : k < l.length
    · have hlt' : (k : Int) < (l.length : Int) := by omega
      have hge : (0 : Int) ≤ (k : Int) := by omega
      obtain ⟨g, o, rfl, hn⟩ := HC.out k hlt
      have HS : Hid ((l.drop k).all (fun n => textG n || elemG (soundF d) n) = ((textG l[k] || elemG (soundF d) l[k]) && (l.drop (k + 1)).all (fun n => textG n || elemG (soundF d) n))) := by
        show _ = _
        rw [List.drop_eq_getElem_cons hlt, List.all_cons]
      have hbn := HB.out l[k] (List.getElem_mem hlt)
      have hn2 := hn.kept (fun v f h => Lies.kept d h hK) hK
      generalize l[k] = n at *
      obtain ⟨av, kv, e0, e1, e2, e3, hA, hKd⟩ := hn2
      have hie : Hid (∀ w', Kept [] wr w' → Calls Tryz.prog 101 #[.agg #[.string ⟨n.1.toArray⟩, av, kv, .string ⟨n.2.2.2.toArray⟩]] w' fun e w'' => e = .returned (.bool (elemG (soundF d) n)) ∧ Kept [] w' w'') := fun w' hk' => isElement_any d ih n av kv w' (hA.kept hk') (hKd.kept d hk') hbn
      obtain ⟨aa, ac, hav⟩ := hA.form
      obtain ⟨ka, kc, hkv⟩ := hKd.form
      subst hav hkv
      have hit := fun w' => isText_any n.1 n.2.2.2 aa ka n.2.1.length ac (glen d n.2.2.1) kc w'
      have htg : (decide (n.1 = []) && decide (n.2.2.2 ≠ []) && decide (n.2.1.length = 0) && decide (glen d n.2.2.1 = 0)) = textG n := by
        unfold textG
        congr 2
        simp
      rw [htg] at hit
      have HIT : Hid _ := hit
      clear hit htg hn hA hKd hbn
      generalize textG n = bt at *
      generalize elemG (soundF d) n = be at *
      generalize n.1 = nm at *
      generalize n.2.2.2 = tx at *
      generalize n.2.1.length = an at *
      generalize glen d n.2.2.1 = kn at *
      have hkz : Kept [] wr (wr.alloc (.cells #[.string ⟨nm.toArray⟩, .slice aa an ac, .slice ka kn kc, .string ⟨tx.toArray⟩] 42)) := (Kept.refl [] _).alloc _
      have hbx := heap_alloc_new wr (.cells #[.string ⟨nm.toArray⟩, .slice aa an ac, .slice ka kn kc, .string ⟨tx.toArray⟩] 42)
      go_wp2_with fail
      refine (HIT.out _).mono ?_
      rintro e w1 ⟨rfl, hk1⟩
      have hbx1 := (hk1.block wr.heap.size (by simp) (by simp)).trans hbx
      obtain ⟨⟨q0, q1, q2, q3⟩, _⟩ := cells4 hbx1
      have hK1 := hkz.trans hk1
      clear hbx hkz hk1
      cases bt with
      | true =>
        go_wp2_with fail
        go_roundg (l.length - (k + 1))
        case measure => omega
        case rel => exact ⟨k + 1, by omega, rfl, rfl, hK.trans hK1, by rw [HI.out, HS.out]; rfl⟩
      | false =>
        go_wp2_with fail
        refine (hie.out _ hK1).mono ?_
        rintro e w2 ⟨rfl, hk2⟩
        cases be with
        | true =>
          go_wp2_with fail
          go_roundg (l.length - (k + 1))
          case measure => omega
          case rel => exact ⟨k + 1, by omega, rfl, rfl, hK.trans (hK1.trans hk2), by rw [HI.out, HS.out]; rfl⟩
        | false =>
          go_wp2_with fail
          go_ret
          exact ⟨ret_bool (by rw [HI.out, HS.out]; rfl), hK.trans (hK1.trans hk2)⟩
    · have hlt' : ((k : Int) < (l.length : Int)) = False := by simp; omega
      have HD : Hid (l.drop k = []) := List.drop_eq_nil_of_le (by omega)
      go_wp2_with fail
      go_ret
      exact ⟨ret_bool (by rw [HI.out, HD.out]; rfl), hK⟩
theorem areNodes_any : ∀ d, NodesOk d
  | 0 => areNodes_zero
  | d + 1 => areNodes_succ d (areNodes_any d)
end Go.Proofs.YtlpmjpmefdpcmaaGreatDoor
