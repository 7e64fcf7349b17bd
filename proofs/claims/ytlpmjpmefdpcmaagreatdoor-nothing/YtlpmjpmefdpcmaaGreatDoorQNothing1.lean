import Derived.Test.YtlpmjpmefdpcmaaGreatDoorQFlt3
import Derived.Test.YtlpmjpmefdpcmaaGreatDoorQCln
import Derived.Test.YtlpmjpmefdpcmaaGreatDoorQCl9
/- A policy that lets nothing by. No function of the program in it. -/
namespace Go.Proofs.YtlpmjpmefdpcmaaGreatDoor
open Go.RowKit Scrub Go.Shelf
theorem none_text : ∀ {l : List Ev}, allIn ([], []) l → fitEv [] l → allText l
  | [], _, _ => trivial
  | some (.inl _t) :: r, h1, h2 => none_text (l := r) h1 h2.2.2
  | some (.inr (_n, _al)) :: _r, h1, _ => by
    have := h1.1.1
    simp at this
  | none :: _r, _, h2 => absurd rfl h2.1
theorem esc_no62 (t : List UInt8) : (62 : UInt8) ∉ escP [38, 60, 62] t := by
  intro h
  obtain ⟨c, _, hc⟩ := List.mem_flatMap.1 h
  by_cases h1 : c = 38
  · subst h1; revert hc; decide
  · by_cases h2 : c = 60
    · subst h2; revert hc; decide
    · by_cases h3 : c = 62
      · subst h3; revert hc; decide
      · rw [if_neg (by simp [h1, h2, h3])] at hc
        exact h3 (List.mem_singleton.1 hc).symm
/-- Of a policy that lets nothing by no markup is left. -/
theorem nothing_left (s : List UInt8) : (60 : UInt8) ∉ cleanP ([], []) s ∧ (62 : UInt8) ∉ cleanP ([], []) s := by
  rcases clean_or ([], []) s with h | ⟨l0, hf, h2, _⟩
  · rw [h]
    simp
  · have ht := none_text (filt_in ([], []) l0) (fit_filt ([], []) hf)
    have hm : filtE ([], []) l0 = [] ∨ ∃ t, filtE ([], []) l0 = [evText t] := by
      have := merge_text ht
      rw [merge_noAdj (l := filtE ([], []) l0) (noAdj_merge _)] at this
      exact this
    rw [h2]
    rcases hm with e | ⟨t, e⟩
    · rw [e]
      simp [wEv]
    · rw [e]
      have e2 : wEv [] [evText t] = escP [38, 60, 62] t := by
        show (if topRaw [] then t else escP [38, 60, 62] t) ++ [] = _
        rw [if_neg (by decide), List.append_nil]
      rw [e2]
      exact ⟨esc_no60 t, esc_no62 t⟩
/-- Where no start is, one text is read, or nothing. -/
theorem no60_read {r : List UInt8} (h : (60 : UInt8) ∉ r) : readP r = [] ∨ ∃ t, readP r = [evText t] := by
  by_cases hr : r = []
  · rw [hr]
    exact .inl readP_nil
  · right
    have hb : beginsP r = 0 := by
      cases r with
      | nil => exact absurd rfl hr
      | cons c u => exact begins_not60 (fun e => h (by simp [e]))
    have ht := textP_run r [] h (.inl rfl)
    rw [List.append_nil] at ht
    have hn := nextP_text hr hb
    rw [ht] at hn
    refine ⟨signs r, ?_⟩
    have e : readFrom r ([], []) = ([evText (signs r)], []) := by
      rw [readFrom_some hn, readFrom_none nextP_nil]
      rfl
    rw [readP, e]
    rfl
end Go.Proofs.YtlpmjpmefdpcmaaGreatDoor
namespace Go.Proofs.YtlpmjpmefdpcmaaGreatDoor
open Go.RowKit Scrub Go.Shelf
theorem nothing_tree {d : Nat} {f : GF d} {w : World} {v : Value} (hL : Lies d w v f) (hev : evF d f = [] ∨ ∃ t, evF d f = [evText t]) :
    (∃ a c, v = .slice a 0 c) ∨ ∃ g o c, v = .slice (some ⟨g, o, none⟩) 1 c ∧ w.cell? ⟨g, o, none⟩ = some (.string ⟨#[]⟩) := by
  cases d with
  | zero => exact .inl hL
  | succ d =>
    obtain ⟨a, c, rfl, h⟩ := hL
    have e : evF (d + 1) f = (gnodes d f).flatMap (evN (evF d)) := rfl
    rw [e] at hev
    generalize gnodes d f = l at *
    match l, hev, h with
    | [], _, _ => exact .inl ⟨a, c, rfl⟩
    | [x], hev, h =>
      right
      obtain ⟨g, o, rfl, av, kv, c0, _⟩ := h 0 (by simp)
      have hx : x.1 = [] := by
        rcases hev with hev | ⟨t, hev⟩
        · simp only [List.flatMap_cons, List.flatMap_nil, List.append_nil, evN] at hev
          split at hev
          · assumption
          · simp at hev
        · simp only [List.flatMap_cons, List.flatMap_nil, List.append_nil, evN] at hev
          split at hev
          · assumption
          · simp [evOpen, evText] at hev
      refine ⟨g, o, c, rfl, ?_⟩
      have e2 : ([x] : List (GN d))[0] = x := rfl
      rw [e2, hx] at c0
      simpa using c0
    | x :: y :: r, hev, _ =>
      exfalso
      have hl : ∀ z : GN d, 1 ≤ (evN (evF d) z).length := by
        intro z
        unfold evN
        split <;> simp
      have h1 := hl x
      have h2 := hl y
      rcases hev with hev | ⟨t, hev⟩
      · have := congrArg List.length hev
        simp only [List.flatMap_cons, List.length_append, List.length_nil] at this
        omega
      · have := congrArg List.length hev
        simp only [List.flatMap_cons, List.length_append, List.length_cons, List.length_nil] at this
        omega
theorem no_byte {tb : ByteArray} {c : UInt8} (h : c ∉ tb.data.toList) (i : Nat) (hi : i < tb.size) : ((tb[i].toNat : Int) == (c.toNat : Int)) = false := by
  cases hc : ((tb[i].toNat : Int) == (c.toNat : Int)) with
  | false => rfl
  | true =>
    exfalso
    have h1 : (tb[i].toNat : Int) = (c.toNat : Int) := by simpa using hc
    have h2 : tb[i] = c := UInt8.toNat_inj.1 (by omega)
    apply h
    rw [← h2]
    exact Array.mem_toList_iff.2 (Array.getElem_mem (xs := tb.data) hi)
set_option maxRecDepth 100000 in
set_option maxHeartbeats 4000000 in
theorem nothing_any (s : ByteArray) (w : World) (ht : Tabs w) : Calls Tryz.prog 9 #[.string s] w fun e w' => e = .returned (.bool true) ∧ Kept [] w w' := by
  have HX : Hid _ := cleanX_any w ht
  have HT : Hid (∀ w', Kept [] w w' → Tabs w') := fun w' hk => ht.kept hk
  clear ht
  go_enter Tryz.func9, Tryz.ntmps9
  go_wp2_with fail
  refine Calls.mono HX.out ?_
  rintro e w1 ⟨rfl, hk1⟩
  go_wp2_with fail
  refine (short_any s 600 _ (by omega)).mono ?_
  rintro e w2 ⟨t, rfl, htl, hts, rfl⟩
  have HC : Hid (∀ w', Kept [] w w' → Calls Tryz.prog 20 #[.agg #[.slice none 0 0, .slice none 0 0], .string t] w' fun e w'' => e = .returned (.tuple #[.string ⟨(cleanP ([], []) t.data.toList).toArray⟩, .int .i64 0]) ∧ Kept [] w' w'') := fun w' hk =>
    clean_ok _ _ ([], []) t w' ⟨StrsAt.nil _ _ _, StrsAt.nil _ _ _⟩ (HT.out w' hk).1 (HT.out w' hk).2 (by decide) hts
  have hno := nothing_left t.data.toList
  obtain ⟨tb, htb⟩ : ∃ tb : ByteArray, (⟨(cleanP ([], []) t.data.toList).toArray⟩ : ByteArray) = tb := ⟨_, rfl⟩
  have hdl : tb.data.toList = cleanP ([], []) t.data.toList := by rw [← htb]
  have hlen := clean_len ([], []) t.data.toList (by simpa using hts)
  rw [← hdl] at hno hlen
  have hsz : tb.size ≤ 8544000 := by simpa using hlen
  rw [htb] at HC
  have HNO : Hid (∀ i (h : i < tb.size), ((tb[i].toNat : Int) == 60) = false ∧ ((tb[i].toNat : Int) == 62) = false) := fun i h => ⟨no_byte hno.1 i h, no_byte hno.2 i h⟩
  have HN60 : Hid ((60 : UInt8) ∉ tb.data.toList) := hno.1
  clear htl hts htb hdl hno hlen
  go_wp2_with fail
  refine (HC.out _ hk1).mono ?_
  rintro e w3 ⟨rfl, hk3⟩
  have hk4 := hk1.trans hk3
  go_wp2_with fail
  go_loopg [6] tb.size (fun g x wr => ∃ k : Nat, k ≤ tb.size ∧ g = tb.size - k ∧ x = .int .i64 (k : Int) ∧ ∃ n, wr = w3.drewN n)
  case atStart => exact ⟨0, by omega, rfl, rfl, 0, rfl⟩
  case round =>
    obtain ⟨k, hks, hgk, rfl, n, rfl⟩ := hrel
    have HG : Hid _ := hgk
    clear hgk
    by_cases hlt : k < tb.size
    · have hlt' : (k : Int) < (tb.size : Int) := by omega
      have hge : (0 : Int) ≤ (k : Int) := by omega
      obtain ⟨h1, h2⟩ := HNO.out k hlt
      go_wp2_with fail
      go_roundg (tb.size - (k + 1))
      case measure => rw [HG.out]; omega
      case rel => exact ⟨k + 1, by omega, rfl, by go_num, _, by first | rfl | exact drewN2 _ _ _⟩
    · have hlt' : ((k : Int) < (tb.size : Int)) = False := by simp; omega
      have hk5 := hk4.drewN n
      have HSH : Hid _ := short_any tb 600 (w3.drewN n) (by omega)
      go_wp2_with fail
      refine Calls.mono HSH.out ?_
      rintro e w5 ⟨t2, rfl, htl, hts, hw5⟩
      have hk6 : Kept [] w w5 := by rw [hw5]; exact hk5
      clear hw5
      have HPA : Hid _ := parse_short t2 w5 hts (HT.out _ hk6).1
      have hr := no60_read (r := t2.data.toList) (fun h => HN60.out (by rw [htl] at h; exact List.mem_of_mem_take h))
      have HRD : Hid _ := hr
      clear htl hts hr
      go_wp2_with fail
      refine Calls.mono HPA.out ?_
      rintro e w6 ⟨v, rfl, hnt⟩
      have hk7 := hk6.trans hnt.kept
      obtain ⟨d, f, hL, hev, _⟩ := hnt.lies
      have hnt2 := nothing_tree hL (by rw [hev]; exact HRD.out)
      clear hnt hL hev HPA HRD
      rcases hnt2 with ⟨a, c, rfl⟩ | ⟨g, o, c, rfl, c0⟩
      · go_wp2_with fail
        go_ret
        exact ⟨rfl, hk7⟩
      · go_wp2_with fail
        go_ret
        exact ⟨rfl, hk7⟩
end Go.Proofs.YtlpmjpmefdpcmaaGreatDoor
