import Derived.Test.YtlpmjpmefdpcmaaGreatDoorQChk5
namespace Go.Proofs.YtlpmjpmefdpcmaaGreatDoor
open Go.RowKit Scrub Go.Shelf
set_option maxHeartbeats 4000000 in
theorem isElement_any (d : Nat) (ih : NodesOk d) (n : GN d) (av kv : Value) (w : World) (hA : LiesA w av n.2.1) (hK : Lies d w kv n.2.2.1) (hb : bulkN (bulkF d) n ≤ 1099511627776) :
    Calls Tryz.prog 101 #[.agg #[.string ⟨n.1.toArray⟩, av, kv, .string ⟨n.2.2.2.toArray⟩]] w
      fun e w' => e = .returned (.bool (elemG (soundF d) n)) ∧ Kept [] w w' := by
  obtain ⟨nm, al, k, tx⟩ := n
  simp only at hA hK hb ⊢
  have hb1 : nm.length ≤ 1099511627776 := by unfold bulkN at hb; simp only at hb; omega
  have hb2 : bulkA al ≤ 1099511627776 := by unfold bulkN at hb; simp only at hb; omega
  have hb3 : bulkF d k ≤ 1099511627776 := by unfold bulkN at hb; simp only at hb; omega
  have hAA : Hid (∀ w', Kept [] w w' → Calls Tryz.prog 162 #[av] w' fun e w'' => e = .returned (.bool (attrsOkP al)) ∧ Kept [] w' w'') := fun w' hk => areAttrs_any av al w' (hA.kept hk) (Nat.le_trans (bulkA_len al) hb2) (fun x hx => by have := bulkA_mem hx; omega)
  have hKK : Hid (∀ w', Kept [] w w' → Calls Tryz.prog 163 #[.agg #[.string ⟨nm.toArray⟩, av, kv, .string ⟨tx.toArray⟩]] w' fun e w'' => e = .returned (.bool (kidsOk (soundF d) (nm, al, k, tx))) ∧ Kept [] w' w'') := fun w' hk => holdsKids_any d ih nm al k tx av kv w' (hA.kept hk) (hK.kept d hk) hb3
  have HE : Hid (elemG (soundF d) (nm, al, k, tx) = (isNameP nm && decide (tx = []) && attrsOkP al && kidsOk (soundF d) (nm, al, k, tx))) := rfl
  obtain ⟨aa, ac, hav⟩ := hA.form
  obtain ⟨ka, kc, hkv⟩ := hK.form
  subst hav hkv
  have hk0 : Kept [] w (w.alloc (.cells #[.string ⟨nm.toArray⟩, .slice aa al.length ac, .slice ka (glen d k) kc, .string ⟨tx.toArray⟩] 42)) := (Kept.refl [] _).alloc _
  have hbx := heap_alloc_new w (.cells #[.string ⟨nm.toArray⟩, .slice aa al.length ac, .slice ka (glen d k) kc, .string ⟨tx.toArray⟩] 42)
  generalize glen d k = kn at *
  generalize attrsOkP al = ba at *
  generalize kidsOk (soundF d) (nm, al, k, tx) = bk at *
  generalize al.length = an at *
  clear hA hK hb hb2 hb3
  go_enter Tryz.func101, Tryz.ntmps101
  go_wp2_with fail
  refine (isName_any nm _ hb1).mono ?_
  rintro e w1 ⟨rfl, hk1⟩
  have hbx1 := (hk1.block w.heap.size (by simp) (by simp)).trans hbx
  have hK1 : Kept [] w w1 := hk0.trans hk1
  obtain ⟨⟨q0, q1, q2, q3⟩, _⟩ := cells4 hbx1
  cases hn : isNameP nm with
  | false =>
    have HN : Hid _ := hn
    clear hn
    go_wp2_with fail
    go_ret
    exact ⟨ret_bool (by rw [HE.out, HN.out]; rfl), hK1⟩
  | true =>
    have HN : Hid _ := hn
    clear hn
    by_cases ht : tx = []
    · subst ht
      go_wp2_with fail
      refine (hAA.out _ hK1).mono ?_
      rintro e w2 ⟨rfl, hk2⟩
      have hbx2 := (hk2.block w.heap.size (Array.getElem?_eq_some_iff.1 hbx1).1 (by simp)).trans hbx1
      have hK2 := hK1.trans hk2
      clear q0 q1 q2 q3
      obtain ⟨⟨q0, q1, q2, q3⟩, _⟩ := cells4 hbx2
      cases ba with
      | false =>
        go_wp2_with fail
        go_ret
        exact ⟨ret_bool (by rw [HE.out, HN.out]; simp), hK2⟩
      | true =>
        go_wp2_with fail
        refine (hKK.out _ hK2).mono ?_
        rintro e w3 ⟨rfl, hk3⟩
        go_wp2_with fail
        go_ret
        exact ⟨ret_bool (by rw [HE.out, HN.out]; simp), hK2.trans hk3⟩
    · have htb : (tx == []) = false := by simpa using ht
      have hte : tx.isEmpty = false := by simpa using ht
      have HT : Hid (¬ tx = []) := ht
      clear ht
      go_wp2_with fail
      go_ret
      exact ⟨ret_bool (by rw [HE.out, HN.out]; simp [HT.out]), hK1⟩
set_option maxHeartbeats 4000000 in
theorem areNodes_zero : NodesOk 0 := by
  intro v f w hL hb
  obtain ⟨a, c, rfl⟩ := hL
  go_enter Tryz.func70, Tryz.ntmps70
  go_wp2_with fail
  go_loopg [7] 0 (fun g x wr => g = 0 ∧ wr = w ∧ x = .int .i64 0)
  case atStart => exact ⟨rfl, rfl, rfl⟩
  case round =>
    obtain ⟨rfl, rfl, rfl⟩ := hrel
    go_wp2_with fail
    go_ret
    exact ⟨rfl, Kept.refl _ _⟩
set_option maxHeartbeats 4000000 in
theorem areNodes_succ (d : Nat) (ih : NodesOk d) : NodesOk (d + 1) := by
  intro v f w hL hb
  have hlen := Nat.le_trans (bulkF_len f) hb
  have HB : Hid (∀ n ∈ gnodes d f, bulkN (bulkF d) n ≤ 1099511627776) := fun n hn => Nat.le_trans (bulkF_mem hn) hb
  obtain ⟨a, c, rfl, hcells⟩ := hL
  have HC : Hid (∀ i (h : i < (gnodes d f).length), ∃ g o, a = some ⟨g, o, none⟩ ∧ LiesN (Lies d w) w g (o + i * 4) (gnodes d f)[i]) := hcells
  have HSO : Hid (soundF (d + 1) f = (gnodes d f).all (fun n => textG n || elemG (soundF d) n)) := rfl
  clear hcells hb
  generalize gnodes d f = l at *
  go_enter Tryz.func70, Tryz.ntmps70
  go_wp2_with fail
  go_loopg [7] l.length (fun g x wr => ∃ k : Nat, k ≤ l.length ∧ g = l.length - k ∧ x = .int .i64 (k : Int) ∧ Kept [] w wr ∧ soundF (d + 1) f = (l.drop k).all (fun n => textG n || elemG (soundF d) n))
  case atStart => exact ⟨0, by omega, rfl, rfl, Kept.refl _ _, by simpa using HSO.out⟩
  case round =>
    clear HSO
    obtain ⟨k, hk, rfl, rfl, hK, hinv⟩ := hrel
    have HI : Hid _ := hinv
    clear hinv
    by_cases hlt : k < l.length
    · have hlt' : (k : Int) < (l.length : Int) := by omega
      have hge : (0 : Int) ≤ (k : Int) := by omega
      obtain ⟨g, o, rfl, hn⟩ := HC.out k hlt
      have HS : Hid ((l.drop k).all (fun n => textG n || elemG (soundF d) n) = ((textG l[k] || elemG (soundF d) l[k]) && (l.drop (k + 1)).all (fun n => textG n || elemG (soundF d) n))) := by
        show _ = _
        rw [List.drop_eq_getElem_cons hlt, List.all_cons]
      have hbn := HB.out l[k] (List.getElem_mem hlt)
      have hn2 := hn.kept (fun v f h => Lies.kept d h hK) hK
      generalize l[k] = n at *
      obtain ⟨av, kv, e0, e1, e2, e3, hA, hKd⟩ := hn2
      have hie : Hid (∀ w', Kept [] wr w' → Calls Tryz.prog 101 #[.agg #[.string ⟨n.1.toArray⟩, av, kv, .string ⟨n.2.2.2.toArray⟩]] w' fun e w'' => e = .returned (.bool (elemG (soundF d) n)) ∧ Kept [] w' w'') := fun w' hk' => isElement_any d ih n av kv w' (hA.kept hk') (hKd.kept d hk') hbn
      obtain ⟨aa, ac, hav⟩ := hA.form
      obtain ⟨ka, kc, hkv⟩ := hKd.form
      subst hav hkv
      have hit := fun w' => isText_any n.1 n.2.2.2 aa ka n.2.1.length ac (glen d n.2.2.1) kc w'
      have htg : (decide (n.1 = []) && decide (n.2.2.2 ≠ []) && decide (n.2.1.length = 0) && decide (glen d n.2.2.1 = 0)) = textG n := by
        unfold textG
        congr 2
        simp
      rw [htg] at hit
      have HIT : Hid _ := hit
      clear hit htg hn hA hKd hbn
      generalize textG n = bt at *
      generalize elemG (soundF d) n = be at *
      generalize n.1 = nm at *
      generalize n.2.2.2 = tx at *
      generalize n.2.1.length = an at *
      generalize glen d n.2.2.1 = kn at *
      have hkz : Kept [] wr (wr.alloc (.cells #[.string ⟨nm.toArray⟩, .slice aa an ac, .slice ka kn kc, .string ⟨tx.toArray⟩] 42)) := (Kept.refl [] _).alloc _
      have hbx := heap_alloc_new wr (.cells #[.string ⟨nm.toArray⟩, .slice aa an ac, .slice ka kn kc, .string ⟨tx.toArray⟩] 42)
      go_wp2_with fail
      refine (HIT.out _).mono ?_
      rintro e w1 ⟨rfl, hk1⟩
      have hbx1 := (hk1.block wr.heap.size (by simp) (by simp)).trans hbx
      obtain ⟨⟨q0, q1, q2, q3⟩, _⟩ := cells4 hbx1
      have hK1 := hkz.trans hk1
      clear hbx hkz hk1
      cases bt with
      | true =>
        go_wp2_with fail
        go_roundg (l.length - (k + 1))
        case measure => omega
        case rel => exact ⟨k + 1, by omega, rfl, rfl, hK.trans hK1, by rw [HI.out, HS.out]; rfl⟩
      | false =>
        go_wp2_with fail
        refine (hie.out _ hK1).mono ?_
        rintro e w2 ⟨rfl, hk2⟩
        cases be with
        | true =>
          go_wp2_with fail
          go_roundg (l.length - (k + 1))
          case measure => omega
          case rel => exact ⟨k + 1, by omega, rfl, rfl, hK.trans (hK1.trans hk2), by rw [HI.out, HS.out]; rfl⟩
        | false =>
          go_wp2_with fail
          go_ret
          exact ⟨ret_bool (by rw [HI.out, HS.out]; rfl), hK.trans (hK1.trans hk2)⟩
    · have hlt' : ((k : Int) < (l.length : Int)) = False := by simp; omega
      have HD : Hid (l.drop k = []) := List.drop_eq_nil_of_le (by omega)
      go_wp2_with fail
      go_ret
      exact ⟨ret_bool (by rw [HI.out, HD.out]; rfl), hK⟩
theorem areNodes_any : ∀ d, NodesOk d
  | 0 => areNodes_zero
  | d + 1 => areNodes_succ d (areNodes_any d)
end Go.Proofs.YtlpmjpmefdpcmaaGreatDoor
