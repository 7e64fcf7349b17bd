import Derived.Test.YtlpmjpmefdpcmaaGreatDoorQChk6
import Derived.Test.YtlpmjpmefdpcmaaGreatDoorQDeep1
import Derived.Test.YtlpmjpmefdpcmaaGreatDoorQWr4
namespace Go.Proofs.YtlpmjpmefdpcmaaGreatDoor
open Go.RowKit Scrub Go.Shelf
set_option maxHeartbeats 1000000 in
theorem check_any (d : Nat) (f : GF d) (v : Value) (w : World) (hL : Lies d w v f) (hb : bulkF d f ≤ 1099511627776) :
    Calls Tryz.prog 48 #[v] w fun e w' => e = .returned (.int .i64 (checkF d f)) ∧ Kept [] w w' := by
  have HTD := tooDeep_any d f v w hL hb
  have HAN : Hid (∀ w', Kept [] w w' → Calls Tryz.prog 70 #[v] w' fun e w'' => e = .returned (.bool (soundF d f)) ∧ Kept [] w' w'') := fun w' hk => areNodes_any d v f w' (hL.kept d hk) hb
  have HC : Hid (checkF d f = if 12 < depthF d f then 3 else if soundF d f then 0 else 2) := rfl
  obtain ⟨va, vc, hv⟩ := hL.form
  subst hv
  generalize hdd : decide (12 < depthF d f) = bd at HTD
  have HDD : Hid _ := hdd
  have HT : Hid _ := HTD
  clear hdd HTD hL
  generalize soundF d f = bs at *
  go_enter Tryz.func48, Tryz.ntmps48
  go_wp2_with fail
  refine Calls.mono HT.out ?_
  rintro e w1 ⟨rfl, hk1⟩
  cases bd with
  | true =>
    go_wp2_with fail
    go_ret
    exact ⟨ret_int (by rw [HC.out, if_pos (by simpa using HDD.out)]), hk1⟩
  | false =>
    go_wp2_with fail
    refine (HAN.out _ hk1).mono ?_
    rintro e w2 ⟨rfl, hk2⟩
    cases bs with
    | true =>
      go_wp2_with fail
      go_ret
      exact ⟨ret_int (by rw [HC.out, if_neg (by simpa using HDD.out)]; rfl), hk1.trans hk2⟩
    | false =>
      go_wp2_with fail
      go_ret
      exact ⟨ret_int (by rw [HC.out, if_neg (by simpa using HDD.out)]; rfl), hk1.trans hk2⟩
end Go.Proofs.YtlpmjpmefdpcmaaGreatDoor
namespace Scrub
theorem attrW_len (a : List UInt8 × List UInt8) : (attrW a).length ≤ 4 + a.1.length + 6 * a.2.length := by
  have := escP_len [38, 60, 34] a.2
  simp [attrW]
  omega
theorem attrsW_len (al : List (List UInt8 × List UInt8)) : (al.flatMap attrW).length ≤ 6 * bulkA al := by
  induction al with
  | nil => simp
  | cons a t ih =>
    have h := attrW_len a
    rw [List.flatMap_cons, List.length_append]
    show _ ≤ 6 * (a.1.length + a.2.length + 1 + bulkA t)
    omega
theorem rawW_len : ∀ (d : Nat) (f : GF d), (rawW d f).length ≤ bulkF d f
  | 0, _ => Nat.le_refl _
  | d + 1, f => by
    show ((gnodes d f).flatMap (fun n => n.2.2.2)).length ≤ (gnodes d f).foldr (fun n m => bulkN (bulkF d) n + m) 0
    generalize gnodes d f = l
    induction l with
    | nil => simp
    | cons a t ih =>
      rw [List.flatMap_cons, List.length_append]
      show _ ≤ bulkN (bulkF d) a + t.foldr (fun n m => bulkN (bulkF d) n + m) 0
      unfold bulkN
      unfold bulkN at ih
      omega
theorem nodeW_len {d : Nat} (W : GF d → List UInt8) (hW : ∀ f, (W f).length ≤ 8 * bulkF d f) (n : GN d) : (nodeW W n).length ≤ 8 * bulkN (bulkF d) n := by
  have h1 := escP_len [38, 60, 62] n.2.2.2
  have h2 := attrsW_len n.2.1
  have h3 := rawW_len d n.2.2.1
  have h4 := hW n.2.2.1
  unfold nodeW bulkN
  split
  · omega
  · simp only [List.length_append, startW, List.length_cons, List.length_nil]
    split
    · simp only [List.length_nil]
      omega
    · simp only [List.length_append, endW, List.length_cons, List.length_nil]
      split <;> omega
theorem writeF_len : ∀ (d : Nat) (f : GF d), (writeF d f).length ≤ 8 * bulkF d f
  | 0, _ => Nat.zero_le _
  | d + 1, f => by
    have ih := writeF_len d
    show ((gnodes d f).flatMap (nodeW (writeF d))).length ≤ 8 * (gnodes d f).foldr (fun n m => bulkN (bulkF d) n + m) 0
    generalize gnodes d f = l
    induction l with
    | nil => simp
    | cons a t ih2 =>
      have h := nodeW_len (writeF d) ih a
      rw [List.flatMap_cons, List.length_append]
      show _ ≤ 8 * (bulkN (bulkF d) a + t.foldr (fun n m => bulkN (bulkF d) n + m) 0)
      omega
end Scrub
namespace Go.Proofs.YtlpmjpmefdpcmaaGreatDoor
open Go.RowKit Scrub Go.Shelf
/-- Write's answer: the markup, or the empty string. -/
def writeAns (d : Nat) (f : GF d) : List UInt8 := if checkF d f = 0 then writeF d f else []
set_option maxHeartbeats 1000000 in
theorem write_any (d : Nat) (f : GF d) (v : Value) (w : World) (hL : Lies d w v f) (hb : bulkF d f ≤ 1099511627776) (hg : Glob w) :
    Calls Tryz.prog 16 #[v] w fun e w' => e = .returned (.tuple #[.string ⟨(writeAns d f).toArray⟩, .int .i64 (checkF d f)]) ∧ Kept [] w w' := by
  have hlen := writeF_len d f
  have hck := check_any d f v w hL hb
  have HMK : Hid (∀ w', Kept [] w w' → Calls Tryz.prog 49 #[v] w' fun e w'' => e = .returned (.string ⟨(writeF d f).toArray⟩) ∧ Kept [] w' w'') := fun w' hk => markup_any d f v w' (hL.kept d hk) hb (by omega) (hg.kept hk (by simp) (by simp))
  obtain ⟨va, vc, hv⟩ := hL.form
  subst hv
  clear hL hlen
  by_cases hc : checkF d f = 0
  · have ha : writeAns d f = writeF d f := by rw [writeAns, if_pos hc]
    rw [hc] at hck
    rw [ha, hc]
    have HCK : Hid _ := hck
    clear hc hck ha
    go_enter Tryz.func16, Tryz.ntmps16
    go_wp2_with fail
    refine Calls.mono HCK.out ?_
    rintro e w1 ⟨rfl, hk1⟩
    go_wp2_with fail
    refine (HMK.out _ hk1).mono ?_
    rintro e w2 ⟨rfl, hk2⟩
    go_wp2_with fail
    refine bodyPost_ret (v := .tuple #[.string ⟨(writeF d f).toArray⟩, .int .i64 0]) (by simp [results, Tryz.results16, go_sem]) rfl ?_
    exact ⟨rfl, hk1.trans hk2⟩
  · have ha : writeAns d f = [] := by rw [writeAns, if_neg hc]
    have hcb : (checkF d f == 0) = false := by simpa using hc
    have hcb2 : (checkF d f != 0) = true := by simpa using hc
    rw [ha]
    have HCK : Hid _ := hck
    clear hc hck HMK ha
    generalize checkF d f = ck at *
    go_enter Tryz.func16, Tryz.ntmps16
    go_wp2_with fail
    refine Calls.mono HCK.out ?_
    rintro e w1 ⟨rfl, hk1⟩
    go_wp2_with fail
    refine bodyPost_ret (v := .tuple #[.string ⟨#[]⟩, .int .i64 ck]) (by simp [results, Tryz.results16, go_sem]) rfl ?_
    exact ⟨rfl, hk1⟩
end Go.Proofs.YtlpmjpmefdpcmaaGreatDoor
