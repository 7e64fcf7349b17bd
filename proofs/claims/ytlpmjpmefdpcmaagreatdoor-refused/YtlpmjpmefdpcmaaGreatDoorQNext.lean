import Derived.Test.YtlpmjpmefdpcmaaGreatDoorQStart
import Derived.Test.YtlpmjpmefdpcmaaGreatDoorQPure5
namespace Go.Proofs.YtlpmjpmefdpcmaaGreatDoor
open Go.RowKit Scrub Go.Shelf
/-- What the next token leaves. -/
def NextPost (o : Option ((Int × List UInt8 × List (List UInt8 × List UInt8) × List UInt8) × List UInt8)) (rb : Nat) (m : ByteArray) (w : World) (e : Ending) (w' : World) : Prop :=
  Kept [rb] w w' ∧ match o with
  | none => e = .returned (.tuple #[tokV 0 [] (.slice none 0 0) [], .bool false]) ∧ Rd w' rb m []
  | some ((s, nm, al, tx), rest) => ∃ v, e = .returned (.tuple #[tokV s nm v tx, .bool true]) ∧ AOwn w' v al ∧ (∀ k, v.ownBlock = some k → w.heap.size ≤ k) ∧ Rd w' rb m rest
def NextAt (rb : Nat) (m : ByteArray) (w : World) (r : List UInt8) (g : Nat) (wr : World) : Prop :=
  ∃ r', g = r'.length ∧ Rd wr rb m r' ∧ Kept [rb] w wr ∧ Blank wr w.heap.size ∧ nextP r = nextP r'
theorem Kept.block_blank {w : World} {b k : Nat} {v0 v1 v2 v3 : Value} (h : Blank w b) (hb : b ≠ k) : Blank ((((w.setCell ⟨k, 0, none⟩ v0).setCell ⟨k, 1, none⟩ v1).setCell ⟨k, 2, none⟩ v2).setCell ⟨k, 3, none⟩ v3) b := by
  have hk := (Kept.refl [k] w).set4 (k := k) (.inl (by simp)) v0 v1 v2 v3
  have hlt : b < w.heap.size := (Array.getElem?_eq_some_iff.1 h).1
  exact (hk.block b hlt (by simpa using hb)).trans h
set_option maxHeartbeats 4000000 in
theorem next_any (rb : Nat) (m : ByteArray) (r : List UInt8) (w : World) (h : Rd w rb m r) (hm : m.size < 4294967281) (hg : Glob w) (hrb : 1 ∉ [rb] ∧ 0 ∉ [rb]) :
    Calls Tryz.prog 77 #[.pointer (some ⟨rb, 0, none⟩)] w (NextPost (nextP r) rb m w) := by
  have hrs := h.lt
  go_enter Tryz.func77, Tryz.ntmps77
  go_wp2_with fail
  go_loopg [] r.length (fun g wr => NextAt rb m w r g wr)
  case atStart => exact ⟨r, rfl, h.kept ((Kept.refl [] _).alloc _) (by simp), (Kept.refl _ _).alloc _, heap_alloc_new w _, rfl⟩
  case round =>
    obtain ⟨r', hgk, hrd, hkept, hbl, hnx⟩ := hrel
    have HG : Hid (gk = r'.length) := hgk
    have HNX : Hid (nextP r = nextP r') := hnx
    have hlt0 : w.heap.size < wr.heap.size := (Array.getElem?_eq_some_iff.1 hbl).1
    clear hgk hnx h
    go_wp2_with fail
    refine (done_any rb m r' _ hrd).mono ?_
    rintro e w1 ⟨rfl, n1, hw1⟩
    have hrd1 : Rd w1 rb m r' := by rw [hw1]; exact hrd.drewN n1
    have hkept1 : Kept [rb] w w1 := by rw [hw1]; exact hkept.drewN n1
    have hbl1 : Blank w1 w.heap.size := by rw [hw1]; exact hbl
    have hlt1 : w.heap.size < w1.heap.size := (Array.getElem?_eq_some_iff.1 hbl1).1
    clear hw1 hrd hkept hbl hlt0
    cases hr' : r'.isEmpty with
    | true =>
      have hnil : r' = [] := by simpa using hr'
      obtain ⟨⟨q0, q1, q2, q3⟩, ⟨f0, f1, f2, f3⟩⟩ := cells4 hbl1
      have HN : Hid (nextP r = none) := by show _ = _; rw [HNX.out, hnil]; rfl
      have HNIL : Hid (r' = []) := hnil
      clear hnil
      go_wp2_with fail
      refine bodyPost_ret (v := .tuple #[.agg #[.int .i64 0, .string ⟨#[]⟩, .slice none 0 0, .string ⟨#[]⟩], .bool false]) (by simp [results, Tryz.results77, go_sem, q0, q1, q2, q3]) rfl ?_
      rw [HN.out]
      refine ⟨hkept1.set4 (.inr (Nat.le_refl _)) _ _ _ _, rfl, ?_⟩
      have := Rd.kept (S := [w.heap.size]) hrd1 ((Kept.refl _ _).set4 (k := w.heap.size) (by simp) (.int .i64 0) (.string ⟨#[]⟩) (.slice none 0 0) (.string ⟨#[]⟩)) (by simp; omega)
      rw [HNIL.out] at this
      exact this
    | false =>
      have hne : r' ≠ [] := by intro e; rw [e] at hr'; simp at hr'
      go_wp2_with fail
      have hk2 : Kept [rb] w1 (w1.alloc (.cells #[.int .i64 0, .string ⟨#[]⟩, .slice none 0 0, .string ⟨#[]⟩] 108)) := (Kept.refl _ _).alloc _
      have hrd2 := hrd1.kept ((Kept.refl [] w1).alloc (.cells #[.int .i64 0, .string ⟨#[]⟩, .slice none 0 0, .string ⟨#[]⟩] 108)) (by simp)
      refine (begins_any rb m r' _ hrd2 hne).mono ?_
      rintro e w3 ⟨rfl, n3, hw3⟩
      have hrd3 : Rd w3 rb m r' := by rw [hw3]; exact hrd2.drewN n3
      have hkept3 : Kept [rb] w w3 := by rw [hw3]; exact (hkept1.trans hk2).drewN n3
      have hbl3 : Blank w3 w.heap.size := by rw [hw3]; exact (Below.heap_alloc _ _ _ hlt1).trans hbl1
      have htk3 : Blank w3 w1.heap.size := by rw [hw3]; exact heap_alloc_new w1 _
      have hlt3 : w1.heap.size < w3.heap.size := (Array.getElem?_eq_some_iff.1 htk3).1
      have hg3 : Glob w3 := hg.kept hkept3 hrb.1 hrb.2
      clear hw3 hk2 hrd2 hrd1 hkept1 hbl1
      have hfar1 : ¬ w.heap.size = w1.heap.size := by omega
      have hfar2 : ¬ w1.heap.size = w.heap.size := by omega
      rcases beginsP_cases r' with hb | hb | hb | hb
      · have HB : Hid (beginsP r' = -1) := hb
        rw [hb]
        clear hb
        go_wp2_with fail
        refine (passComment_any rb m r' _ hrd3 (begins_comment_len HB.out) hm hg3 hrb).mono ?_
        rintro e w4 ⟨rfl, hrd4, hk4⟩
        have hbl4 : Blank w4 w.heap.size := (hk4.block _ (by omega) (by simp; omega)).trans hbl3
        have HN4 := nextP_comment hne HB.out
        have hlt4 := comment_lt r' hne
        generalize (Lib.cut (r'.drop 4) [45, 45, 62]).2.1 = r4 at *
        have HN5 : Hid (nextP r = nextP r4) := by show _ = _; rw [HNX.out, HN4]
        clear HN4
        go_wp2_with fail
        go_roundg r4.length
        case measure => rw [HG.out]; omega
        case rel => exact ⟨r4, rfl, hrd4, hkept3.trans hk4, hbl4, HN5.out⟩
      · have HB : Hid (beginsP r' = 2) := hb
        rw [hb]
        clear hb
        go_wp2_with fail
        refine (end_any rb m r' _ hrd3 (begins_end_len HB.out) hm hg3 hrb).mono ?_
        rintro e w4 ⟨rfl, hrd4, hk4⟩
        have hbl4 : Blank w4 w.heap.size := (hk4.block _ (by omega) (by simp; omega)).trans hbl3
        have htk4 : Blank w4 w1.heap.size := (hk4.block _ (by omega) (by simp; omega)).trans htk3
        have HN4 := nextP_end hne HB.out
        have hlt4 := endP_lt r' hne
        have hkept4 := hkept3.trans hk4
        generalize endP r' = ep at *
        obtain ⟨eb, en, er⟩ := ep
        cases eb with
        | true =>
          have HN5 : Hid (nextP r = some ((2, en, [], []), er)) := by show _ = _; rw [HNX.out, HN4]; rfl
          clear HN4
          have htv : tokOr true (tokV 2 en (.slice none 0 0) []) = .agg #[.int .i64 2, .string ⟨en.toArray⟩, .slice none 0 0, .string ⟨#[]⟩] := rfl
          rw [htv]
          clear htv
          obtain ⟨⟨q0, q1, q2, q3⟩, ⟨f0, f1, f2, f3⟩⟩ := cells4 htk4
          obtain ⟨⟨p0, p1, p2, p3⟩, ⟨g0, g1, g2, g3⟩⟩ := cells4 hbl4
          go_wp2_with fail
          refine bodyPost_ret (v := .tuple #[.agg #[.int .i64 2, .string ⟨en.toArray⟩, .slice none 0 0, .string ⟨#[]⟩], .bool true]) (by simp [results, Tryz.results77, go_sem, p0, p1, p2, p3]) rfl ?_
          rw [HN5.out]
          have hkA := (Kept.refl [w1.heap.size] w4).set4 (k := w1.heap.size) (.inl (by simp)) (.int .i64 2) (.string ⟨en.toArray⟩) (.slice none 0 0) (.string ⟨#[]⟩)
          have hkB := (Kept.refl [w.heap.size] ((((w4.setCell ⟨w1.heap.size, 0, none⟩ (.int .i64 2)).setCell ⟨w1.heap.size, 1, none⟩ (.string ⟨en.toArray⟩)).setCell ⟨w1.heap.size, 2, none⟩ (.slice none 0 0)).setCell ⟨w1.heap.size, 3, none⟩ (.string ⟨#[]⟩))).set4 (k := w.heap.size) (.inl (by simp)) (.int .i64 2) (.string ⟨en.toArray⟩) (.slice none 0 0) (.string ⟨#[]⟩)
          refine ⟨(hkept4.set4 (.inr (by omega)) _ _ _ _).set4 (.inr (Nat.le_refl _)) _ _ _ _, .slice none 0 0, rfl, ?_, (fun k hk => by simp [Value.ownBlock] at hk), (hrd4.kept hkA (by simp; omega)).kept hkB (by simp; omega)⟩
          exact World.ownsRow_nil _ _ _ _
        | false =>
          have HN5 : Hid (nextP r = nextP er) := by show _ = _; rw [HNX.out, HN4]; rfl
          clear HN4
          have htv : tokOr false (tokV 2 en (.slice none 0 0) []) = .agg #[.int .i64 0, .string ⟨#[]⟩, .slice none 0 0, .string ⟨#[]⟩] := rfl
          rw [htv]
          clear htv
          obtain ⟨⟨q0, q1, q2, q3⟩, ⟨f0, f1, f2, f3⟩⟩ := cells4 htk4
          go_wp2_with fail
          go_roundg er.length
          case measure => rw [HG.out]; exact hlt4
          case rel => exact ⟨er, rfl, hrd4.kept ((Kept.refl [w1.heap.size] w4).set4 (.inl (by simp)) _ _ _ _) (by simp; omega), hkept4.set4 (.inr (by omega)) _ _ _ _, Kept.block_blank hbl4 (by omega), HN5.out⟩
      · have HB : Hid (beginsP r' = 1) := hb
        rw [hb]
        clear hb
        go_wp2_with fail
        refine (start_any rb m r' _ hrd3 hne hm hg3 hrb).mono ?_
        rintro e w4 ⟨hk4, hpost⟩
        have hbl4 : Blank w4 w.heap.size := (hk4.block _ (by omega) (by simp; omega)).trans hbl3
        have htk4 : Blank w4 w1.heap.size := (hk4.block _ (by omega) (by simp; omega)).trans htk3
        have HN4 := nextP_start hne HB.out
        have hkept4 := hkept3.trans hk4
        cases hsp : startP r' with
        | none =>
          rw [hsp] at hpost HN4
          obtain ⟨rfl, hrd4⟩ := hpost
          have HN5 : Hid (nextP r = nextP []) := by show _ = _; rw [HNX.out, HN4]; rfl
          clear HN4 hsp
          have htv : tokV 0 [] (.slice none 0 0) [] = .agg #[.int .i64 0, .string ⟨#[]⟩, .slice none 0 0, .string ⟨#[]⟩] := rfl
          rw [htv]
          clear htv
          obtain ⟨⟨q0, q1, q2, q3⟩, ⟨f0, f1, f2, f3⟩⟩ := cells4 htk4
          go_wp2_with fail
          go_roundg 0
          case measure => rw [HG.out]; exact List.length_pos_iff.2 hne
          case rel => exact ⟨[], rfl, hrd4.kept ((Kept.refl [w1.heap.size] w4).set4 (.inl (by simp)) _ _ _ _) (by simp; omega), hkept4.set4 (.inr (by omega)) _ _ _ _, Kept.block_blank hbl4 (by omega), HN5.out⟩
        | some sp =>
          obtain ⟨nm, al, tx, rest⟩ := sp
          rw [hsp] at hpost HN4
          obtain ⟨v, rfl, hown, hfr, hrd4⟩ := hpost
          have HN5 : Hid (nextP r = some ((1, nm, al, tx), rest)) := by show _ = _; rw [HNX.out, HN4]
          clear HN4 hsp
          obtain ⟨va, vc, rfl⟩ := ownsRow_form hown
          have htv : tokV 1 nm (.slice va al.length vc) tx = .agg #[.int .i64 1, .string ⟨nm.toArray⟩, .slice va al.length vc, .string ⟨tx.toArray⟩] := rfl
          rw [htv]
          clear htv
          obtain ⟨⟨q0, q1, q2, q3⟩, ⟨f0, f1, f2, f3⟩⟩ := cells4 htk4
          obtain ⟨⟨p0, p1, p2, p3⟩, ⟨g0, g1, g2, g3⟩⟩ := cells4 hbl4
          go_wp2_with fail
          refine bodyPost_ret (v := .tuple #[.agg #[.int .i64 1, .string ⟨nm.toArray⟩, .slice va al.length vc, .string ⟨tx.toArray⟩], .bool true]) (by simp [results, Tryz.results77, go_sem, p0, p1, p2, p3]) rfl ?_
          rw [HN5.out]
          have hkA := (Kept.refl [w1.heap.size] w4).set4 (k := w1.heap.size) (.inl (by simp)) (.int .i64 1) (.string ⟨nm.toArray⟩) (.slice va al.length vc) (.string ⟨tx.toArray⟩)
          have hkB := (Kept.refl [w.heap.size] ((((w4.setCell ⟨w1.heap.size, 0, none⟩ (.int .i64 1)).setCell ⟨w1.heap.size, 1, none⟩ (.string ⟨nm.toArray⟩)).setCell ⟨w1.heap.size, 2, none⟩ (.slice va al.length vc)).setCell ⟨w1.heap.size, 3, none⟩ (.string ⟨tx.toArray⟩))).set4 (k := w.heap.size) (.inl (by simp)) (.int .i64 1) (.string ⟨nm.toArray⟩) (.slice va al.length vc) (.string ⟨tx.toArray⟩)
          refine ⟨(hkept4.set4 (.inr (by omega)) _ _ _ _).set4 (.inr (Nat.le_refl _)) _ _ _ _, .slice va al.length vc, rfl, ?_, (fun k hk => by have := hfr k hk; have := hkept3.size; omega), (hrd4.kept hkA (by simp; omega)).kept hkB (by simp; omega)⟩
          exact ownsRow_kept (ownsRow_kept hown hkA (fun k hk => by have := hfr k hk; simp; omega)) hkB (fun k hk => by have := hfr k hk; simp; omega)
      · have HB : Hid (beginsP r' = 0) := hb
        rw [hb]
        clear hb
        go_wp2_with fail
        refine (text_any rb m r' _ hrd3 (by omega) hg3 hrb).mono ?_
        rintro e w4 ⟨rfl, hrd4, hk4⟩
        have hbl4 : Blank w4 w.heap.size := (hk4.block _ (by omega) (by simp; omega)).trans hbl3
        have htk4 : Blank w4 w1.heap.size := (hk4.block _ (by omega) (by simp; omega)).trans htk3
        have HN4 := nextP_text hne HB.out
        have hkept4 := hkept3.trans hk4
        generalize signs (textP r').1 = tx at *
        generalize (textP r').2 = rest at *
        have HN5 : Hid (nextP r = some ((0, [], [], tx), rest)) := by show _ = _; rw [HNX.out, HN4]
        clear HN4
        have htv : tokV 0 [] (.slice none 0 0) tx = .agg #[.int .i64 0, .string ⟨#[]⟩, .slice none 0 0, .string ⟨tx.toArray⟩] := rfl
        rw [htv]
        clear htv
        obtain ⟨⟨q0, q1, q2, q3⟩, ⟨f0, f1, f2, f3⟩⟩ := cells4 htk4
        obtain ⟨⟨p0, p1, p2, p3⟩, ⟨g0, g1, g2, g3⟩⟩ := cells4 hbl4
        go_wp2_with fail
        refine bodyPost_ret (v := .tuple #[.agg #[.int .i64 0, .string ⟨#[]⟩, .slice none 0 0, .string ⟨tx.toArray⟩], .bool true]) (by simp [results, Tryz.results77, go_sem, p0, p1, p2, p3]) rfl ?_
        rw [HN5.out]
        have hkA := (Kept.refl [w1.heap.size] w4).set4 (k := w1.heap.size) (.inl (by simp)) (.int .i64 0) (.string ⟨#[]⟩) (.slice none 0 0) (.string ⟨tx.toArray⟩)
        have hkB := (Kept.refl [w.heap.size] ((((w4.setCell ⟨w1.heap.size, 0, none⟩ (.int .i64 0)).setCell ⟨w1.heap.size, 1, none⟩ (.string ⟨#[]⟩)).setCell ⟨w1.heap.size, 2, none⟩ (.slice none 0 0)).setCell ⟨w1.heap.size, 3, none⟩ (.string ⟨tx.toArray⟩))).set4 (k := w.heap.size) (.inl (by simp)) (.int .i64 0) (.string ⟨#[]⟩) (.slice none 0 0) (.string ⟨tx.toArray⟩)
        refine ⟨(hkept4.set4 (.inr (by omega)) _ _ _ _).set4 (.inr (Nat.le_refl _)) _ _ _ _, .slice none 0 0, rfl, ?_, (fun k hk => by simp [Value.ownBlock] at hk), (hrd4.kept hkA (by simp; omega)).kept hkB (by simp; omega)⟩
        exact World.ownsRow_nil _ _ _ _
end Go.Proofs.YtlpmjpmefdpcmaaGreatDoor
