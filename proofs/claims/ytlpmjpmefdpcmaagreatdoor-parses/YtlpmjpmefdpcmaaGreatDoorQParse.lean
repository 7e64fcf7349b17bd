import Derived.Test.YtlpmjpmefdpcmaaGreatDoorQStart
import Derived.Test.YtlpmjpmefdpcmaaGreatDoorQPure5
import Derived.Test.YtlpmjpmefdpcmaaGreatDoorQBegin
namespace Go.Proofs.YtlpmjpmefdpcmaaGreatDoor
open Go.RowKit Scrub Go.Shelf
/-- What the next token leaves. -/
def NextPost (o : Option ((Int × List UInt8 × List (List UInt8 × List UInt8) × List UInt8) × List UInt8)) (rb : Nat) (m : ByteArray) (w : World) (e : Ending) (w' : World) : Prop :=
  Kept [rb] w w' ∧ match o with
  | none => e = .returned (.tuple #[tokV 0 [] (.slice none 0 0) [], .bool false]) ∧ Rd w' rb m []
  | some ((s, nm, al, tx), rest) => ∃ v, e = .returned (.tuple #[tokV s nm v tx, .bool true]) ∧ AOwn w' v al ∧ (∀ k, v.ownBlock = some k → w.heap.size ≤ k) ∧ Rd w' rb m rest
def NextAt (rb : Nat) (m : ByteArray) (w : World) (r : List UInt8) (g : Nat) (wr : World) : Prop :=
  ∃ r', g = r'.length ∧ Rd wr rb m r' ∧ Kept [rb] w wr ∧ Blank wr w.heap.size ∧ nextP r = nextP r'
theorem Kept.block_blank {w : World} {b k : Nat} {v0 v1 v2 v3 : Value} (h : Blank w b) (hb : b ≠ k) : Blank ((((w.setCell ⟨k, 0, none⟩ v0).setCell ⟨k, 1, none⟩ v1).setCell ⟨k, 2, none⟩ v2).setCell ⟨k, 3, none⟩ v3) b := by
  have hk := (Kept.refl [k] w).set4 (k := k) (.inl (by simp)) v0 v1 v2 v3
  have hlt : b < w.heap.size := (Array.getElem?_eq_some_iff.1 h).1
  exact (hk.block b hlt (by simpa using hb)).trans h
set_option maxHeartbeats 4000000 in
theorem next_any (rb : Nat) (m : ByteArray) (r : List UInt8) (w : World) (h : Rd w rb m r) (hm : m.size < 4294967281) (hg : Glob w) (hrb : 1 ∉ [rb] ∧ 0 ∉ [rb]) :
    Calls Tryz.prog 77 #[.pointer (some ⟨rb, 0, none⟩)] w (NextPost (nextP r) rb m w) := by
  have hrs := h.lt
  go_enter Tryz.func77, Tryz.ntmps77
  go_wp2_with fail
  go_loopg [] r.length (fun g wr => NextAt rb m w r g wr)
  case atStart => exact ⟨r, rfl, h.kept ((Kept.refl [] _).alloc _) (by simp), (Kept.refl _ _).alloc _, heap_alloc_new w _, rfl⟩
  case round =>
    obtain ⟨r', hgk, hrd, hkept, hbl, hnx⟩ := hrel
    have HG : Hid (gk = r'.length) := hgk
    have HNX : Hid (nextP r = nextP r') := hnx
    have hlt0 : w.heap.size < wr.heap.size := (Array.getElem?_eq_some_iff.1 hbl).1
    clear hgk hnx h
    go_wp2_with fail
    refine (done_any rb m r' _ hrd).mono ?_
    rintro e w1 ⟨rfl, n1, hw1⟩
    have hrd1 : Rd w1 rb m r' := by rw [hw1]; exact hrd.drewN n1
    have hkept1 : Kept [rb] w w1 := by rw [hw1]; exact hkept.drewN n1
    have hbl1 : Blank w1 w.heap.size := by rw [hw1]; exact hbl
    have hlt1 : w.heap.size < w1.heap.size := (Array.getElem?_eq_some_iff.1 hbl1).1
    clear hw1 hrd hkept hbl hlt0
    cases hr' : r'.isEmpty with
    | true =>
      have hnil : r' = [] := by simpa using hr'
      obtain ⟨⟨q0, q1, q2, q3⟩, ⟨f0, f1, f2, f3⟩⟩ := cells4 hbl1
      have HN : Hid (nextP r = none) := by show _ = _; rw [HNX.out, hnil]; rfl
      have HNIL : Hid (r' = []) := hnil
      clear hnil
      go_wp2_with fail
      refine bodyPost_ret (v := .tuple #[.agg #[.int .i64 0, .string ⟨#[]⟩, .slice none 0 0, .string ⟨#[]⟩], .bool false]) (by simp [results, Tryz.results77, go_sem, q0, q1, q2, q3]) rfl ?_
      rw [HN.out]
      refine ⟨hkept1.set4 (.inr (Nat.le_refl _)) _ _ _ _, rfl, ?_⟩
      have := Rd.kept (S := [w.heap.size]) hrd1 ((Kept.refl _ _).set4 (k := w.heap.size) (by simp) (.int .i64 0) (.string ⟨#[]⟩) (.slice none 0 0) (.string ⟨#[]⟩)) (by simp; omega)
      rw [HNIL.out] at this
      exact this
    | false =>
      have hne : r' ≠ [] := by intro e; rw [e] at hr'; simp at hr'
      go_wp2_with fail
      have hk2 : Kept [rb] w1 (w1.alloc (.cells #[.int .i64 0, .string ⟨#[]⟩, .slice none 0 0, .string ⟨#[]⟩] 108)) := (Kept.refl _ _).alloc _
      have hrd2 := hrd1.kept ((Kept.refl [] w1).alloc (.cells #[.int .i64 0, .string ⟨#[]⟩, .slice none 0 0, .string ⟨#[]⟩] 108)) (by simp)
      refine (begins_any rb m r' _ hrd2 hne).mono ?_
      rintro e w3 ⟨rfl, n3, hw3⟩
      have hrd3 : Rd w3 rb m r' := by rw [hw3]; exact hrd2.drewN n3
      have hkept3 : Kept [rb] w w3 := by rw [hw3]; exact (hkept1.trans hk2).drewN n3
      have hbl3 : Blank w3 w.heap.size := by rw [hw3]; exact (Below.heap_alloc _ _ _ hlt1).trans hbl1
      have htk3 : Blank w3 w1.heap.size := by rw [hw3]; exact heap_alloc_new w1 _
      have hlt3 : w1.heap.size < w3.heap.size := (Array.getElem?_eq_some_iff.1 htk3).1
      have hg3 : Glob w3 := hg.kept hkept3 hrb.1 hrb.2
      clear hw3 hk2 hrd2 hrd1 hkept1 hbl1
      have hfar1 : ¬ w.heap.size = w1.heap.size := by omega
      have hfar2 : ¬ w1.heap.size = w.heap.size := by omega
      rcases beginsP_cases r' with hb | hb | hb | hb
      · have HB : Hid (beginsP r' = -1) := hb
        rw [hb]
        clear hb
        go_wp2_with fail
        refine (passComment_any rb m r' _ hrd3 (begins_comment_len HB.out) hm hg3 hrb).mono ?_
        rintro e w4 ⟨rfl, hrd4, hk4⟩
        have hbl4 : Blank w4 w.heap.size := (hk4.block _ (by omega) (by simp; omega)).trans hbl3
        have HN4 := nextP_comment hne HB.out
        have hlt4 := comment_lt r' hne
        generalize (Lib.cut (r'.drop 4) [45, 45, 62]).2.1 = r4 at *
        have HN5 : Hid (nextP r = nextP r4) := by show _ = _; rw [HNX.out, HN4]
        clear HN4
        go_wp2_with fail
        go_roundg r4.length
        case measure => rw [HG.out]; omega
        case rel => exact ⟨r4, rfl, hrd4, hkept3.trans hk4, hbl4, HN5.out⟩
      · have HB : Hid (beginsP r' = 2) := hb
        rw [hb]
        clear hb
        go_wp2_with fail
        refine (end_any rb m r' _ hrd3 (begins_end_len HB.out) hm hg3 hrb).mono ?_
        rintro e w4 ⟨rfl, hrd4, hk4⟩
        have hbl4 : Blank w4 w.heap.size := (hk4.block _ (by omega) (by simp; omega)).trans hbl3
        have htk4 : Blank w4 w1.heap.size := (hk4.block _ (by omega) (by simp; omega)).trans htk3
        have HN4 := nextP_end hne HB.out
        have hlt4 := endP_lt r' hne
        have hkept4 := hkept3.trans hk4
        generalize endP r' = ep at *
        obtain ⟨eb, en, er⟩ := ep
        cases eb with
        | true =>
          have HN5 : Hid (nextP r = some ((2, en, [], []), er)) := by show _ = _; rw [HNX.out, HN4]; rfl
          clear HN4
          have htv : tokOr true (tokV 2 en (.slice none 0 0) []) = .agg #[.int .i64 2, .string ⟨en.toArray⟩, .slice none 0 0, .string ⟨#[]⟩] := rfl
          rw [htv]
          clear htv
          obtain ⟨⟨q0, q1, q2, q3⟩, ⟨f0, f1, f2, f3⟩⟩ := cells4 htk4
          obtain ⟨⟨p0, p1, p2, p3⟩, ⟨g0, g1, g2, g3⟩⟩ := cells4 hbl4
          go_wp2_with fail
          refine bodyPost_ret (v := .tuple #[.agg #[.int .i64 2, .string ⟨en.toArray⟩, .slice none 0 0, .string ⟨#[]⟩], .bool true]) (by simp [results, Tryz.results77, go_sem, p0, p1, p2, p3]) rfl ?_
          rw [HN5.out]
          have hkA := (Kept.refl [w1.heap.size] w4).set4 (k := w1.heap.size) (.inl (by simp)) (.int .i64 2) (.string ⟨en.toArray⟩) (.slice none 0 0) (.string ⟨#[]⟩)
          have hkB := (Kept.refl [w.heap.size] ((((w4.setCell ⟨w1.heap.size, 0, none⟩ (.int .i64 2)).setCell ⟨w1.heap.size, 1, none⟩ (.string ⟨en.toArray⟩)).setCell ⟨w1.heap.size, 2, none⟩ (.slice none 0 0)).setCell ⟨w1.heap.size, 3, none⟩ (.string ⟨#[]⟩))).set4 (k := w.heap.size) (.inl (by simp)) (.int .i64 2) (.string ⟨en.toArray⟩) (.slice none 0 0) (.string ⟨#[]⟩)
          refine ⟨(hkept4.set4 (.inr (by omega)) _ _ _ _).set4 (.inr (Nat.le_refl _)) _ _ _ _, .slice none 0 0, rfl, ?_, (fun k hk => by simp [Value.ownBlock] at hk), (hrd4.kept hkA (by simp; omega)).kept hkB (by simp; omega)⟩
          exact World.ownsRow_nil _ _ _ _
        | false =>
          have HN5 : Hid (nextP r = nextP er) := by show _ = _; rw [HNX.out, HN4]; rfl
          clear HN4
          have htv : tokOr false (tokV 2 en (.slice none 0 0) []) = .agg #[.int .i64 0, .string ⟨#[]⟩, .slice none 0 0, .string ⟨#[]⟩] := rfl
          rw [htv]
          clear htv
          obtain ⟨⟨q0, q1, q2, q3⟩, ⟨f0, f1, f2, f3⟩⟩ := cells4 htk4
          go_wp2_with fail
          go_roundg er.length
          case measure => rw [HG.out]; exact hlt4
          case rel => exact ⟨er, rfl, hrd4.kept ((Kept.refl [w1.heap.size] w4).set4 (.inl (by simp)) _ _ _ _) (by simp; omega), hkept4.set4 (.inr (by omega)) _ _ _ _, Kept.block_blank hbl4 (by omega), HN5.out⟩
      · have HB : Hid (beginsP r' = 1) := hb
        rw [hb]
        clear hb
        go_wp2_with fail
        refine (start_any rb m r' _ hrd3 hne hm hg3 hrb).mono ?_
        rintro e w4 ⟨hk4, hpost⟩
        have hbl4 : Blank w4 w.heap.size := (hk4.block _ (by omega) (by simp; omega)).trans hbl3
        have htk4 : Blank w4 w1.heap.size := (hk4.block _ (by omega) (by simp; omega)).trans htk3
        have HN4 := nextP_start hne HB.out
        have hkept4 := hkept3.trans hk4
        cases hsp : startP r' with
        | none =>
          rw [hsp] at hpost HN4
          obtain ⟨rfl, hrd4⟩ := hpost
          have HN5 : Hid (nextP r = nextP []) := by show _ = _; rw [HNX.out, HN4]; rfl
          clear HN4 hsp
          have htv : tokV 0 [] (.slice none 0 0) [] = .agg #[.int .i64 0, .string ⟨#[]⟩, .slice none 0 0, .string ⟨#[]⟩] := rfl
          rw [htv]
          clear htv
          obtain ⟨⟨q0, q1, q2, q3⟩, ⟨f0, f1, f2, f3⟩⟩ := cells4 htk4
          go_wp2_with fail
          go_roundg 0
          case measure => rw [HG.out]; exact List.length_pos_iff.2 hne
          case rel => exact ⟨[], rfl, hrd4.kept ((Kept.refl [w1.heap.size] w4).set4 (.inl (by simp)) _ _ _ _) (by simp; omega), hkept4.set4 (.inr (by omega)) _ _ _ _, Kept.block_blank hbl4 (by omega), HN5.out⟩
        | some sp =>
          obtain ⟨nm, al, tx, rest⟩ := sp
          rw [hsp] at hpost HN4
          obtain ⟨v, rfl, hown, hfr, hrd4⟩ := hpost
          have HN5 : Hid (nextP r = some ((1, nm, al, tx), rest)) := by show _ = _; rw [HNX.out, HN4]
          clear HN4 hsp
          obtain ⟨va, vc, rfl⟩ := ownsRow_form hown
          have htv : tokV 1 nm (.slice va al.length vc) tx = .agg #[.int .i64 1, .string ⟨nm.toArray⟩, .slice va al.length vc, .string ⟨tx.toArray⟩] := rfl
          rw [htv]
          clear htv
          obtain ⟨⟨q0, q1, q2, q3⟩, ⟨f0, f1, f2, f3⟩⟩ := cells4 htk4
          obtain ⟨⟨p0, p1, p2, p3⟩, ⟨g0, g1, g2, g3⟩⟩ := cells4 hbl4
          go_wp2_with fail
          refine bodyPost_ret (v := .tuple #[.agg #[.int .i64 1, .string ⟨nm.toArray⟩, .slice va al.length vc, .string ⟨tx.toArray⟩], .bool true]) (by simp [results, Tryz.results77, go_sem, p0, p1, p2, p3]) rfl ?_
          rw [HN5.out]
          have hkA := (Kept.refl [w1.heap.size] w4).set4 (k := w1.heap.size) (.inl (by simp)) (.int .i64 1) (.string ⟨nm.toArray⟩) (.slice va al.length vc) (.string ⟨tx.toArray⟩)
          have hkB := (Kept.refl [w.heap.size] ((((w4.setCell ⟨w1.heap.size, 0, none⟩ (.int .i64 1)).setCell ⟨w1.heap.size, 1, none⟩ (.string ⟨nm.toArray⟩)).setCell ⟨w1.heap.size, 2, none⟩ (.slice va al.length vc)).setCell ⟨w1.heap.size, 3, none⟩ (.string ⟨tx.toArray⟩))).set4 (k := w.heap.size) (.inl (by simp)) (.int .i64 1) (.string ⟨nm.toArray⟩) (.slice va al.length vc) (.string ⟨tx.toArray⟩)
          refine ⟨(hkept4.set4 (.inr (by omega)) _ _ _ _).set4 (.inr (Nat.le_refl _)) _ _ _ _, .slice va al.length vc, rfl, ?_, (fun k hk => by have := hfr k hk; have := hkept3.size; omega), (hrd4.kept hkA (by simp; omega)).kept hkB (by simp; omega)⟩
          exact ownsRow_kept (ownsRow_kept hown hkA (fun k hk => by have := hfr k hk; simp; omega)) hkB (fun k hk => by have := hfr k hk; simp; omega)
      · have HB : Hid (beginsP r' = 0) := hb
        rw [hb]
        clear hb
        go_wp2_with fail
        refine (text_any rb m r' _ hrd3 (by omega) hg3 hrb).mono ?_
        rintro e w4 ⟨rfl, hrd4, hk4⟩
        have hbl4 : Blank w4 w.heap.size := (hk4.block _ (by omega) (by simp; omega)).trans hbl3
        have htk4 : Blank w4 w1.heap.size := (hk4.block _ (by omega) (by simp; omega)).trans htk3
        have HN4 := nextP_text hne HB.out
        have hkept4 := hkept3.trans hk4
        generalize signs (textP r').1 = tx at *
        generalize (textP r').2 = rest at *
        have HN5 : Hid (nextP r = some ((0, [], [], tx), rest)) := by show _ = _; rw [HNX.out, HN4]
        clear HN4
        have htv : tokV 0 [] (.slice none 0 0) tx = .agg #[.int .i64 0, .string ⟨#[]⟩, .slice none 0 0, .string ⟨tx.toArray⟩] := rfl
        rw [htv]
        clear htv
        obtain ⟨⟨q0, q1, q2, q3⟩, ⟨f0, f1, f2, f3⟩⟩ := cells4 htk4
        obtain ⟨⟨p0, p1, p2, p3⟩, ⟨g0, g1, g2, g3⟩⟩ := cells4 hbl4
        go_wp2_with fail
        refine bodyPost_ret (v := .tuple #[.agg #[.int .i64 0, .string ⟨#[]⟩, .slice none 0 0, .string ⟨tx.toArray⟩], .bool true]) (by simp [results, Tryz.results77, go_sem, p0, p1, p2, p3]) rfl ?_
        rw [HN5.out]
        have hkA := (Kept.refl [w1.heap.size] w4).set4 (k := w1.heap.size) (.inl (by simp)) (.int .i64 0) (.string ⟨#[]⟩) (.slice none 0 0) (.string ⟨tx.toArray⟩)
        have hkB := (Kept.refl [w.heap.size] ((((w4.setCell ⟨w1.heap.size, 0, none⟩ (.int .i64 0)).setCell ⟨w1.heap.size, 1, none⟩ (.string ⟨#[]⟩)).setCell ⟨w1.heap.size, 2, none⟩ (.slice none 0 0)).setCell ⟨w1.heap.size, 3, none⟩ (.string ⟨tx.toArray⟩))).set4 (k := w.heap.size) (.inl (by simp)) (.int .i64 0) (.string ⟨#[]⟩) (.slice none 0 0) (.string ⟨tx.toArray⟩)
        refine ⟨(hkept4.set4 (.inr (by omega)) _ _ _ _).set4 (.inr (Nat.le_refl _)) _ _ _ _, .slice none 0 0, rfl, ?_, (fun k hk => by simp [Value.ownBlock] at hk), (hrd4.kept hkA (by simp; omega)).kept hkB (by simp; omega)⟩
        exact World.ownsRow_nil _ _ _ _
end Go.Proofs.YtlpmjpmefdpcmaaGreatDoor
namespace Go.Proofs.YtlpmjpmefdpcmaaGreatDoor
open Go.RowKit Scrub Go.Shelf
/-- One token more. -/
def stepT (o : List Ev × List (List UInt8)) (s : Int) (nm : List UInt8) (al : List (List UInt8 × List UInt8)) (tx : List UInt8) : List Ev × List (List UInt8) :=
  if s = 0 then (addText (openP o.1 o.2).1 tx, (openP o.1 o.2).2) else if s = 1 then startT o.1 o.2 nm al tx else endE o.1 o.2 nm
def readF : Nat → List UInt8 → List Ev × List (List UInt8) → List Ev × List (List UInt8)
  | 0, _, o => o
  | f + 1, r, o => match nextP r with
    | none => o
    | some ((s, nm, al, tx), rest) => readF f rest (stepT o s nm al tx)
/-- What is read from here on. -/
def readFrom (r : List UInt8) (o : List Ev × List (List UInt8)) : List Ev × List (List UInt8) := readF (r.length + 1) r o
theorem readF_more : ∀ (n m : Nat) (r : List UInt8) (o : List Ev × List (List UInt8)), r.length < n → r.length < m → readF n r o = readF m r o
  | 0, _, _, _, h, _ => by omega
  | _ + 1, 0, _, _, _, h => by omega
  | n + 1, m + 1, r, o, hn, hm => by
    unfold readF
    split
    · rfl
    · rename_i s nm al tx rest hx
      have := (nextP_ok hx).lt
      exact readF_more n m _ _ (by omega) (by omega)
theorem readFrom_none {r : List UInt8} (h : nextP r = none) (o : List Ev × List (List UInt8)) : readFrom r o = o := by
  unfold readFrom readF
  rw [h]
theorem readFrom_some {r : List UInt8} {s : Int} {nm : List UInt8} {al : List (List UInt8 × List UInt8)} {tx rest : List UInt8} (h : nextP r = some ((s, nm, al, tx), rest)) (o : List Ev × List (List UInt8)) : readFrom r o = readFrom rest (stepT o s nm al tx) := by
  have hl := (nextP_ok h).lt
  have e : readFrom r o = readF r.length rest (stepT o s nm al tx) := by
    show readF (r.length + 1) r o = _
    rw [readF, h]
  rw [e]
  exact readF_more _ _ _ _ hl (by omega)
/-- The tree that is read in the markup. -/
def readP (r : List UInt8) : List Ev := closeE (readFrom r ([], [])).1 (readFrom r ([], [])).2 0
theorem fits_step {o : List Ev × List (List UInt8)} (h : o.2.length ≤ 12) (s : Int) (nm : List UInt8) (al : List (List UInt8 × List UInt8)) (tx : List UInt8) : FitsT o.1 (stepT o s nm al tx) 66 tx.length := by
  unfold stepT
  split
  · exact (fits_text h tx).mono (by omega)
  · split
    · exact fits_start h nm al tx
    · exact (fits_end h nm).toT (by omega) _
set_option maxHeartbeats 400000 in
theorem newReader_any (m : ByteArray) (w : World) :
    Calls Tryz.prog 76 #[.string m] w fun e w' => e = .returned (.pointer (some ⟨w.heap.size, 0, none⟩)) ∧ Rd w' w.heap.size m m.data.toList ∧ Kept [] w w' := by
  go_enter Tryz.func76, Tryz.ntmps76
  go_wp2_with fail
  go_ret
  refine ⟨rfl, ⟨0, ⟨⟨_, heap_alloc_new w _⟩, by omega⟩, rfl⟩, (Kept.refl _ _).alloc _⟩
/-- Between two tokens: what has been built; the token that was read last, in its box. -/
def RInv (w : World) (m : ByteArray) (bb rb : Nat) (g : Nat) (v5 v6 : Value) (wr : World) : Prop :=
  ∃ (r : List UInt8) (F : List Nat) (E : List Ev) (st : List (List UInt8)) (tb : Nat),
    g = r.length ∧ v5 = .pointer (some ⟨tb, 0, none⟩) ∧ Bld wr bb F E st ∧ rb ∉ F ∧ Kept [] w wr ∧ Grow [] w F ∧ w.heap.size ≤ rb ∧
    (st.length ≤ 12 ∧ E.length + 100 * r.length ≤ 100 * m.size ∧ evSize E + r.length ≤ m.size ∧ readFrom m.data.toList ([], []) = readFrom r (E, st)) ∧
    match nextP r with
    | none => v6 = .bool false
    | some ((s, nm, al, tx), rest) => v6 = .bool true ∧ ∃ av, TokB wr tb F s nm av al tx ∧ Rd wr rb m rest ∧ tb ≠ rb ∧ w.heap.size ≤ tb ∧ (∀ k, av.ownBlock = some k → w.heap.size ≤ k ∧ k ≠ rb)
/-- What the next token's parts are, in w'. -/
def NForm (o : Option ((Int × List UInt8 × List (List UInt8 × List UInt8) × List UInt8) × List UInt8)) (rb : Nat) (m : ByteArray) (z : Nat) (w' : World) (s : Int) (nm : List UInt8) (va : Option Addr) (n vc : Nat) (tx : List UInt8) (b : Bool) : Prop :=
  match o with
  | none => b = false
  | some ((s', nm', al, tx'), rest) => b = true ∧ s = s' ∧ nm = nm' ∧ tx = tx' ∧ AOwn w' (.slice va n vc) al ∧ (∀ k, (Value.slice va n vc).ownBlock = some k → z ≤ k) ∧ Rd w' rb m rest
theorem NForm.kept {o : Option ((Int × List UInt8 × List (List UInt8 × List UInt8) × List UInt8) × List UInt8)} {rb : Nat} {m : ByteArray} {z z' : Nat} {w' W : World} {s : Int} {nm : List UInt8} {va : Option Addr} {n vc : Nat} {tx : List UInt8} {b : Bool} {S : List Nat} (h : NForm o rb m z w' s nm va n vc tx b) (hk : Kept S w' W) (hz : z' ≤ z) (hrb : rb ∉ S) (hS : ∀ k, k ∈ S → k < z ∨ w'.heap.size ≤ k) : NForm o rb m z' W s nm va n vc tx b := by
  cases o with
  | none => exact h
  | some x =>
    obtain ⟨⟨s', nm', al, tx'⟩, rest⟩ := x
    obtain ⟨h1, h2, h3, h4, h5, h6, h7⟩ := h
    refine ⟨h1, h2, h3, h4, ownsRow_kept h5 hk (fun k hk' hc => ?_), fun k hk' => Nat.le_trans hz (h6 k hk'), h7.kept hk hrb⟩
    rcases hS k hc with h | h
    · have := h6 k hk'; omega
    · have := (h5.lt k hk').2; omega
theorem NextPost.form {o : Option ((Int × List UInt8 × List (List UInt8 × List UInt8) × List UInt8) × List UInt8)} {rb : Nat} {m : ByteArray} {w w' : World} {e : Ending} (h : NextPost o rb m w e w') :
    ∃ (s : Int) (nm : List UInt8) (va : Option Addr) (n vc : Nat) (tx : List UInt8) (b : Bool), e = .returned (.tuple #[.agg #[.int .i64 s, .string ⟨nm.toArray⟩, .slice va n vc, .string ⟨tx.toArray⟩], .bool b]) ∧ Kept [rb] w w' ∧ NForm o rb m w.heap.size w' s nm va n vc tx b := by
  obtain ⟨hk, h⟩ := h
  cases o with
  | none =>
    obtain ⟨rfl, h2⟩ := h
    exact ⟨0, [], none, 0, 0, [], false, rfl, hk, rfl⟩
  | some x =>
    obtain ⟨⟨s, nm, al, tx⟩, rest⟩ := x
    obtain ⟨v, rfl, h1, h2, h3⟩ := h
    obtain ⟨va, vc, rfl⟩ := ownsRow_form h1
    exact ⟨s, nm, va, al.length, vc, tx, true, rfl, hk, rfl, rfl, rfl, rfl, h1, h2, h3⟩
theorem rinv_make {w : World} {m : ByteArray} {bb rb : Nat} {r : List UInt8} {F : List Nat} {E : List Ev} {st : List (List UInt8)} {w3 W : World} {tb' : Nat} {s : Int} {nm : List UInt8} {va : Option Addr} {n vc : Nat} {tx : List UInt8} {b : Bool}
    (hb : Bld w3 bb F E st) (hrbF : rb ∉ F) (hK : Kept [] w w3) (hG : Grow [] w F) (hrw : w.heap.size ≤ rb) (hrb3 : rb < w3.heap.size)
    (hbnd : st.length ≤ 12 ∧ E.length + 100 * r.length ≤ 100 * m.size ∧ evSize E + r.length ≤ m.size ∧ readFrom m.data.toList ([], []) = readFrom r (E, st))
    (hkW : Kept [rb] w3 W) (htb : w3.heap.size ≤ tb') (hbox : W.heap[tb']? = some (.cells #[.int .i64 s, .string ⟨nm.toArray⟩, .slice va n vc, .string ⟨tx.toArray⟩] 108 (0, 0)))
    (hp : NForm (nextP r) rb m w3.heap.size W s nm va n vc tx b) :
    RInv w m bb rb r.length (.pointer (some ⟨tb', 0, none⟩)) (.bool b) W := by
  have hFlt : ∀ k, k ∈ F → k < w3.heap.size := by
    obtain ⟨tv, ov, ts, os, hb', _⟩ := hb
    exact hb'.2.2.2.2.2.2
  refine ⟨r, F, E, st, tb', rfl, rfl, hb.kept hkW (fun k hk hc => by simp at hc; exact hrbF (hc ▸ hk)), hrbF, hK.trans_new hkW (fun i hi => .inr (by simp at hi; omega)), hG, hrw, hbnd, ?_⟩
  have hz := hK.size
  cases hn : nextP r with
  | none =>
    rw [hn] at hp
    have hp' : b = false := hp
    simp only
    rw [hp']
  | some x =>
    obtain ⟨⟨s', nm', al, tx'⟩, rest⟩ := x
    rw [hn] at hp
    simp only
    obtain ⟨rfl, rfl, rfl, rfl, h1, h2, h3⟩ := hp
    refine ⟨rfl, .slice va n vc, ⟨hbox, fun hc => by have := hFlt _ hc; omega, h1, fun k hk hc => by have := hFlt _ hc; have := h2 k hk; omega⟩, h3, by omega, by omega, fun k hk => by have := h2 k hk; omega⟩
theorem BPost.wide {bb : Nat} {F X : List Nat} {w w' : World} {E' : List Ev} {st' : List (List UInt8)} (h : BPost bb F w E' st' w') : BPost bb (F ++ X) w E' st' w' := by
  obtain ⟨F', h1, h2, h3⟩ := h
  refine ⟨F', h1, h2.mono (fun i hi => List.mem_append.2 (.inl hi)), fun k hk => ?_⟩
  rcases h3 k hk with h | h
  · exact .inl (List.mem_append.2 (.inl h))
  · exact .inr h
theorem TokB.far {w : World} {tb : Nat} {F : List Nat} {s : Int} {nm : List UInt8} {av : Value} {al : List (List UInt8 × List UInt8)} {tx : List UInt8} (h : TokB w tb F s nm av al tx) : av.ownBlock ≠ some tb := by
  intro hc
  obtain ⟨h1, _, h3, _⟩ := h
  rcases h3.2 with ⟨hv, _⟩ | ⟨g, cap, cur, hv, _, hgg, _⟩
  · rw [hv] at hc
    simp [Value.ownBlock] at hc
  · rw [hv] at hc
    simp [Value.ownBlock] at hc
    subst hc
    rw [h1] at hgg
    simp at hgg
theorem set4_at {w : World} {b : Nat} {a0 a1 a2 a3 : Value} {t : TypeId} (h : w.heap[b]? = some (.cells #[a0, a1, a2, a3] t (0, 0))) (v0 v1 v2 v3 : Value) :
    ((((w.setCell ⟨b, 0, none⟩ v0).setCell ⟨b, 1, none⟩ v1).setCell ⟨b, 2, none⟩ v2).setCell ⟨b, 3, none⟩ v3).heap[b]? = some (.cells #[v0, v1, v2, v3] t (0, 0)) := by
  simp [World.setCell, Array.getElem?_modify, h]
/-- What the loop leaves as it ends. -/
theorem read_fin {w wr w6 : World} {bb : Nat} {F F6 : List Nat} {E : List Ev} {st : List (List UInt8)} (hK : Kept [] w wr) (hG : Grow [] w F) (hb6 : Bld w6 bb F6 (E ++ List.replicate (st.length - 0) none) (st.take 0)) (hk6 : Kept F wr w6) (hg6 : Grow F wr F6) :
    ∃ tv, w6.cell? ⟨bb, 0, none⟩ = some tv ∧ ∃ fp, Tree w6 tv (closeE E st 0) fp ∧ fp.Nodup ∧ (∀ k ∈ fp, w.heap.size ≤ k ∧ k < w6.heap.size) ∧ Kept [] w w6 := by
  obtain ⟨tv, ov, ts, os, hb, hE, hS⟩ := hb6
  have h0 : os = [] := by
    have := congrArg List.length hS
    simp at this
    exact List.eq_nil_of_length_eq_zero (by omega)
  subst h0
  have hE' : closeE E st 0 = evsOf ts := by
    have : closeE E st 0 = outOf ts [] := hE
    rw [this]
    simp [outOf]
  refine ⟨tv, hb.cells.1, tv.ownBlock.toList ++ fpOf ts, ?_, ?_, ?_, ?_⟩
  · rw [hE']
    exact Tree.mk hb.2.1.1 hb.2.1.2
  · have h7 := hb.2.2.2.2.1
    rw [List.nodup_cons] at h7
    refine List.Sublist.nodup ?_ h7.2
    have : List.Sublist (tv.ownBlock.toList ++ fpOf ts) (tv.ownBlock.toList ++ ov.ownBlock.toList ++ fpOf ts) := by
      rw [List.append_assoc]
      exact List.Sublist.append (List.Sublist.refl _) (List.sublist_append_right _ _)
    exact this.trans (List.sublist_append_left _ _)
  · intro k hk
    have hkF : k ∈ F6 := (hb.mem k).2 (by
      rcases List.mem_append.1 hk with h | h
      · exact .inr (.inl h)
      · exact .inr (.inr (.inr (.inl h))))
    refine ⟨?_, hb.2.2.2.2.2.2 k hkF⟩
    rcases hg6 k hkF with h | h
    · rcases hG k h with h | h
      · simp at h
      · exact h
    · exact Nat.le_trans hK.size h
  · refine hK.trans_new hk6 (fun i hi => ?_)
    rcases hG i hi with h | h
    · simp at h
    · exact .inr h
set_option maxHeartbeats 8000000 in
theorem read_any (m : ByteArray) (w : World) (hm : m.size < 4294967281) (hg : Glob w) :
    Calls Tryz.prog 53 #[.string m] w
      fun e w' => ∃ v fp, e = .returned v ∧ Tree w' v (readP m.data.toList) fp ∧ fp.Nodup ∧ (∀ k ∈ fp, w.heap.size ≤ k ∧ k < w'.heap.size) ∧ Kept [] w w' := by
  have hgl := hg.lt
  have hk0 : Kept [] w (w.alloc (.cells #[.slice none 0 0, .slice none 0 0] 103)) := (Kept.refl [] _).alloc _
  have hb0 : BAt (w.alloc (.cells #[.slice none 0 0, .slice none 0 0] 103)) w.heap.size (.slice none 0 0) (.slice none 0 0) [] [] [w.heap.size] := by
    refine ⟨⟨_, heap_alloc_new w _⟩, ⟨World.ownsRow_nil _ _ _ _, by simp⟩, ⟨World.ownsRow_nil _ _ _ _, by simp⟩, by simp [fpOf, Value.ownBlock], by simp [fpOf, Value.ownBlock], by simp, ?_⟩
    intro k hk
    simp at hk
    simp [hk]
  go_enter Tryz.func53, Tryz.ntmps53
  go_wp2_with fail
  refine (newReader_any m _).mono ?_
  rintro e w1 ⟨rfl, hrd1, hk1⟩
  have hb1 : Bld w1 w.heap.size [w.heap.size] [] [] := ⟨_, _, [], [], hb0.kept hk1 (by simp), rfl, rfl⟩
  have hK1 := hk0.trans hk1
  generalize hrb : (w.alloc (.cells #[.slice none 0 0, .slice none 0 0] 103)).heap.size = rb at *
  have hrbv : w.heap.size < rb := by rw [← hrb]; simp
  have hrb1 := hrd1.lt
  clear hb0 hk0 hk1 hrb
  go_wp2_with fail
  refine (next_any rb m _ w1 hrd1 hm (hg.kept hK1 (by simp) (by simp)) (by simp; omega)).mono ?_
  rintro e w2 hnp
  obtain ⟨s, nm, va, n, vc, tx, b, rfl, hk2, hnp⟩ := hnp.form
  go_wp2_with fail
  generalize hbb : w.heap.size = bb at hb1
  go_loopg [5, 6] m.data.toList.length (fun g v5 v6 wr => RInv w m bb rb g v5 v6 wr)
  case atStart =>
    refine rinv_make (F := [bb]) hb1 (by simp; omega) hK1 (fun k hk => by simp at hk; exact .inr (by omega)) (by omega) hrb1 ⟨by simp, by simp, by simp [evSize], rfl⟩ (hk2.alloc _) hk2.size (heap_alloc_new w2 _) ?_
    exact hnp.kept ((Kept.refl [] w2).alloc _) (Nat.le_refl _) (by simp) (by simp)
  case round =>
    clear hb1 hK1 hrd1 hrb1 hk2 hnp
    obtain ⟨r, F, E, st, tb, hgk, rfl, hbld, hrbF, hK, hG, hrw, hbnd, hrest⟩ := hrel
    have HGK : Hid (gk = r.length) := hgk
    have HB : Hid _ := hbnd
    clear hgk hbnd
    cases hn : nextP r with
    | none =>
      rw [hn] at hrest
      have hv : u6 = .bool false := hrest
      subst hv
      have HNX : Hid (nextP r = none) := hn
      clear hn hrest
      go_wp2_with fail
      refine (closeFrom_any bb 0 F E st _ hbld (by omega) HB.out.1 (by have := HB.out.2.1; omega)).mono ?_
      rintro e w6 ⟨rfl, F6, hb6, hk6, hg6⟩
      obtain ⟨tv, c0, fp, hfin⟩ := read_fin hK hG hb6 hk6 hg6
      obtain ⟨ta, tn, tc, rfl⟩ : ∃ ta tn tc, tv = .slice ta tn tc := by
        obtain ⟨ns, h1, _⟩ := hfin.1.open
        obtain ⟨a, c, h2⟩ := ownsRow_form h1
        exact ⟨a, _, c, h2⟩
      go_wp2_with fail
      go_ret
      refine ⟨_, fp, rfl, ?_⟩
      have hr : readP m.data.toList = closeE E st 0 := by rw [readP, HB.out.2.2.2, readFrom_none HNX.out]
      rw [hr]
      exact hfin
    | some x =>
      obtain ⟨⟨s, nm, al, tx⟩, rest⟩ := x
      rw [hn] at hrest
      obtain ⟨hv, av, htok, hrd, htr, htw, hav⟩ := hrest
      subst hv
      have HNX : Hid (nextP r = some ((s, nm, al, tx), rest)) := hn
      have HOK : Hid (TokOk r s nm al tx rest) := nextP_ok hn
      clear hn
      obtain ⟨va, n, vc, rfl⟩ : ∃ va n vc, av = .slice va n vc := by
        obtain ⟨a, c, h2⟩ := ownsRow_form htok.2.2.1
        exact ⟨a, _, c, h2⟩
      obtain ⟨⟨q0, q1, q2, q3⟩, _⟩ := cells4 htok.1
      have hrbwr := hrd.lt
      have htbav : (Value.slice va n vc).ownBlock ≠ some tb := htok.far
      rcases HOK.out.kind with ⟨hs, hnm, hal, htx⟩ | ⟨hs, hnm⟩ | ⟨hs, hnm, hal, htx⟩
      · subst hs
        have HTX : Hid (tx ≠ []) := htx
        have HST : Hid (∀ bb F w w', BPost bb F w (addText (openP E st).1 tx) (openP E st).2 w' → BPost bb F w (stepT (E, st) 0 nm al tx).1 (stepT (E, st) 0 nm al tx).2 w') := fun _ _ _ _ h => h
        clear hnm hal htx
        have hop := fits_open (E := E) HB.out.1
        have htsz : (⟨tx.toArray⟩ : ByteArray).size = tx.length := by simp [ByteArray.size]
        have htt := textB_any bb F E st ⟨tx.toArray⟩ wr hbld (by simpa using HTX.out) HB.out.1 (by have := HB.out.2.1; omega) hop.1 (by have := hop.2.1; have := HB.out.2.1; omega) (by rw [hop.2.2, htsz]; have := HB.out.2.2.1; have := HOK.out.len; omega)
        have hks : (({ data := tx.toArray } : ByteArray).data.toList) = tx := by simp
        rw [hks] at htt
        have HTT : Hid _ := htt
        clear htt hks hop htsz
        go_wp2_with fail
        refine Calls.mono HTT.out ?_
        rintro e w3 ⟨rfl, hp3⟩
        obtain ⟨F3, hb3, hk3, hg3⟩ := (BPost.wide (HST.out _ _ _ _ hp3) (X := (Value.slice va n vc).ownBlock.toList))
        have hk3' : Kept (F ++ (Value.slice va n vc).ownBlock.toList) wr w3 := hk3
        have hrd3 : Rd w3 rb m rest := hrd.kept hk3' (by
          intro hc
          rcases List.mem_append.1 hc with h | h
          · exact hrbF h
          · exact (hav rb (by simpa using h)).2 rfl)
        have htb3 : w3.heap[tb]? = some (.cells #[.int .i64 0, .string ⟨nm.toArray⟩, .slice va n vc, .string ⟨tx.toArray⟩] 108 (0, 0)) := (hk3'.block tb (Array.getElem?_eq_some_iff.1 htok.1).1 (by
          intro hc
          rcases List.mem_append.1 hc with h | h
          · exact htok.2.1 h
          · exact htbav (by simpa using h))).trans htok.1
        have hrbF3 : rb ∉ F3 := by
          intro hc
          rcases hg3 rb hc with h | h
          · rcases List.mem_append.1 h with h | h
            · exact hrbF h
            · exact (hav rb (by simpa using h)).2 rfl
          · have := hrbwr; omega
        have hK3 : Kept [] w w3 := hK.trans_new hk3' (fun i hi => by
          rcases List.mem_append.1 hi with h | h
          · rcases hG i h with h | h
            · simp at h
            · exact .inr h
          · exact .inr (hav i (by simpa using h)).1)
        have hG3 : Grow [] w F3 := fun k hk => by
          rcases hg3 k hk with h | h
          · rcases List.mem_append.1 h with h | h
            · exact hG k h
            · exact .inr (hav k (by simpa using h)).1
          · exact .inr (Nat.le_trans hK.size h)
        have hrb3 := hrd3.lt
        obtain ⟨⟨z0, z1, z2, z3⟩, _⟩ := cells4 htb3
        clear q0 q1 q2 q3
        go_wp2_with fail
        have hk4 : Kept [] w3 (w3.alloc (.cells #[.int .i64 0, .string ⟨nm.toArray⟩, .slice va n vc, .string ⟨tx.toArray⟩] 108)) := (Kept.refl [] _).alloc _
        have hbx4 := heap_alloc_new w3 (.cells #[.int .i64 0, .string ⟨nm.toArray⟩, .slice va n vc, .string ⟨tx.toArray⟩] 108)
        refine (next_any rb m rest _ (hrd3.kept hk4 (by simp)) hm (hg.kept (hK3.trans hk4) (by simp) (by simp)) (by simp; omega)).mono ?_
        rintro e w5 hnp5
        obtain ⟨s5, nm5, va5, n5, vc5, tx5, b5, rfl, hk5, hnp5⟩ := hnp5.form
        have hbx5 : w5.heap[w3.heap.size]? = _ := (hk5.block w3.heap.size (by simp) (by simp; omega)).trans hbx4
        obtain ⟨⟨y0, y1, y2, y3⟩, ⟨f0, f1, f2, f3⟩⟩ := cells4 hbx5
        go_wp2_with fail
        go_roundg rest.length
        case measure => rw [HGK.out]; exact HOK.out.lt
        case rel =>
          have hk35 : Kept [rb] w3 w5 := (hk4.mono (by simp)).trans hk5
          have hkW : Kept [rb] w3 ((((w5.setCell ⟨w3.heap.size, 0, none⟩ (.int .i64 s5)).setCell ⟨w3.heap.size, 1, none⟩ (.string ⟨nm5.toArray⟩)).setCell ⟨w3.heap.size, 2, none⟩ (.slice va5 n5 vc5)).setCell ⟨w3.heap.size, 3, none⟩ (.string ⟨tx5.toArray⟩)) := hk35.set4 (.inr (Nat.le_refl _)) _ _ _ _
          have hkS := (Kept.refl [w3.heap.size] w5).set4 (k := w3.heap.size) (.inl (by simp)) (.int .i64 s5) (.string ⟨nm5.toArray⟩) (.slice va5 n5 vc5) (.string ⟨tx5.toArray⟩)
          have hz4 : w3.heap.size < (w3.alloc (.cells #[.int .i64 0, .string ⟨nm.toArray⟩, .slice va n vc, .string ⟨tx.toArray⟩] 108)).heap.size := by simp
          have hfit := fits_step (o := (E, st)) HB.out.1 0 nm al tx
          have hstep := readFrom_some HNX.out (E, st)
          refine rinv_make (F := F3) (E := (stepT (E, st) 0 nm al tx).1) (st := (stepT (E, st) 0 nm al tx).2) hb3 hrbF3 hK3 hG3 hrw hrb3 ⟨hfit.1, ?_, ?_, ?_⟩ hkW (Nat.le_refl _) (set4_at hbx5 _ _ _ _) (hnp5.kept hkS (Nat.le_of_lt hz4) (by simp; omega) (fun k hk => by simp at hk; omega))
          · have h1 := hfit.2.1
            have h2 := HB.out.2.1
            have h3 := HOK.out.lt
            simp only at h1
            omega
          · have h1 := hfit.2.2
            have h2 := HB.out.2.2.1
            have h3 := HOK.out.len
            simp only at h1
            omega
          · exact HB.out.2.2.2.trans hstep
      · subst hs
        have HNM : Hid (nm ≠ []) := hnm
        have HST : Hid (∀ bb F w w', BPost bb F w (startT E st nm al tx).1 (startT E st nm al tx).2 w' → BPost bb F w (stepT (E, st) 1 nm al tx).1 (stepT (E, st) 1 nm al tx).2 w') := fun _ _ _ _ h => h
        clear hnm
        go_wp2_with fail
        refine (startB_any bb F E st 1 nm _ al tx wr hbld htok.2.2.1 HNM.out htok.2.2.2 HB.out.1 (by have := HB.out.2.1; omega) (by have := HB.out.2.2.1; have := HOK.out.len; omega)).mono ?_
        rintro e w3 ⟨rfl, hp3⟩
        obtain ⟨F3, hb3, hk3, hg3⟩ := (HST.out _ _ _ _ hp3)
        have hk3' : Kept (F ++ (Value.slice va n vc).ownBlock.toList) wr w3 := hk3
        have hrd3 : Rd w3 rb m rest := hrd.kept hk3' (by
          intro hc
          rcases List.mem_append.1 hc with h | h
          · exact hrbF h
          · exact (hav rb (by simpa using h)).2 rfl)
        have htb3 : w3.heap[tb]? = some (.cells #[.int .i64 1, .string ⟨nm.toArray⟩, .slice va n vc, .string ⟨tx.toArray⟩] 108 (0, 0)) := (hk3'.block tb (Array.getElem?_eq_some_iff.1 htok.1).1 (by
          intro hc
          rcases List.mem_append.1 hc with h | h
          · exact htok.2.1 h
          · exact htbav (by simpa using h))).trans htok.1
        have hrbF3 : rb ∉ F3 := by
          intro hc
          rcases hg3 rb hc with h | h
          · rcases List.mem_append.1 h with h | h
            · exact hrbF h
            · exact (hav rb (by simpa using h)).2 rfl
          · have := hrbwr; omega
        have hK3 : Kept [] w w3 := hK.trans_new hk3' (fun i hi => by
          rcases List.mem_append.1 hi with h | h
          · rcases hG i h with h | h
            · simp at h
            · exact .inr h
          · exact .inr (hav i (by simpa using h)).1)
        have hG3 : Grow [] w F3 := fun k hk => by
          rcases hg3 k hk with h | h
          · rcases List.mem_append.1 h with h | h
            · exact hG k h
            · exact .inr (hav k (by simpa using h)).1
          · exact .inr (Nat.le_trans hK.size h)
        have hrb3 := hrd3.lt
        obtain ⟨⟨z0, z1, z2, z3⟩, _⟩ := cells4 htb3
        clear q0 q1 q2 q3
        go_wp2_with fail
        have hk4 : Kept [] w3 (w3.alloc (.cells #[.int .i64 1, .string ⟨nm.toArray⟩, .slice va n vc, .string ⟨tx.toArray⟩] 108)) := (Kept.refl [] _).alloc _
        have hbx4 := heap_alloc_new w3 (.cells #[.int .i64 1, .string ⟨nm.toArray⟩, .slice va n vc, .string ⟨tx.toArray⟩] 108)
        refine (next_any rb m rest _ (hrd3.kept hk4 (by simp)) hm (hg.kept (hK3.trans hk4) (by simp) (by simp)) (by simp; omega)).mono ?_
        rintro e w5 hnp5
        obtain ⟨s5, nm5, va5, n5, vc5, tx5, b5, rfl, hk5, hnp5⟩ := hnp5.form
        have hbx5 : w5.heap[w3.heap.size]? = _ := (hk5.block w3.heap.size (by simp) (by simp; omega)).trans hbx4
        obtain ⟨⟨y0, y1, y2, y3⟩, ⟨f0, f1, f2, f3⟩⟩ := cells4 hbx5
        go_wp2_with fail
        go_roundg rest.length
        case measure => rw [HGK.out]; exact HOK.out.lt
        case rel =>
          have hk35 : Kept [rb] w3 w5 := (hk4.mono (by simp)).trans hk5
          have hkW : Kept [rb] w3 ((((w5.setCell ⟨w3.heap.size, 0, none⟩ (.int .i64 s5)).setCell ⟨w3.heap.size, 1, none⟩ (.string ⟨nm5.toArray⟩)).setCell ⟨w3.heap.size, 2, none⟩ (.slice va5 n5 vc5)).setCell ⟨w3.heap.size, 3, none⟩ (.string ⟨tx5.toArray⟩)) := hk35.set4 (.inr (Nat.le_refl _)) _ _ _ _
          have hkS := (Kept.refl [w3.heap.size] w5).set4 (k := w3.heap.size) (.inl (by simp)) (.int .i64 s5) (.string ⟨nm5.toArray⟩) (.slice va5 n5 vc5) (.string ⟨tx5.toArray⟩)
          have hz4 : w3.heap.size < (w3.alloc (.cells #[.int .i64 1, .string ⟨nm.toArray⟩, .slice va n vc, .string ⟨tx.toArray⟩] 108)).heap.size := by simp
          have hfit := fits_step (o := (E, st)) HB.out.1 1 nm al tx
          have hstep := readFrom_some HNX.out (E, st)
          refine rinv_make (F := F3) (E := (stepT (E, st) 1 nm al tx).1) (st := (stepT (E, st) 1 nm al tx).2) hb3 hrbF3 hK3 hG3 hrw hrb3 ⟨hfit.1, ?_, ?_, ?_⟩ hkW (Nat.le_refl _) (set4_at hbx5 _ _ _ _) (hnp5.kept hkS (Nat.le_of_lt hz4) (by simp; omega) (fun k hk => by simp at hk; omega))
          · have h1 := hfit.2.1
            have h2 := HB.out.2.1
            have h3 := HOK.out.lt
            simp only at h1
            omega
          · have h1 := hfit.2.2
            have h2 := HB.out.2.2.1
            have h3 := HOK.out.len
            simp only at h1
            omega
          · exact HB.out.2.2.2.trans hstep
      · subst hs
        have HST : Hid (∀ bb F w w', BPost bb F w (endE E st nm).1 (endE E st nm).2 w' → BPost bb F w (stepT (E, st) 2 nm al tx).1 (stepT (E, st) 2 nm al tx).2 w') := fun _ _ _ _ h => h
        clear hnm hal htx
        have htt := endB_any bb F E st ⟨nm.toArray⟩ wr hbld HB.out.1 (by have := HB.out.2.1; omega)
        have hks : (({ data := nm.toArray } : ByteArray).data.toList) = nm := by simp
        rw [hks] at htt
        have HTT : Hid _ := htt
        clear htt hks
        go_wp2_with fail
        refine Calls.mono HTT.out ?_
        rintro e w3 ⟨rfl, hp3⟩
        obtain ⟨F3, hb3, hk3, hg3⟩ := (BPost.wide (HST.out _ _ _ _ hp3) (X := (Value.slice va n vc).ownBlock.toList))
        have hk3' : Kept (F ++ (Value.slice va n vc).ownBlock.toList) wr w3 := hk3
        have hrd3 : Rd w3 rb m rest := hrd.kept hk3' (by
          intro hc
          rcases List.mem_append.1 hc with h | h
          · exact hrbF h
          · exact (hav rb (by simpa using h)).2 rfl)
        have htb3 : w3.heap[tb]? = some (.cells #[.int .i64 2, .string ⟨nm.toArray⟩, .slice va n vc, .string ⟨tx.toArray⟩] 108 (0, 0)) := (hk3'.block tb (Array.getElem?_eq_some_iff.1 htok.1).1 (by
          intro hc
          rcases List.mem_append.1 hc with h | h
          · exact htok.2.1 h
          · exact htbav (by simpa using h))).trans htok.1
        have hrbF3 : rb ∉ F3 := by
          intro hc
          rcases hg3 rb hc with h | h
          · rcases List.mem_append.1 h with h | h
            · exact hrbF h
            · exact (hav rb (by simpa using h)).2 rfl
          · have := hrbwr; omega
        have hK3 : Kept [] w w3 := hK.trans_new hk3' (fun i hi => by
          rcases List.mem_append.1 hi with h | h
          · rcases hG i h with h | h
            · simp at h
            · exact .inr h
          · exact .inr (hav i (by simpa using h)).1)
        have hG3 : Grow [] w F3 := fun k hk => by
          rcases hg3 k hk with h | h
          · rcases List.mem_append.1 h with h | h
            · exact hG k h
            · exact .inr (hav k (by simpa using h)).1
          · exact .inr (Nat.le_trans hK.size h)
        have hrb3 := hrd3.lt
        obtain ⟨⟨z0, z1, z2, z3⟩, _⟩ := cells4 htb3
        clear q0 q1 q2 q3
        go_wp2_with fail
        have hk4 : Kept [] w3 (w3.alloc (.cells #[.int .i64 2, .string ⟨nm.toArray⟩, .slice va n vc, .string ⟨tx.toArray⟩] 108)) := (Kept.refl [] _).alloc _
        have hbx4 := heap_alloc_new w3 (.cells #[.int .i64 2, .string ⟨nm.toArray⟩, .slice va n vc, .string ⟨tx.toArray⟩] 108)
        refine (next_any rb m rest _ (hrd3.kept hk4 (by simp)) hm (hg.kept (hK3.trans hk4) (by simp) (by simp)) (by simp; omega)).mono ?_
        rintro e w5 hnp5
        obtain ⟨s5, nm5, va5, n5, vc5, tx5, b5, rfl, hk5, hnp5⟩ := hnp5.form
        have hbx5 : w5.heap[w3.heap.size]? = _ := (hk5.block w3.heap.size (by simp) (by simp; omega)).trans hbx4
        obtain ⟨⟨y0, y1, y2, y3⟩, ⟨f0, f1, f2, f3⟩⟩ := cells4 hbx5
        go_wp2_with fail
        go_roundg rest.length
        case measure => rw [HGK.out]; exact HOK.out.lt
        case rel =>
          have hk35 : Kept [rb] w3 w5 := (hk4.mono (by simp)).trans hk5
          have hkW : Kept [rb] w3 ((((w5.setCell ⟨w3.heap.size, 0, none⟩ (.int .i64 s5)).setCell ⟨w3.heap.size, 1, none⟩ (.string ⟨nm5.toArray⟩)).setCell ⟨w3.heap.size, 2, none⟩ (.slice va5 n5 vc5)).setCell ⟨w3.heap.size, 3, none⟩ (.string ⟨tx5.toArray⟩)) := hk35.set4 (.inr (Nat.le_refl _)) _ _ _ _
          have hkS := (Kept.refl [w3.heap.size] w5).set4 (k := w3.heap.size) (.inl (by simp)) (.int .i64 s5) (.string ⟨nm5.toArray⟩) (.slice va5 n5 vc5) (.string ⟨tx5.toArray⟩)
          have hz4 : w3.heap.size < (w3.alloc (.cells #[.int .i64 2, .string ⟨nm.toArray⟩, .slice va n vc, .string ⟨tx.toArray⟩] 108)).heap.size := by simp
          have hfit := fits_step (o := (E, st)) HB.out.1 2 nm al tx
          have hstep := readFrom_some HNX.out (E, st)
          refine rinv_make (F := F3) (E := (stepT (E, st) 2 nm al tx).1) (st := (stepT (E, st) 2 nm al tx).2) hb3 hrbF3 hK3 hG3 hrw hrb3 ⟨hfit.1, ?_, ?_, ?_⟩ hkW (Nat.le_refl _) (set4_at hbx5 _ _ _ _) (hnp5.kept hkS (Nat.le_of_lt hz4) (by simp; omega) (fun k hk => by simp at hk; omega))
          · have h1 := hfit.2.1
            have h2 := HB.out.2.1
            have h3 := HOK.out.lt
            simp only at h1
            omega
          · have h1 := hfit.2.2
            have h2 := HB.out.2.2.1
            have h3 := HOK.out.len
            simp only at h1
            omega
          · exact HB.out.2.2.2.trans hstep
end Go.Proofs.YtlpmjpmefdpcmaaGreatDoor
namespace Go.Proofs.YtlpmjpmefdpcmaaGreatDoor
open Go.RowKit Scrub Go.Shelf
/-- A tree that was made since w. -/
def NewTree (w w' : World) (v : Value) (ev : List Ev) : Prop := ∃ fp, Tree w' v ev fp ∧ fp.Nodup ∧ (∀ k ∈ fp, w.heap.size ≤ k ∧ k < w'.heap.size) ∧ Kept [] w w'
set_option maxHeartbeats 1000000 in
theorem isLong_any (s : ByteArray) (w : World) :
    Calls Tryz.prog 51 #[.string s] w fun e w' => e = .returned (.bool (decide (600 < s.size))) ∧ w' = w := by
  by_cases h : 600 < s.size
  · have hgt : (600 : Int) < (s.size : Int) := by omega
    go_enter Tryz.func51, Tryz.ntmps51
    go_wp2_with fail
    go_ret
    exact ⟨by simp [h], rfl⟩
  · have hgt : ((600 : Int) < (s.size : Int)) = False := by simp; omega
    go_enter Tryz.func51, Tryz.ntmps51
    go_wp2_with fail
    go_ret
    exact ⟨by simp [h], rfl⟩
set_option maxHeartbeats 1000000 in
theorem parse_long (s : ByteArray) (w : World) (hs : 600 < s.size) :
    Calls Tryz.prog 23 #[.string s] w fun e w' => e = .returned (.tuple #[.slice none 0 0, .int .i64 1]) ∧ Kept [] w w' := by
  go_enter Tryz.func23, Tryz.ntmps23
  go_wp2_with fail
  refine (isLong_any s _).mono ?_
  rintro e w1 ⟨rfl, rfl⟩
  rw [decide_eq_true hs]
  go_wp2_with fail
  refine bodyPost_ret (v := .tuple #[.slice none 0 0, .int .i64 1]) (by simp [results, Tryz.results23, go_sem]) rfl ?_
  exact ⟨rfl, Kept.refl _ _⟩
set_option maxHeartbeats 1000000 in
theorem parse_short (s : ByteArray) (w : World) (hs : s.size ≤ 600) (hg : Glob w) :
    Calls Tryz.prog 23 #[.string s] w fun e w' => ∃ v, e = .returned (.tuple #[v, .int .i64 0]) ∧ NewTree w w' v (readP s.data.toList) := by
  go_enter Tryz.func23, Tryz.ntmps23
  go_wp2_with fail
  refine (isLong_any s _).mono ?_
  rintro e w1 ⟨rfl, rfl⟩
  rw [decide_eq_false (by omega)]
  go_wp2_with fail
  refine (read_any s _ (by omega) hg).mono ?_
  rintro e w1 ⟨v, fp, rfl, h1, h2⟩
  obtain ⟨ta, tn, tc, rfl⟩ : ∃ ta tn tc, v = .slice ta tn tc := by
    obtain ⟨ns, h3, _⟩ := h1.open
    obtain ⟨a, c, h4⟩ := ownsRow_form h3
    exact ⟨a, _, c, h4⟩
  go_wp2_with fail
  refine bodyPost_ret (v := .tuple #[.slice ta tn tc, .int .i64 0]) (by simp [results, Tryz.results23, go_sem]) rfl ?_
  exact ⟨_, rfl, fp, h1, h2⟩
end Go.Proofs.YtlpmjpmefdpcmaaGreatDoor
