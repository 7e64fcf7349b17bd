import Derived.Test.YtlpmjpmefdpcmaaGreatDoorQHa
import Derived.Test.YtlpmjpmefdpcmaaGreatDoorQTa
import Derived.Deep.RegionHeld3
import Derived.Test.YtlpmjpmefdpcmaaGreatDoorQTc
import Derived.Test.YtlpmjpmefdpcmaaGreatDoorQCln
import Derived.Test.YtlpmjpmefdpcmaaGreatDoorQRn
/- Lists of strings that are handed in: handedTexts, untouchedTexts. -/
namespace Go.Proofs.YtlpmjpmefdpcmaaGreatDoor
open Go.RowKit Scrub Go.Shelf
/-- Strings fill block b. -/
def TAt (w : World) (b : Nat) (l : List (List UInt8)) : Prop := w.heap[b]? = some (.cells (strCells l).toArray 9 (0, 0))
theorem TAt.lt {w : World} {b : Nat} {l : List (List UInt8)} (h : TAt w b l) : b < w.heap.size := (Array.getElem?_eq_some_iff.1 h).1
theorem TAt.kept {w w' : World} {S : List Nat} {b : Nat} {l : List (List UInt8)} (h : TAt w b l) (hk : Kept S w w') (hb : b ∉ S) : TAt w' b l := (hk.block b h.lt hb).trans h
theorem TAt.thawed {w : World} {b : Nat} {l : List (List UInt8)} (h : TAt w b l) (i : Nat) : w.frozen? ⟨b, i, none⟩ = false := by
  have h' : w.heap[b]? = _ := h
  simp [World.frozen?, h']
theorem TAt.cell {w : World} {b : Nat} {l : List (List UInt8)} (h : TAt w b l) (i : Nat) (x : List UInt8) (hx : l[i]? = some x) : w.cell? ⟨b, i, none⟩ = some (.string ⟨x.toArray⟩) := by
  unfold World.cell?
  rw [h]
  simp [strCells, hx]
theorem TAt.set {w : World} {b : Nat} {l : List (List UInt8)} (h : TAt w b l) (i : Nat) (x : List UInt8) : TAt (w.setCell ⟨b, i, none⟩ (.string ⟨x.toArray⟩)) b (l.set i x) := by
  have := block_set h i (.string ⟨x.toArray⟩)
  unfold TAt strCells
  rw [List.map_set]
  exact this
theorem TAt.strs {w : World} {b : Nat} {l m : List (List UInt8)} (h : TAt w b (l ++ m)) (c : Nat) : StrsAt w (.slice (some ⟨b, 0, none⟩) l.length c) l := by
  refine ⟨_, _, rfl, fun i hi => ⟨b, 0, rfl, ?_⟩⟩
  rw [Nat.zero_add]
  exact h.cell i _ (by rw [List.getElem?_append_left hi]; simp)
/-- A list of strings as it is handed in: marks stand behind it. -/
def HTexts (w : World) (b : Nat) (l : List (List UInt8)) : Prop := TAt w b (l ++ List.replicate 8 [33])
set_option maxRecDepth 100000 in
theorem make_texts (n : Nat) (w : World) (hn : n ≤ 8796093022208) : ∃ w', (Instr.makeSlice 22 (.int .i64 ((n : Int) + 8)) (.int .i64 ((n : Int) + 8))).run Tryz.prog w = .ok (.slice (some ⟨w.heap.size, 0, none⟩) (n + 8) (n + 8)) w' ∧ Kept [] w w' ∧ TAt w' w.heap.size (List.replicate (n + 8) []) := by
  obtain ⟨i0, hi, hz0, hz1, hz2⟩ := info_parts infoStr
  have h63 : ((n : Int) + 8) ≤ 9223372036854775807 := by omega
  have hr := run_make (P := Tryz.prog) w 22 9 i0 _ Tryz.underlying22 hi hz0 .i64 .i64 ((n : Int) + 8) ((n : Int) + 8) (by omega) (Int.le_refl _) (by rw [hz2]; omega) h63
  have ec : ((n : Int) + 8).toNat = n + 8 := by omega
  rw [ec, hz1] at hr
  refine ⟨_, hr, (Kept.refl _ _).alloc _, ?_⟩
  unfold TAt
  rw [heap_alloc_new]
  have e : (madeCells (Value.string ⟨#[]⟩).cells ((n + 8) * 1)).toList = List.replicate (n + 8) (.string ⟨#[]⟩) := by
    rw [Nat.mul_one]
    exact toList_madeCells_one _ (n + 8)
  have e2 : strCells (List.replicate (n + 8) ([] : List UInt8)) = List.replicate (n + 8) (.string ⟨#[]⟩) := by simp [strCells]
  rw [e2, ← e]
set_option maxRecDepth 100000 in
theorem copy_texts (w : World) (g : Nat) (a : Option Addr) (c : Nat) (l : List (List UInt8)) (hg : TAt w g (List.replicate (l.length + 8) [])) (hL : StrsAt w (.slice a l.length c) l) :
    ∃ w2, (Builtin.copy_ #[22, 22] 3 #[.slice (some ⟨g, 0, none⟩) (l.length + 8) (l.length + 8), .slice a l.length c]).run Tryz.prog w = .ok (.int .i64 (l.length : Int)) w2 ∧ Kept [g] w w2 ∧ TAt w2 g (l ++ List.replicate 8 []) := by
  have hsz : (Tryz.prog.info? 9).map (·.size) = some 1 := by kernel_rfl
  by_cases h0 : l = []
  · subst h0
    exact ⟨w, run_copy_k0 Tryz.prog w 22 22 3 9 1 _ a _ _ c Tryz.underlying22 hsz, Kept.refl _ _, hg⟩
  · obtain ⟨a', c', hv, hc⟩ := hL
    injection hv with q1 q2 q3
    subst q1
    have hpos : 0 < l.length := List.length_pos_iff.2 h0
    obtain ⟨g', o', ha, _⟩ := hc 0 hpos
    subst ha
    have hmin : Nat.min l.length (l.length + 8) = l.length := Nat.min_eq_left (by omega)
    have hcl : (strCells l).length = l.length := by simp [strCells]
    have hfl : (strCells (List.replicate (l.length + 8) ([] : List UInt8))).length = l.length + 8 := by simp [strCells]
    have hr := run_copy_k Tryz.prog w 22 22 3 9 1 g 0 (l.length + 8) (l.length + 8) ⟨g', o', none⟩ l.length c _ 9 (strCells l) Tryz.underlying22 hsz hg (by rw [hmin, hcl, Nat.mul_one]) ?src (by simp only [List.size_toArray]; omega) ?one
    · rw [hmin] at hr
      refine ⟨_, hr, ?_, ?_⟩
      · exact ⟨rfl, rfl, rfl, by simp [World.setRow], fun k _ hs => setRow_other w g k _ (by simpa using hs)⟩
      · unfold TAt
        rw [setRow_heap w g _ _ _ _ hg]
        congr 2
        simp only [List.take_zero, List.nil_append, Nat.zero_add]
        rw [hcl]
        simp [strCells]
    case src =>
      intro j v hj
      have hjl : j < l.length := by rw [← hcl]; exact (List.getElem?_eq_some_iff.1 hj).1
      obtain ⟨g2, o2, e2, c1⟩ := hc j hjl
      injection e2 with e2
      injection e2 with e3 e4
      subst e3 e4
      have hadd : (⟨g', o', none⟩ : Addr).add j = ⟨g', o' + j, none⟩ := by unfold Addr.add; split <;> simp_all
      rw [hadd, c1, ← hj]
      simp [strCells, hjl]
    case one =>
      intro v hv
      obtain ⟨x, _, rfl⟩ := List.mem_map.1 hv
      rfl
theorem spare_spot {w : World} {b : Nat} {l : List (List UInt8)} {j m : Nat} (h : TAt w b (l ++ (List.replicate j [33] ++ List.replicate (m + 1) []))) :
    w.cell? ⟨b, l.length + j, none⟩ = some (.string ⟨#[]⟩) ∧ w.frozen? ⟨b, l.length + j, none⟩ = false ∧ TAt (w.setCell ⟨b, l.length + j, none⟩ (.string ⟨#[33]⟩)) b (l ++ (List.replicate (j + 1) [33] ++ List.replicate m [])) := by
  refine ⟨h.cell _ [] ?_, h.thawed _, ?_⟩
  · rw [List.getElem?_append_right (by omega), List.getElem?_append_right (by simp)]
    simp
  · have := h.set (l.length + j) [33]
    rw [List.set_append_right _ _ (by omega), show l.length + j - l.length = j by omega, List.set_append_right _ _ (by simp), List.length_replicate, Nat.sub_self, List.replicate_succ, List.set_cons_zero] at this
    rw [List.replicate_succ', List.append_assoc]
    exact this
set_option maxRecDepth 100000 in
set_option maxHeartbeats 4000000 in
theorem handedTexts_any (l : List (List UInt8)) (v : Value) (w : World) (hL : StrsAt w v l) (hl : l.length ≤ 8796093022208) :
    Calls Tryz.prog 38 #[v] w fun e w' => e = .returned (.slice (some ⟨w.heap.size, 0, none⟩) l.length (l.length + 8)) ∧ HTexts w' w.heap.size l ∧ Kept [] w w' := by
  obtain ⟨a, c, rfl⟩ := hL.form
  obtain ⟨w1, hmk, hk1, hb1⟩ := make_texts l.length w hl
  obtain ⟨w2, hcp, hk2, hb2⟩ := copy_texts w1 w.heap.size a c l hb1 (hL.kept hk1)
  have hk3 : Kept [] w w2 := hk1.trans_new hk2 (by simp)
  have HB2 : Hid (TAt w2 w.heap.size _) := hb2
  have HK3 : Hid (Kept [] w w2) := hk3
  have HSP : Hid (∀ (W : World) (j m : Nat), TAt W w.heap.size (l ++ (List.replicate j [33] ++ List.replicate (m + 1) [])) → W.cell? ⟨w.heap.size, l.length + j, none⟩ = some (.string ⟨#[]⟩) ∧ W.frozen? ⟨w.heap.size, l.length + j, none⟩ = false ∧ TAt (W.setCell ⟨w.heap.size, l.length + j, none⟩ (.string ⟨#[33]⟩)) w.heap.size (l ++ (List.replicate (j + 1) [33] ++ List.replicate m []))) := fun W j m h => spare_spot h
  clear hL hk1 hb1 hk2 hb2 hk3
  generalize l.length = L at *
  have i0 : (0 : Int) ≤ (L : Int) := by omega
  have i1 : (L : Int) ≤ (L : Int) + 8 := by omega
  go_enter Tryz.func38, Tryz.ntmps38
  go_wp2_with fail
  go_loopg [5] 8 (fun g x wi => ∃ j : Nat, j ≤ 8 ∧ g = 8 - j ∧ x = .int .i64 ((L : Int) + (j : Int)) ∧ TAt wi w.heap.size (l ++ (List.replicate j [33] ++ List.replicate (8 - j) [])) ∧ Kept [] w wi)
  case atStart => exact ⟨0, by omega, rfl, by simp, HB2.out, HK3.out⟩
  case round =>
    obtain ⟨j, hj8, hgj, rfl, hrj, hkj⟩ := hrel
    have HGJ : Hid _ := hgj
    have HRJ : Hid (TAt _ _ _) := hrj
    clear hgj hrj
    have hj9 : (0 : Int) ≤ (j : Int) := by omega
    by_cases hjlt : j < 8
    · have hjlt' : (j : Int) < 8 := by omega
      have HRJ2 := HRJ.out
      rw [show 8 - j = (7 - j) + 1 by omega] at HRJ2
      obtain ⟨s0, t0, hnx⟩ := HSP.out _ j _ HRJ2
      have HNX : Hid (TAt _ _ _) := hnx
      clear hnx HRJ2
      go_wp2_with fail
      go_roundg (8 - (j + 1))
      case measure => rw [HGJ.out]; omega
      case rel =>
        refine ⟨j + 1, by omega, rfl, by first | rfl | congr 1, ?_, ?_⟩
        · rw [show 8 - (j + 1) = 7 - j by omega]
          exact HNX.out
        · exact hkj.setCell (.inr (Nat.le_refl _)) _
    · obtain rfl : j = 8 := by omega
      go_wp2_with fail
      go_ret
      refine ⟨rfl, ?_, hkj⟩
      have := HRJ.out
      simpa [HTexts] using this
/-- What is looked at from place k on is as it was. -/
def TLeft (w : World) (b : Nat) (l : List (List UInt8)) (k : Nat) : Prop := ∃ X : List (List UInt8), X.length = k ∧ TAt w b (X ++ (l ++ List.replicate 8 [33]).drop k)
theorem TLeft.kept {S : List Nat} {w w' : World} {b : Nat} {l : List (List UInt8)} {k : Nat} (h : TLeft w b l k) (hk : Kept S w w') (hb : b ∉ S) : TLeft w' b l k := by
  obtain ⟨X, h1, h2⟩ := h
  exact ⟨X, h1, h2.kept hk hb⟩
theorem TLeft.spot {w : World} {b : Nat} {l : List (List UInt8)} {k : Nat} (h : TLeft w b l k) (x : List UInt8) (hx : (l ++ List.replicate 8 [33])[k]? = some x) :
    w.cell? ⟨b, k, none⟩ = some (.string ⟨x.toArray⟩) ∧ w.frozen? ⟨b, k, none⟩ = false ∧ ∀ y : List UInt8, TLeft (w.setCell ⟨b, k, none⟩ (.string ⟨y.toArray⟩)) b l (k + 1) := by
  obtain ⟨X, h1, h2⟩ := h
  subst h1
  obtain ⟨hlt, he⟩ := List.getElem?_eq_some_iff.1 hx
  rw [List.drop_eq_getElem_cons hlt, he] at h2
  refine ⟨h2.cell _ x (by rw [List.getElem?_append_right (Nat.le_refl _)]; simp), h2.thawed _, fun y => ?_⟩
  have := h2.set X.length y
  rw [List.set_append_right _ _ (Nat.le_refl _), Nat.sub_self, List.set_cons_zero] at this
  refine ⟨X ++ [y], by simp, ?_⟩
  rw [List.append_assoc]
  exact this
set_option maxRecDepth 100000 in
set_option maxHeartbeats 4000000 in
theorem untouchedTexts_any (l : List (List UInt8)) (b : Nat) (v : Value) (w0 w : World) (hL : StrsAt w0 v l) (hk0 : Kept [] w0 w) (hb0 : w0.heap.size ≤ b) (hA : HTexts w b l) (hl : l.length ≤ 8796093022208) :
    Calls Tryz.prog 40 #[.slice (some ⟨b, 0, none⟩) l.length (l.length + 8), v] w fun e w' => e = .returned (.bool true) ∧ Kept [b] w w' := by
  obtain ⟨a, c, rfl, hc⟩ := hL
  have HC : Hid _ := hc
  have HA0 : Hid (TLeft w b l 0) := ⟨[], rfl, hA⟩
  clear hc hA
  obtain ⟨L, HLE⟩ : ∃ L, Hid (l.length = L) := ⟨_, rfl⟩
  rw [HLE.out] at hl ⊢
  have i0 : (0 : Int) ≤ (L : Int) := by omega
  have i1 : (L : Int) ≤ (L : Int) + 8 := by omega
  go_enter Tryz.func40, Tryz.ntmps40
  go_wp2_with fail
  go_loopg [7, 8] (L + 8) (fun g x y wr => ∃ k : Nat, k ≤ L + 8 ∧ g = L + 8 - k ∧ x = .bool true ∧ y = .int .i64 (k : Int) ∧ TLeft wr b l k ∧ Kept [b] w wr)
  case atStart => exact ⟨0, by omega, rfl, rfl, rfl, HA0.out, Kept.refl _ _⟩
  case round =>
    obtain ⟨k, hks, hgk, rfl, rfl, hal0, hkr⟩ := hrel
    have HG : Hid _ := hgk
    have HAL : Hid (TLeft wr b l k) := hal0
    clear hgk hal0
    have hge : (0 : Int) ≤ (k : Int) := by omega
    have hkw0 : Kept [] w0 wr := hk0.trans_new hkr (by simpa using hb0)
    by_cases hlt : k < L
    · have hlt' : (k : Int) < (L : Int) := by omega
      have hlt8 : (k : Int) < (L : Int) + 8 := by omega
      have hltl : k < l.length := by rw [HLE.out]; exact hlt
      obtain ⟨g, o, rfl, e0⟩ := HC.out k hltl
      have e0' := cell_kept hkw0 e0
      have HX : (l ++ List.replicate 8 [33])[k]? = some l[k] := by
        rw [List.getElem?_append_left hltl]
        simp
      generalize l[k] = x at *
      obtain ⟨s0, t0, hnx⟩ := HAL.out.spot _ HX
      have HNX : Hid (∀ y : List UInt8, TLeft (wr.setCell ⟨b, k, none⟩ (.string ⟨y.toArray⟩)) b l (k + 1)) := hnx
      clear e0 HX hnx hltl
      go_wp2_with fail
      go_roundg (L + 8 - (k + 1))
      case measure => rw [HG.out]; omega
      case rel =>
        refine ⟨k + 1, by omega, rfl, rfl, by first | rfl | congr 1, HNX.out [98, 108, 111, 116], ?_⟩
        exact hkr.setCell (.inl (by simp)) _
    · have hlt' : ((k : Int) < (L : Int)) = False := by simp; omega
      by_cases hlt8 : k < L + 8
      · have hlt8' : (k : Int) < (L : Int) + 8 := by omega
        have HX : (l ++ List.replicate 8 [33])[k]? = some ([33] : List UInt8) := by
          have := HLE.out
          rw [List.getElem?_append_right (by omega), List.getElem?_replicate, if_pos (by omega)]
        obtain ⟨s0, t0, hnx⟩ := HAL.out.spot _ HX
        have HNX : Hid (∀ y : List UInt8, TLeft (wr.setCell ⟨b, k, none⟩ (.string ⟨y.toArray⟩)) b l (k + 1)) := hnx
        clear HX hnx
        go_wp2_with fail
        go_roundg (L + 8 - (k + 1))
        case measure => rw [HG.out]; omega
        case rel =>
          refine ⟨k + 1, by omega, rfl, rfl, by first | rfl | congr 1, HNX.out [98, 108, 111, 116], ?_⟩
          exact hkr.setCell (.inl (by simp)) _
      · have hlt8' : ((k : Int) < (L : Int) + 8) = False := by simp; omega
        go_wp2_with fail
        go_ret
        exact ⟨rfl, hkr⟩
end Go.Proofs.YtlpmjpmefdpcmaaGreatDoor
/- handedPolicy, untouchedPolicy. -/
namespace Go.Proofs.YtlpmjpmefdpcmaaGreatDoor
open Go.RowKit Scrub Go.Shelf
/-- A policy as it is handed in: its two lists in blocks of their own, behind w0. -/
def HPol (w0 w : World) (b1 b2 : Nat) (p : Pol) : Prop := ((w0.heap.size ≤ b1 ∧ w0.heap.size ≤ b2) ∧ b1 ≠ b2) ∧ HTexts w b1 p.1 ∧ HTexts w b2 p.2
theorem HPol.kept {w0 w w' : World} {b1 b2 : Nat} {p : Pol} (h : HPol w0 w b1 b2 p) (hk : Kept [] w w') : HPol w0 w' b1 b2 p := ⟨h.1, h.2.1.kept hk (by simp), h.2.2.kept hk (by simp)⟩
theorem HPol.old {w0 w1 w : World} {b1 b2 : Nat} {p : Pol} (h : HPol w1 w b1 b2 p) (hz : w0.heap.size ≤ w1.heap.size) : HPol w0 w b1 b2 p := ⟨⟨⟨Nat.le_trans hz h.1.1.1, Nat.le_trans hz h.1.1.2⟩, h.1.2⟩, h.2⟩
theorem HPol.at {w0 w : World} {b1 b2 : Nat} {p : Pol} (h : HPol w0 w b1 b2 p) : PolAt w (.slice (some ⟨b1, 0, none⟩) p.1.length (p.1.length + 8)) (.slice (some ⟨b2, 0, none⟩) p.2.length (p.2.length + 8)) p := ⟨h.2.1.strs _, h.2.2.strs _⟩
set_option maxRecDepth 100000 in
set_option maxHeartbeats 4000000 in
theorem handedPolicy_any (p : Pol) (ev av : Value) (w : World) (hp : PolAt w ev av p) (h1 : p.1.length ≤ 8796093022208) (h2 : p.2.length ≤ 8796093022208) :
    Calls Tryz.prog 35 #[.agg #[ev, av]] w fun e w' => ∃ b1 b2, e = .returned (.agg #[.slice (some ⟨b1, 0, none⟩) p.1.length (p.1.length + 8), .slice (some ⟨b2, 0, none⟩) p.2.length (p.2.length + 8)]) ∧ HPol w w' b1 b2 p ∧ Kept [] w w' := by
  have H1 : Hid (∀ W, Kept [] w W → Calls Tryz.prog 38 #[ev] W fun e w' => e = .returned (.slice (some ⟨W.heap.size, 0, none⟩) p.1.length (p.1.length + 8)) ∧ HTexts w' W.heap.size p.1 ∧ Kept [] W w') := fun W hk => handedTexts_any p.1 ev W (hp.1.kept hk) h1
  have H2 : Hid (∀ W, Kept [] w W → Calls Tryz.prog 38 #[av] W fun e w' => e = .returned (.slice (some ⟨W.heap.size, 0, none⟩) p.2.length (p.2.length + 8)) ∧ HTexts w' W.heap.size p.2 ∧ Kept [] W w') := fun W hk => handedTexts_any p.2 av W (hp.2.kept hk) h2
  obtain ⟨a1, c1, rfl⟩ := hp.1.form
  obtain ⟨a2, c2, rfl⟩ := hp.2.form
  clear hp h1 h2
  generalize p.1.length = n1 at *
  generalize p.2.length = n2 at *
  obtain ⟨w3, hw3⟩ : ∃ x, x = (w.alloc (.cells #[.slice a1 n1 c1, .slice a2 n2 c2] 33)).alloc (.cells #[.slice none 0 0, .slice none 0 0] 33) := ⟨_, rfl⟩
  have hk3 : Kept [] w w3 := by rw [hw3]; exact ((Kept.refl [] w).alloc _).alloc _
  have hs3 : w3.heap.size = w.heap.size + 2 := by rw [hw3]; simp
  have hb0 : w3.heap[w.heap.size]? = some (.cells #[.slice a1 n1 c1, .slice a2 n2 c2] 33 (0, 0)) := by
    rw [hw3]
    have hk : Kept [] (w.alloc (.cells #[.slice a1 n1 c1, .slice a2 n2 c2] 33)) ((w.alloc (.cells #[.slice a1 n1 c1, .slice a2 n2 c2] 33)).alloc (.cells #[.slice none 0 0, .slice none 0 0] 33)) := (Kept.refl [] _).alloc _
    exact (hk.block w.heap.size (by simp) (by simp)).trans (heap_alloc_new w _)
  have hb1 : w3.heap[w.heap.size + 1]? = some (.cells #[.slice none 0 0, .slice none 0 0] 33 (0, 0)) := by
    rw [hw3]
    have := heap_alloc_new (w.alloc (.cells #[.slice a1 n1 c1, .slice a2 n2 c2] 33)) (.cells #[.slice none 0 0, .slice none 0 0] 33)
    rwa [show (w.alloc (.cells #[.slice a1 n1 c1, .slice a2 n2 c2] 33)).heap.size = w.heap.size + 1 from Array.size_push ..] at this
  have HBX : Hid (∀ W, Kept [] w3 W → W.cell? ⟨w.heap.size, 0, none⟩ = some (.slice a1 n1 c1) ∧ W.cell? ⟨w.heap.size, 1, none⟩ = some (.slice a2 n2 c2)) := by
    intro W hW
    have e := (hW.block _ (by omega) (by simp)).trans hb0
    exact ⟨by unfold World.cell?; rw [e]; rfl, by unfold World.cell?; rw [e]; rfl⟩
  have HST : Hid (∀ W, Kept [] w3 W → (W.cell? ⟨w.heap.size + 1, 0, none⟩ = some (.slice none 0 0) ∧ W.cell? ⟨w.heap.size + 1, 1, none⟩ = some (.slice none 0 0)) ∧ (W.frozen? ⟨w.heap.size + 1, 0, none⟩ = false ∧ W.frozen? ⟨w.heap.size + 1, 1, none⟩ = false)) := by
    intro W hW
    have e := (hW.block _ (by omega) (by simp)).trans hb1
    exact ⟨⟨by unfold World.cell?; rw [e]; rfl, by unfold World.cell?; rw [e]; rfl⟩, by simp [World.frozen?, e], by simp [World.frozen?, e]⟩
  have HC1 : Hid (∀ W, Kept [] w3 W → Calls Tryz.prog 38 #[.slice a1 n1 c1] W fun e w' => ∃ b, e = .returned (.slice (some ⟨b, 0, none⟩) n1 (n1 + 8)) ∧ HTexts w' b p.1 ∧ (w.heap.size + 2 ≤ b ∧ b < w'.heap.size) ∧ Kept [] w3 w') := by
    intro W hW
    refine (H1.out W (hk3.trans hW)).mono ?_
    rintro e w' ⟨rfl, h1, h2⟩
    exact ⟨_, rfl, h1, ⟨by have := hW.size; omega, TAt.lt h1⟩, hW.trans h2⟩
  have HC2 : Hid (∀ W0 W, Kept [] w3 W0 → Kept [] W0 W → Calls Tryz.prog 38 #[.slice a2 n2 c2] W fun e w' => ∃ b, e = .returned (.slice (some ⟨b, 0, none⟩) n2 (n2 + 8)) ∧ HTexts w' b p.2 ∧ W0.heap.size ≤ b ∧ Kept [] W0 w' ∧ Kept [] w3 w') := by
    intro W0 W hW0 hW
    refine (H2.out W (hk3.trans (hW0.trans hW))).mono ?_
    rintro e w' ⟨rfl, h1, h2⟩
    exact ⟨_, rfl, h1, hW.size, hW.trans h2, hW0.trans (hW.trans h2)⟩
  obtain ⟨q0, q1⟩ := HBX.out w3 (Kept.refl [] w3)
  have HK3 : Hid (Kept [] w w3) := hk3
  clear H1 H2 hb0 hb1 hs3 hk3
  go_enter Tryz.func35, Tryz.ntmps35
  go_wp2_with fail
  rw [← hw3]
  clear hw3
  go_region_held3 (fun w' => w'.cell? ⟨w.heap.size, 0, none⟩ = some (.slice a1 n1 c1) ∧ w'.cell? ⟨w.heap.size, 1, none⟩ = some (.slice a2 n2 c2)) (first | go_keep | exact HKS.out)
    (first
      | (go_at_call 38; have hmark := hk4; refine (HC2.out w4 _ hk4 (by first | exact Kept.refl [] _ | exact (Kept.refl [] _).drew | exact (Kept.refl [] _).drewN _)).mono ?_; clear hmark; rintro e w5 ⟨b2, rfl, hT2, hr2, hk5, hk5'⟩; obtain ⟨u0, u1⟩ := HBX.out w5 hk5'; obtain ⟨⟨s0, s1⟩, t0, t1⟩ := HST.out w5 hk5')
      | (go_at_call 38; refine (HC1.out _ (by first | exact (Kept.refl [] _).drew | exact (Kept.refl [] _).drewN _)).mono ?_; rintro e w4 ⟨b1, rfl, hT1, hr1, hk4⟩; obtain ⟨r0, r1⟩ := HBX.out w4 hk4)
      | fail)
  all_goals
    go_wp2_with fail
    refine bodyPost_ret (v := .agg #[.slice (some ⟨b1, 0, none⟩) n1 (n1 + 8), .slice (some ⟨b2, 0, none⟩) n2 (n2 + 8)]) (by simp [results, Tryz.results35, go_sem, *]) rfl ?_
    have hr0 : w.heap.size + 2 ≤ b1 ∧ b1 < b2 := ⟨hr1.1, Nat.lt_of_lt_of_le hr1.2 hr2⟩
    refine ⟨b1, b2, rfl, ⟨⟨⟨by omega, by omega⟩, by omega⟩, ?_, ?_⟩, ?_⟩
    · exact TAt.kept (TAt.kept hT1 hk5 (by simp)) (((Kept.refl [w.heap.size + 1] w5).setCell (.inl (by simp)) _).setCell (.inl (by simp)) _) (by simp; omega)
    · exact TAt.kept hT2 (((Kept.refl [w.heap.size + 1] w5).setCell (.inl (by simp)) _).setCell (.inl (by simp)) _) (by simp; omega)
    · exact ((HK3.out.trans hk5').setCell (.inr (Nat.le_succ _)) _).setCell (.inr (Nat.le_succ _)) _
set_option maxRecDepth 100000 in
set_option maxHeartbeats 4000000 in
theorem untouchedPolicy_any (p : Pol) (b1 b2 : Nat) (ev av : Value) (w0 w : World) (hp : PolAt w0 ev av p) (hk0 : Kept [] w0 w) (hH : HPol w0 w b1 b2 p) (h1 : p.1.length ≤ 8796093022208) (h2 : p.2.length ≤ 8796093022208) :
    Calls Tryz.prog 37 #[.agg #[.slice (some ⟨b1, 0, none⟩) p.1.length (p.1.length + 8), .slice (some ⟨b2, 0, none⟩) p.2.length (p.2.length + 8)], .agg #[ev, av]] w fun e w' => e = .returned (.bool true) ∧ Kept [] w0 w' := by
  have H1 : Hid (∀ W, Kept [] w W → Calls Tryz.prog 40 #[.slice (some ⟨b1, 0, none⟩) p.1.length (p.1.length + 8), ev] W fun e w' => e = .returned (.bool true) ∧ Kept [b1] W w') := fun W hk => untouchedTexts_any p.1 b1 ev w0 W hp.1 (hk0.trans hk) hH.1.1.1 (hH.kept hk).2.1 h1
  have H2 : Hid (∀ W, Kept [b1] w W → Calls Tryz.prog 40 #[.slice (some ⟨b2, 0, none⟩) p.2.length (p.2.length + 8), av] W fun e w' => e = .returned (.bool true) ∧ Kept [b2] W w') := fun W hk => untouchedTexts_any p.2 b2 av w0 W hp.2 (hk0.trans_new hk (by simpa using hH.1.1.1)) hH.1.1.2 (TAt.kept hH.2.2 hk (by simpa using fun h => hH.1.2 h.symm)) h2
  obtain ⟨a1, c1, rfl⟩ := hp.1.form
  obtain ⟨a2, c2, rfl⟩ := hp.2.form
  have HGE : Hid (w0.heap.size ≤ b1 ∧ w0.heap.size ≤ b2) := hH.1.1
  have HLT : Hid (b1 < w.heap.size) := TAt.lt hH.2.1
  clear hp h1 h2 hH
  generalize p.1.length = n1 at *
  generalize p.2.length = n2 at *
  have hb1 : b1 < w.heap.size := HLT.out
  obtain ⟨w3, hw3⟩ : ∃ x, x = (w.alloc (.cells #[.slice (some ⟨b1, 0, none⟩) n1 (n1 + 8), .slice (some ⟨b2, 0, none⟩) n2 (n2 + 8)] 33)).alloc (.cells #[.slice a1 n1 c1, .slice a2 n2 c2] 33) := ⟨_, rfl⟩
  have hk3 : Kept [] w w3 := by rw [hw3]; exact ((Kept.refl [] w).alloc _).alloc _
  have hs3 : w3.heap.size = w.heap.size + 2 := by rw [hw3]; simp
  have hx0 : w3.heap[w.heap.size]? = some (.cells #[.slice (some ⟨b1, 0, none⟩) n1 (n1 + 8), .slice (some ⟨b2, 0, none⟩) n2 (n2 + 8)] 33 (0, 0)) := by
    rw [hw3]
    have hk : Kept [] (w.alloc (.cells #[.slice (some ⟨b1, 0, none⟩) n1 (n1 + 8), .slice (some ⟨b2, 0, none⟩) n2 (n2 + 8)] 33)) ((w.alloc (.cells #[.slice (some ⟨b1, 0, none⟩) n1 (n1 + 8), .slice (some ⟨b2, 0, none⟩) n2 (n2 + 8)] 33)).alloc (.cells #[.slice a1 n1 c1, .slice a2 n2 c2] 33)) := (Kept.refl [] _).alloc _
    exact (hk.block w.heap.size (by simp) (by simp)).trans (heap_alloc_new w _)
  have hx1 : w3.heap[w.heap.size + 1]? = some (.cells #[.slice a1 n1 c1, .slice a2 n2 c2] 33 (0, 0)) := by
    rw [hw3]
    have := heap_alloc_new (w.alloc (.cells #[.slice (some ⟨b1, 0, none⟩) n1 (n1 + 8), .slice (some ⟨b2, 0, none⟩) n2 (n2 + 8)] 33)) (.cells #[.slice a1 n1 c1, .slice a2 n2 c2] 33)
    rwa [show (w.alloc (.cells #[.slice (some ⟨b1, 0, none⟩) n1 (n1 + 8), .slice (some ⟨b2, 0, none⟩) n2 (n2 + 8)] 33)).heap.size = w.heap.size + 1 from Array.size_push ..] at this
  go_enter Tryz.func37, Tryz.ntmps37
  go_wp2_with fail
  rw [← hw3]
  clear hw3
  refine (H1.out w3 hk3).mono ?_
  rintro e w4 ⟨rfl, hk4⟩
  have hy0 := (hk4.block _ (by omega) (by simp; omega)).trans hx0
  have hy1 := (hk4.block _ (by omega) (by simp; omega)).trans hx1
  have q0 : w4.cell? ⟨w.heap.size, 1, none⟩ = some (.slice (some ⟨b2, 0, none⟩) n2 (n2 + 8)) := by unfold World.cell?; rw [hy0]; rfl
  have q1 : w4.cell? ⟨w.heap.size + 1, 1, none⟩ = some (.slice a2 n2 c2) := by unfold World.cell?; rw [hy1]; rfl
  clear hx0 hx1 hy0 hy1 hs3 hb1
  go_wp2_with fail
  have hk5 : Kept [b1] w w4 := (hk3.mono (by simp)).trans hk4
  refine (H2.out w4 hk5).mono ?_
  rintro e w5 ⟨rfl, hk6⟩
  go_wp2_with fail
  go_ret
  refine ⟨rfl, ?_⟩
  exact (hk0.trans_new hk5 (by simpa using HGE.out.1)).trans_new hk6 (by simpa using HGE.out.2)
end Go.Proofs.YtlpmjpmefdpcmaaGreatDoor
/- A call of Clean in the book; Cleans. -/
namespace Go.Proofs.YtlpmjpmefdpcmaaGreatDoor
open Go.RowKit Scrub Go.Shelf
set_option maxRecDepth 100000 in
set_option maxHeartbeats 1000000 in
theorem cleanL_any (w : World) (ht : Tabs w) : Calls Tryz.prog 17 #[] w fun e w' => e = .returned (.bool true) ∧ Kept [] w w' := by
  have HC : Hid (∀ w' v, Kept [] w w' → StrsAt w' v [[112]] → Calls Tryz.prog 20 #[.agg #[v, .slice none 0 0], .string ⟨#[60, 112, 32, 120, 61, 49, 62, 97, 60, 98, 62, 99, 60, 47, 98, 62, 60, 47, 112, 62]⟩] w' fun e w'' => e = .returned (.tuple #[.string ⟨#[60, 112, 62, 97, 99, 60, 47, 112, 62]⟩, .int .i64 0]) ∧ Kept [] w' w'') := fun w' v hk hv => by
    have h := clean_call v (.slice none 0 0) ([[112]], []) [60, 112, 32, 120, 61, 49, 62, 97, 60, 98, 62, 99, 60, 47, 98, 62, 60, 47, 112, 62] w' ⟨hv, StrsAt.nil _ _ _⟩ (ht.kept hk) (by decide) (by decide)
    rw [ex_clean] at h
    exact h
  clear ht
  go_enter Tryz.func17, Tryz.ntmps17
  go_wp2_with fail
  refine (HC.out _ _ ((Kept.refl [] w).alloc _) ?_).mono ?_
  · refine ⟨_, _, rfl, fun i hi => ⟨w.heap.size, 0, rfl, ?_⟩⟩
    have hi' : i < 1 := hi
    obtain rfl : i = 0 := by omega
    unfold World.cell?
    rw [heap_alloc_new]
    rfl
  · rintro e w1 ⟨rfl, hk1⟩
    go_wp2_with fail
    go_ret
    exact ⟨rfl, ((Kept.refl [] w).alloc _).trans hk1⟩
set_option maxRecDepth 100000 in
set_option maxHeartbeats 1000000 in
theorem one_clean' (H : World → Nat → Nat → Prop) (a1 a2 : Option Addr) (n1 c1 n2 c2 : Nat) (s ans : ByteArray) (code : Int) (bk : Nat) (w : World)
    (h0 : ∀ W W' b1 b2, H W b1 b2 → Kept [] W W' → H W' b1 b2)
    (h1 : ∀ W, Kept [] w W → Calls Tryz.prog 35 #[.agg #[.slice a1 n1 c1, .slice a2 n2 c2]] W fun e w' => ∃ b1 b2, e = .returned (.agg #[.slice (some ⟨b1, 0, none⟩) n1 (n1 + 8), .slice (some ⟨b2, 0, none⟩) n2 (n2 + 8)]) ∧ H w' b1 b2 ∧ Kept [] W w')
    (h2 : ∀ W b1 b2, Kept [] w W → H W b1 b2 → Calls Tryz.prog 20 #[.agg #[.slice (some ⟨b1, 0, none⟩) n1 (n1 + 8), .slice (some ⟨b2, 0, none⟩) n2 (n2 + 8)], .string s] W fun e w' => e = .returned (.tuple #[.string ans, .int .i64 code]) ∧ Kept [] W w')
    (h3 : ∀ W, Kept [] w W → Calls Tryz.prog 36 #[.agg #[.slice a1 n1 c1, .slice a2 n2 c2], .string s] W fun e w' => e = .returned (.tuple #[.string ans, .int .i64 code]) ∧ Kept [] W w')
    (h4 : ∀ W b1 b2, Kept [] w W → H W b1 b2 → Calls Tryz.prog 37 #[.agg #[.slice (some ⟨b1, 0, none⟩) n1 (n1 + 8), .slice (some ⟨b2, 0, none⟩) n2 (n2 + 8)], .agg #[.slice a1 n1 c1, .slice a2 n2 c2]] W fun e w' => e = .returned (.bool true) ∧ Kept [] w w')
    (hB : EmptyBook w bk) :
    Calls Tryz.prog 14 #[.pointer (some ⟨bk, 0, none⟩), .agg #[.int .i64 3, .string s, .slice none 0 0, .slice a1 n1 c1, .slice a2 n2 c2, .slice none 0 0]] w fun e w' => e = .returned (.bool true) ∧ Kept [] w w' := by
  have H0 : Hid _ := h0
  have H1 : Hid _ := h1
  have H2 : Hid _ := h2
  have H3 : Hid _ := h3
  have H4 : Hid _ := h4
  have HB : Hid (EmptyBook w bk) := hB
  clear h0 h1 h2 h3 h4 hB
  have hkx : Kept [] w (w.alloc (.cells #[.int .i64 3, .string s, .slice none 0 0, .slice a1 n1 c1, .slice a2 n2 c2, .slice none 0 0] 35)) := (Kept.refl _ _).alloc _
  have HBX : Hid (∀ W, Kept [] (w.alloc (.cells #[.int .i64 3, .string s, .slice none 0 0, .slice a1 n1 c1, .slice a2 n2 c2, .slice none 0 0] 35)) W → W.cell? ⟨w.heap.size, 1, none⟩ = some (.string s) ∧ W.cell? ⟨w.heap.size, 3, none⟩ = some (.slice a1 n1 c1) ∧ W.cell? ⟨w.heap.size, 4, none⟩ = some (.slice a2 n2 c2)) := by
    intro W hW
    have hsz : (w.alloc (.cells #[.int .i64 3, .string s, .slice none 0 0, .slice a1 n1 c1, .slice a2 n2 c2, .slice none 0 0] 35)).heap.size = w.heap.size + 1 := Array.size_push ..
    have hb := (hW.block w.heap.size (by omega) (by simp)).trans (heap_alloc_new w (.cells #[.int .i64 3, .string s, .slice none 0 0, .slice a1 n1 c1, .slice a2 n2 c2, .slice none 0 0] 35))
    simp [World.cell?, hb]
  have HKX : Hid _ := hkx
  clear hkx
  go_enter Tryz.func14, Tryz.ntmps14
  go_wp2_with fail
  refine (H1.out _ HKX.out).mono ?_
  rintro e w1 ⟨b1, b2, rfl, hrep, hk1⟩
  have HREP : Hid (H w1 b1 b2) := hrep
  obtain ⟨p1, p3, p4⟩ := HBX.out w1 hk1
  have hka : Kept [] w1 (w1.alloc (.cells #[.slice (some ⟨b1, 0, none⟩) n1 (n1 + 8), .slice (some ⟨b2, 0, none⟩) n2 (n2 + 8)] 33)) := (Kept.refl [] w1).alloc _
  have HBY : Hid (∀ W, Kept [] (w1.alloc (.cells #[.slice (some ⟨b1, 0, none⟩) n1 (n1 + 8), .slice (some ⟨b2, 0, none⟩) n2 (n2 + 8)] 33)) W → W.cell? ⟨w1.heap.size, 0, none⟩ = some (.slice (some ⟨b1, 0, none⟩) n1 (n1 + 8)) ∧ W.cell? ⟨w1.heap.size, 1, none⟩ = some (.slice (some ⟨b2, 0, none⟩) n2 (n2 + 8))) := by
    intro W hW
    have hb := (hW.block w1.heap.size (by simp) (by simp)).trans (heap_alloc_new w1 (.cells #[.slice (some ⟨b1, 0, none⟩) n1 (n1 + 8), .slice (some ⟨b2, 0, none⟩) n2 (n2 + 8)] 33))
    simp [World.cell?, hb]
  have HKA : Hid (Kept [] w1 (w1.alloc (.cells #[.slice (some ⟨b1, 0, none⟩) n1 (n1 + 8), .slice (some ⟨b2, 0, none⟩) n2 (n2 + 8)] 33))) := hka
  obtain ⟨z1, z3, z4⟩ := HBX.out _ (hk1.trans hka)
  clear hrep hka
  go_wp2_with fail
  refine (H2.out _ b1 b2 (HKX.out.trans (hk1.trans HKA.out)) (H0.out _ _ _ _ HREP.out HKA.out)).mono ?_
  rintro e w2 ⟨rfl, hk2⟩
  have hk12 := hk1.trans (HKA.out.trans hk2)
  clear p1 p3 p4 z1 z3 z4
  obtain ⟨p1, p3, p4⟩ := HBX.out w2 hk12
  go_wp2_with fail
  refine (H3.out w2 (HKX.out.trans hk12)).mono ?_
  rintro e w3 ⟨rfl, hk3⟩
  have hk13 := hk12.trans hk3
  clear p1 p3 p4
  obtain ⟨p1, p3, p4⟩ := HBX.out w3 hk13
  obtain ⟨y0, y1⟩ := HBY.out w3 (hk2.trans hk3)
  go_wp2_with fail
  refine (H4.out w3 b1 b2 (HKX.out.trans hk13) (H0.out _ _ _ _ (H0.out _ _ _ _ HREP.out HKA.out) (hk2.trans hk3))).mono ?_
  rintro e w4 ⟨rfl, hk4⟩
  clear p1 p3 p4 y0 y1
  have HBK : Hid (∀ W, Kept [] w W → EmptyBook W bk) := fun W hW i hi => cell_kept hW (HB.out i hi)
  go_wp2_with fail
  refine (rNum code w4).mono ?_
  rintro e w5 ⟨rfl, rfl⟩
  go_wp2_with fail
  refine (rLooks bk _ (HBK.out _ hk4)).mono ?_
  rintro e w6 ⟨rfl, m, rfl⟩
  go_wp2_with fail
  go_ret
  exact ⟨rfl, hk4.drewN m⟩
theorem one_clean (ev av : Value) (p : Pol) (s : List UInt8) (bk : Nat) (w : World) (hp : PolAt w ev av p) (h1 : p.1.length ≤ 8796093022208) (h2 : p.2.length ≤ 8796093022208) (ht : Tabs w) (hB : EmptyBook w bk) :
    Calls Tryz.prog 14 #[.pointer (some ⟨bk, 0, none⟩), .agg #[.int .i64 3, .string ⟨s.toArray⟩, .slice none 0 0, ev, av, .slice none 0 0]] w fun e w' => e = .returned (.bool true) ∧ Kept [] w w' := by
  obtain ⟨a1, c1, rfl⟩ := hp.1.form
  obtain ⟨a2, c2, rfl⟩ := hp.2.form
  refine one_clean' (fun W b1 b2 => HPol w W b1 b2 p) a1 a2 p.1.length c1 p.2.length c2 ⟨s.toArray⟩ ⟨(cleanAns p s).toArray⟩ (cleanErr p s) bk w ?_ ?_ ?_ ?_ ?_ hB
  · exact fun W W' b1 b2 hH hk => hH.kept hk
  · intro W hW
    refine (handedPolicy_any p _ _ W (hp.kept hW) h1 h2).mono ?_
    rintro e w' ⟨b1, b2, rfl, hH, hk⟩
    exact ⟨b1, b2, rfl, hH.old hW.size, hk⟩
  · intro W b1 b2 hW hH
    exact clean_all _ _ p s W hH.at (ht.kept hW).1 (ht.kept hW).2
  · intro W hW
    exact rCleanAll_any _ _ p s W (hp.kept hW)
  · intro W b1 b2 hW hH
    exact untouchedPolicy_any p b1 b2 _ _ w W hp hW hH h1 h2
/-- A book in which nothing stands, new. -/
def bookN : Obj := .cells #[.slice none 0 0, .slice none 0 0, .slice none 0 0, .slice none 0 0, .slice none 0 0, .slice none 0 0, .slice none 0 0] 28
/-- The world in which Cleans begins: the policy's box, the book. -/
def polW (w : World) (ev av : Value) : World := (w.alloc (.cells #[ev, av] 33)).alloc bookN
theorem polW_kept (w : World) (ev av : Value) : Kept [] w (polW w ev av) := ((Kept.refl [] w).alloc _).alloc _
theorem polW_size (w : World) (ev av : Value) : (polW w ev av).heap.size = w.heap.size + 2 := by simp [polW]
theorem polW_0 (w : World) (ev av : Value) : (polW w ev av).heap[w.heap.size]? = some (.cells #[ev, av] 33 (0, 0)) := by
  have hk : Kept [] (w.alloc (.cells #[ev, av] 33)) (polW w ev av) := (Kept.refl [] _).alloc _
  exact (hk.block w.heap.size (by simp) (by simp)).trans (heap_alloc_new w _)
theorem polW_1 (w : World) (ev av : Value) : (polW w ev av).heap[w.heap.size + 1]? = some bookN := by
  have := heap_alloc_new (w.alloc (.cells #[ev, av] 33)) bookN
  rwa [show (w.alloc (.cells #[ev, av] 33)).heap.size = w.heap.size + 1 from Array.size_push ..] at this
theorem polW_book (w : World) (ev av : Value) (W : World) (hW : Kept [] (polW w ev av) W) : EmptyBook W (w.heap.size + 1) := by
  intro i hi
  have hb := (hW.block (w.heap.size + 1) (by rw [polW_size]; omega) (by simp)).trans (polW_1 w ev av)
  have : i = 0 ∨ i = 1 ∨ i = 2 ∨ i = 3 ∨ i = 4 ∨ i = 5 ∨ i = 6 := by omega
  rcases this with rfl | rfl | rfl | rfl | rfl | rfl | rfl <;> simp [World.cell?, hb, bookN]
theorem polW_pol (w : World) (ev av : Value) (W : World) (hW : Kept [] (polW w ev av) W) : W.cell? ⟨w.heap.size, 0, none⟩ = some ev ∧ W.cell? ⟨w.heap.size, 1, none⟩ = some av := by
  have hb := (hW.block w.heap.size (by rw [polW_size]; omega) (by simp)).trans (polW_0 w ev av)
  exact ⟨by unfold World.cell?; rw [hb]; rfl, by unfold World.cell?; rw [hb]; rfl⟩
set_option maxRecDepth 100000 in
set_option maxHeartbeats 1000000 in
theorem cleans_any (ev av : Value) (p : Pol) (s : List UInt8) (w : World) (hp : PolAt w ev av p) (h1 : p.1.length ≤ 8796093022208) (h2 : p.2.length ≤ 8796093022208) (ht : Tabs w) :
    Calls Tryz.prog 5 #[.agg #[ev, av], .string ⟨s.toArray⟩] w fun e w' => e = .returned (.bool true) ∧ Kept [] w w' := by
  have HONE : Hid (∀ W, Kept [] w W → EmptyBook W (w.heap.size + 1) → Calls Tryz.prog 14 #[.pointer (some ⟨w.heap.size + 1, 0, none⟩), .agg #[.int .i64 3, .string ⟨s.toArray⟩, .slice none 0 0, ev, av, .slice none 0 0]] W fun e w' => e = .returned (.bool true) ∧ Kept [] W w') := fun W hW hB => one_clean ev av p s _ W (hp.kept hW) h1 h2 (ht.kept hW) hB
  have HCL : Hid (Calls Tryz.prog 17 #[] (polW w ev av) fun e w' => e = .returned (.bool true) ∧ Kept [] (polW w ev av) w') := cleanL_any _ (ht.kept (polW_kept w ev av))
  have HBK : Hid (∀ W, Kept [] (polW w ev av) W → EmptyBook W (w.heap.size + 1)) := polW_book w ev av
  have HPB : Hid (∀ W, Kept [] (polW w ev av) W → W.cell? ⟨w.heap.size, 0, none⟩ = some ev ∧ W.cell? ⟨w.heap.size, 1, none⟩ = some av) := polW_pol w ev av
  have HKP : Hid (Kept [] w (polW w ev av)) := polW_kept w ev av
  obtain ⟨a1, c1, rfl⟩ := hp.1.form
  obtain ⟨a2, c2, rfl⟩ := hp.2.form
  clear hp h1 h2 ht
  generalize p.1.length = n1 at *
  generalize p.2.length = n2 at *
  go_enter Tryz.func5, Tryz.ntmps5
  go_wp2_with fail
  refine HCL.out.mono ?_
  rintro e w1 ⟨rfl, hk1⟩
  obtain ⟨q0, q1⟩ := HPB.out w1 hk1
  go_wp2_with fail
  refine (HONE.out w1 (HKP.out.trans hk1) (HBK.out w1 hk1)).mono ?_
  rintro e w2 ⟨rfl, hk2⟩
  go_wp2_with fail
  go_ret
  exact ⟨rfl, (HKP.out.trans hk1).trans hk2⟩
end Go.Proofs.YtlpmjpmefdpcmaaGreatDoor
