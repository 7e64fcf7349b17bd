import Derived.Test.YtlpmjpmefdpcmaaGreatDoorQHc
import Derived.Test.YtlpmjpmefdpcmaaGreatDoorQHe
import Derived.Test.YtlpmjpmefdpcmaaGreatDoorQRl
import Derived.Test.YtlpmjpmefdpcmaaGreatDoorQRn
/- A list that was handed in may be read; a call of Write in the book. -/
namespace Go.Proofs.YtlpmjpmefdpcmaaGreatDoor
open Go.RowKit Scrub Go.Shelf
theorem HAttrs.lies {w : World} {b : Nat} {al : List (List UInt8 × List UInt8)} (h : HAttrs w b al) : LiesA w (.slice (some ⟨b, 0, none⟩) al.length (al.length + 8)) al := by
  refine ⟨_, _, rfl, fun i hi => ⟨b, 0, rfl, ?_⟩⟩
  have hR : ∀ r ∈ al.map aRow ++ List.replicate 8 bAttr, r.length = 2 := by
    intro r hr
    rcases List.mem_append.1 hr with hr | hr
    · obtain ⟨p, _, rfl⟩ := List.mem_map.1 hr; rfl
    · rw [(List.mem_replicate.1 hr).2]; rfl
  have hl : i < (al.map aRow ++ List.replicate 8 bAttr).length := by simp; omega
  have he : (al.map aRow ++ List.replicate 8 bAttr)[i] = aRow al[i] := by
    rw [List.getElem_append_left (by simpa using hi)]
    simp
  have c0 := RowsAt.cell h 2 i 0 hl hR (by omega)
  have c1 := RowsAt.cell h 2 i 1 hl hR (by omega)
  rw [he] at c0 c1
  rw [Nat.zero_add]
  exact ⟨c0, c1⟩
theorem HRep.lies : ∀ {d : Nat} {w : World} {b : Nat} {f : GF d} {fp : List Nat}, HRep d w b f fp → Lies d w (.slice (some ⟨b, 0, none⟩) (glen d f) (glen d f + 8)) f
  | 0, _, _, _, _, _ => ⟨_, _, rfl⟩
  | d + 1, w, b, f, fp, h => by
    obtain ⟨ps, h1, h2, h3, h4, h5⟩ := h
    have hll : ps.length = (gnodes d f).length := by rw [← h1, List.length_map]
    refine ⟨_, _, rfl, fun i hi => ⟨b, 0, rfl, ?_⟩⟩
    have hi' : i < ps.length := by omega
    have e : (gnodes d f)[i] = (ps[i]).1 := by simp [← h1]
    rw [e]
    obtain ⟨a1, a2⟩ := h3 ps[i] (List.getElem_mem hi')
    have hl : i < (ps.map hRow ++ List.replicate 8 bNode).length := by simp; omega
    have he : (ps.map hRow ++ List.replicate 8 bNode)[i] = hRow ps[i] := by
      rw [List.getElem_append_left (by simpa using hi')]
      simp
    have c0 := h2.cell 4 i 0 hl (pRows ps) (by omega)
    have c1 := h2.cell 4 i 1 hl (pRows ps) (by omega)
    have c2 := h2.cell 4 i 2 hl (pRows ps) (by omega)
    have c3 := h2.cell 4 i 3 hl (pRows ps) (by omega)
    rw [he] at c0 c1 c2 c3
    rw [Nat.zero_add]
    exact ⟨_, _, c0, c1, c2, c3, a1.lies, a2.lies⟩
end Go.Proofs.YtlpmjpmefdpcmaaGreatDoor
/- A call of Write in the book. -/
namespace Go.Proofs.YtlpmjpmefdpcmaaGreatDoor
open Go.RowKit Scrub Go.Shelf
set_option maxRecDepth 100000 in
set_option maxHeartbeats 1000000 in
theorem one_write' (H : World → Nat → List Nat → Prop) (a : Option Addr) (n c : Nat) (ans : ByteArray) (code : Int) (bk : Nat) (w : World)
    (h1 : ∀ W, Kept [] w W → Calls Tryz.prog 32 #[.slice a n c] W fun e w' => ∃ b fp, e = .returned (.slice (some ⟨b, 0, none⟩) n (n + 8)) ∧ H w' b fp ∧ (∀ x ∈ fp, w.heap.size ≤ x) ∧ Kept [] W w')
    (h2 : ∀ W b fp, Kept [] w W → H W b fp → Calls Tryz.prog 16 #[.slice (some ⟨b, 0, none⟩) n (n + 8)] W fun e w' => e = .returned (.tuple #[.string ans, .int .i64 code]) ∧ H w' b fp ∧ Kept [] W w')
    (h3 : ∀ W b fp, Kept [] w W → H W b fp → Calls Tryz.prog 33 #[.slice a n c] W fun e w' => e = .returned (.tuple #[.string ans, .int .i64 code]) ∧ H w' b fp ∧ Kept [] W w')
    (h4 : ∀ W b fp, Kept [] w W → H W b fp → (∀ x ∈ fp, w.heap.size ≤ x) → Calls Tryz.prog 34 #[.slice (some ⟨b, 0, none⟩) n (n + 8), .slice a n c] W fun e w' => e = .returned (.bool true) ∧ Kept [] w w')
    (hB : EmptyBook w bk) :
    Calls Tryz.prog 14 #[.pointer (some ⟨bk, 0, none⟩), .agg #[.int .i64 2, .string ⟨#[]⟩, .slice a n c, .slice none 0 0, .slice none 0 0, .slice none 0 0]] w fun e w' => e = .returned (.bool true) ∧ Kept [] w w' := by
  have H1 : Hid _ := h1
  have H2 : Hid _ := h2
  have H3 : Hid _ := h3
  have H4 : Hid _ := h4
  have HB : Hid (EmptyBook w bk) := hB
  clear h1 h2 h3 h4 hB
  have hkx : Kept [] w (w.alloc (.cells #[.int .i64 2, .string ⟨#[]⟩, .slice a n c, .slice none 0 0, .slice none 0 0, .slice none 0 0] 35)) := (Kept.refl _ _).alloc _
  have HBX : Hid (∀ W, Kept [] (w.alloc (.cells #[.int .i64 2, .string ⟨#[]⟩, .slice a n c, .slice none 0 0, .slice none 0 0, .slice none 0 0] 35)) W → W.cell? ⟨w.heap.size, 2, none⟩ = some (.slice a n c)) := by
    intro W hW
    have hsz : (w.alloc (.cells #[.int .i64 2, .string ⟨#[]⟩, .slice a n c, .slice none 0 0, .slice none 0 0, .slice none 0 0] 35)).heap.size = w.heap.size + 1 := Array.size_push ..
    have hb := (hW.block w.heap.size (by omega) (by simp)).trans (heap_alloc_new w (.cells #[.int .i64 2, .string ⟨#[]⟩, .slice a n c, .slice none 0 0, .slice none 0 0, .slice none 0 0] 35))
    simp [World.cell?, hb]
  have HKX : Hid _ := hkx
  clear hkx
  go_enter Tryz.func14, Tryz.ntmps14
  go_wp2_with fail
  refine (H1.out _ HKX.out).mono ?_
  rintro e w1 ⟨b, fp, rfl, hrep, hge, hk1⟩
  have HREP : Hid (H w1 b fp) := hrep
  have HGE : Hid (∀ x ∈ fp, w.heap.size ≤ x) := hge
  have q1 := HBX.out w1 hk1
  clear hrep hge
  go_wp2_with fail
  refine (H2.out w1 b fp (HKX.out.trans hk1) HREP.out).mono ?_
  rintro e w2 ⟨rfl, hrep, hk2⟩
  have HREP2 : Hid (H w2 b fp) := hrep
  have q2 := HBX.out w2 (hk1.trans hk2)
  clear hrep q1
  go_wp2_with fail
  refine (H3.out w2 b fp (HKX.out.trans (hk1.trans hk2)) HREP2.out).mono ?_
  rintro e w3 ⟨rfl, hrep, hk3⟩
  have HREP3 : Hid (H w3 b fp) := hrep
  have q3 := HBX.out w3 (hk1.trans (hk2.trans hk3))
  clear hrep q2
  go_wp2_with fail
  refine (H4.out w3 b fp (HKX.out.trans (hk1.trans (hk2.trans hk3))) HREP3.out HGE.out).mono ?_
  rintro e w4 ⟨rfl, hk4⟩
  clear q3
  have HBK : Hid (∀ W, Kept [] w W → EmptyBook W bk) := fun W hW i hi => cell_kept hW (HB.out i hi)
  have HNUM : Hid _ := rNum code
  go_wp2_with fail
  refine (rNum code w4).mono ?_
  rintro e w5 ⟨rfl, rfl⟩
  go_wp2_with fail
  refine (rLooks bk _ (HBK.out _ hk4)).mono ?_
  rintro e w6 ⟨rfl, m, rfl⟩
  go_wp2_with fail
  go_ret
  exact ⟨rfl, hk4.drewN m⟩
theorem one_write (d : Nat) (f : GF d) (a : Option Addr) (c : Nat) (bk : Nat) (w : World) (hL : Lies d w (.slice a (glen d f) c) f) (hb : bulkF d f ≤ 1099511627776) (hg : Glob w) (hB : EmptyBook w bk) :
    Calls Tryz.prog 14 #[.pointer (some ⟨bk, 0, none⟩), .agg #[.int .i64 2, .string ⟨#[]⟩, .slice a (glen d f) c, .slice none 0 0, .slice none 0 0, .slice none 0 0]] w fun e w' => e = .returned (.bool true) ∧ Kept [] w w' := by
  refine one_write' (fun W b fp => HRep d W b f fp) a (glen d f) c ⟨(writeAns d f).toArray⟩ (checkF d f) bk w ?_ ?_ ?_ ?_ hB
  · intro W hW
    refine (handed_any d f _ W (hL.kept d hW) hb).mono ?_
    rintro e w' ⟨fp, rfl, h1, h2, h3⟩
    exact ⟨_, fp, rfl, h1, fun x hx => Nat.le_trans hW.size (h2 x hx), h3⟩
  · intro W b fp hW hH
    refine (write_any d f _ W hH.lies hb (hg.kept hW (by simp) (by simp))).mono ?_
    rintro e w' ⟨rfl, h1⟩
    exact ⟨rfl, hH.kept h1 (by simp), h1⟩
  · intro W b fp hW hH
    refine (rWrite d f _ W (hL.kept d hW) hb).mono ?_
    rintro e w' ⟨rfl, h1⟩
    exact ⟨rfl, hH.kept h1 (by simp), h1⟩
  · intro W b fp hW hH hge
    refine (look_any d f b fp _ w W hL hW hge hH hb).mono ?_
    rintro e w' ⟨rfl, h1⟩
    exact ⟨rfl, hW.trans_new h1 (fun x hx => .inr (hge x hx))⟩
end Go.Proofs.YtlpmjpmefdpcmaaGreatDoor
/- Writes. -/
namespace Go.Proofs.YtlpmjpmefdpcmaaGreatDoor
open Go.RowKit Scrub Go.Shelf
/-- What Writes writes ahead. -/
def firstF : GF 2 := [(([112] : List UInt8), ([] : List (List UInt8 × List UInt8)), ([(([] : List UInt8), ([] : List (List UInt8 × List UInt8)), (), ([97, 60] : List UInt8))] : List (List UInt8 × List (List UInt8 × List UInt8) × Unit × List UInt8)), ([] : List UInt8))]
theorem firstF_ans : writeAns 2 firstF = [60, 112, 62, 97, 38, 108, 116, 59, 60, 47, 112, 62] := by decide
theorem firstF_check : checkF 2 firstF = 0 := by decide
/-- The world in which that is written: a book, a text, an element. -/
def bookO : Obj := .cells #[.slice none 0 0, .slice none 0 0, .slice none 0 0, .slice none 0 0, .slice none 0 0, .slice none 0 0, .slice none 0 0] 28
def textO : Obj := .cells #[.string ⟨#[]⟩, .slice none 0 0, .slice none 0 0, .string ⟨#[97, 60]⟩] 42
def elemO (b : Nat) : Obj := .cells #[.string ⟨#[112]⟩, .slice none 0 0, .slice (some ⟨b, 0, none⟩) 1 1, .string ⟨#[]⟩] 42
def firstW (w : World) : World := ((w.alloc bookO).alloc textO).alloc (elemO (w.heap.size + 1))
theorem firstW_kept (w : World) : Kept [] w (firstW w) := (((Kept.refl [] w).alloc _).alloc _).alloc _
theorem firstW_size (w : World) : (firstW w).heap.size = w.heap.size + 3 := by
  have h1 : (w.alloc bookO).heap.size = w.heap.size + 1 := Array.size_push ..
  have h2 : ((w.alloc bookO).alloc textO).heap.size = (w.alloc bookO).heap.size + 1 := Array.size_push ..
  have h3 : (firstW w).heap.size = ((w.alloc bookO).alloc textO).heap.size + 1 := Array.size_push ..
  omega
theorem firstW_0 (w : World) : (firstW w).heap[w.heap.size]? = some bookO := by
  have h1 := heap_alloc_new w bookO
  have hk : Kept [] (w.alloc bookO) (firstW w) := ((Kept.refl [] _).alloc _).alloc _
  have hs : (w.alloc bookO).heap.size = w.heap.size + 1 := Array.size_push ..
  exact (hk.block w.heap.size (by omega) (by simp)).trans h1
theorem firstW_1 (w : World) : (firstW w).heap[w.heap.size + 1]? = some textO := by
  have h1 := heap_alloc_new (w.alloc bookO) textO
  have hs : (w.alloc bookO).heap.size = w.heap.size + 1 := Array.size_push ..
  rw [hs] at h1
  have hk : Kept [] ((w.alloc bookO).alloc textO) (firstW w) := (Kept.refl [] _).alloc _
  have hs2 : ((w.alloc bookO).alloc textO).heap.size = (w.alloc bookO).heap.size + 1 := Array.size_push ..
  exact (hk.block (w.heap.size + 1) (by omega) (by simp)).trans h1
theorem firstW_2 (w : World) : (firstW w).heap[w.heap.size + 2]? = some (elemO (w.heap.size + 1)) := by
  have h1 := heap_alloc_new ((w.alloc bookO).alloc textO) (elemO (w.heap.size + 1))
  have hs0 : (w.alloc bookO).heap.size = w.heap.size + 1 := Array.size_push ..
  have hs : ((w.alloc bookO).alloc textO).heap.size = w.heap.size + 2 := by
    have h2 : ((w.alloc bookO).alloc textO).heap.size = (w.alloc bookO).heap.size + 1 := Array.size_push ..
    omega
  rw [hs] at h1
  exact h1
theorem firstW_lies (w : World) : Lies 2 (firstW w) (.slice (some ⟨w.heap.size + 1 + 1, 0, none⟩) 1 1) firstF := by
  have b1 := firstW_1 w
  have b2 := firstW_2 w
  refine ⟨_, _, rfl, fun i hi => ⟨w.heap.size + 2, 0, rfl, ?_⟩⟩
  have hi0 : i = 0 := by
    have hi' : i < 1 := hi
    omega
  subst hi0
  refine ⟨.slice none 0 0, .slice (some ⟨w.heap.size + 1, 0, none⟩) 1 1, by simp [World.cell?, b2, elemO]; rfl, by simp [World.cell?, b2, elemO], by simp [World.cell?, b2, elemO], by simp [World.cell?, b2, elemO]; rfl, ⟨none, 0, rfl, fun i hi => absurd hi (Nat.not_lt_zero i)⟩, ?_⟩
  refine ⟨_, _, rfl, fun i hi => ⟨w.heap.size + 1, 0, rfl, ?_⟩⟩
  have hi0 : i = 0 := by
    have hi' : i < 1 := hi
    omega
  subst hi0
  exact ⟨.slice none 0 0, .slice none 0 0, by simp [World.cell?, b1, textO]; rfl, by simp [World.cell?, b1, textO], by simp [World.cell?, b1, textO], by simp [World.cell?, b1, textO]; rfl, ⟨none, 0, rfl, fun i hi => absurd hi (Nat.not_lt_zero i)⟩, ⟨none, 0, rfl⟩⟩
theorem firstW_write (w : World) (hg : Glob w) : Calls Tryz.prog 16 #[.slice (some ⟨w.heap.size + 1 + 1, 0, none⟩) 1 1] (firstW w) fun e w' => e = .returned (.tuple #[.string ⟨#[60, 112, 62, 97, 38, 108, 116, 59, 60, 47, 112, 62]⟩, .int .i64 0]) ∧ Kept [] w w' ∧ EmptyBook w' w.heap.size := by
  refine (write_any 2 firstF _ (firstW w) (firstW_lies w) (by decide) (hg.kept (firstW_kept w) (by simp) (by simp))).mono ?_
  rintro e w' ⟨rfl, hk⟩
  rw [firstF_ans, firstF_check]
  refine ⟨rfl, (firstW_kept w).trans hk, fun i hi => ?_⟩
  have hb := (hk.block w.heap.size (by rw [firstW_size]; omega) (by simp)).trans (firstW_0 w)
  have : i = 0 ∨ i = 1 ∨ i = 2 ∨ i = 3 ∨ i = 4 ∨ i = 5 ∨ i = 6 := by omega
  rcases this with rfl | rfl | rfl | rfl | rfl | rfl | rfl <;> simp [World.cell?, hb, bookO]
set_option maxRecDepth 100000 in
set_option maxHeartbeats 1000000 in
theorem writes_any (d : Nat) (f : GF d) (v : Value) (w : World) (hL : Lies d w v f) (hb : bulkF d f ≤ 1099511627776) (hg : Glob w) :
    Calls Tryz.prog 4 #[v] w fun e w' => e = .returned (.bool true) ∧ Kept [] w w' := by
  obtain ⟨a, c, rfl⟩ := hL.form
  have HONE : Hid (∀ W, Kept [] w W → EmptyBook W w.heap.size → Calls Tryz.prog 14 #[.pointer (some ⟨w.heap.size, 0, none⟩), .agg #[.int .i64 2, .string ⟨#[]⟩, .slice a (glen d f) c, .slice none 0 0, .slice none 0 0, .slice none 0 0]] W fun e w' => e = .returned (.bool true) ∧ Kept [] W w') := fun W hW hB => one_write d f a c w.heap.size W (hL.kept d hW) hb (hg.kept hW (by simp) (by simp)) hB
  have HWR : Hid (Calls _ _ _ _ _) := firstW_write w hg
  clear hL hg hb
  generalize glen d f = n at *
  go_enter Tryz.func4, Tryz.ntmps4
  go_wp2_with fail
  refine HWR.out.mono ?_
  rintro e w1 ⟨rfl, hk1, hB⟩
  have HB : Hid (EmptyBook w1 w.heap.size) := hB
  clear hB
  go_wp2_with fail
  refine (HONE.out w1 hk1 HB.out).mono ?_
  rintro e w2 ⟨rfl, hk2⟩
  go_wp2_with fail
  go_ret
  exact ⟨rfl, hk1.trans hk2⟩
end Go.Proofs.YtlpmjpmefdpcmaaGreatDoor
