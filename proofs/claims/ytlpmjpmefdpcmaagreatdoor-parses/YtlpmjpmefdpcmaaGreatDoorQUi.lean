import Derived.Test.YtlpmjpmefdpcmaaGreatDoorQUh
import Derived.Deep.RegionHeld3
/- The book is looked at: do all lists that were marked read so? -/
namespace Go.Proofs.YtlpmjpmefdpcmaaGreatDoor
open Go.RowKit Scrub Go.Shelf
theorem row_some {w : World} {e : TypeId} {s n c : Nat} {a : Option Addr} {xs : List Value} (h : w.ownsRow 0 e s (.slice a n c) n xs) (hn : 0 < n) : ∃ g, a = some ⟨g, 0, none⟩ := by
  rcases h.2 with ⟨e, _⟩ | ⟨g, cap, cur, e, _⟩
  · injection e with e1 e2 e3
    omega
  · injection e with e1 e2 e3
    exact ⟨g, e1⟩
theorem MK.spotA {w : World} {T : ByteArray} {a : Option Addr} {n c : Nat} (h : MK w [.string T, .string ⟨#[]⟩] (.slice a n c)) {i : Nat} (hi : i < n) : ∃ g, a = some ⟨g, 0, none⟩ ∧ w.cell? ⟨g, i * 2, none⟩ = some (.string T) ∧ w.cell? ⟨g, i * 2 + 1, none⟩ = some (.string ⟨#[]⟩) := by
  obtain ⟨a', n', c', e, _, h1⟩ := h
  injection e with e1 e2 e3
  subst e1 e2 e3
  obtain ⟨g, e, c0⟩ := h1 (i * 2) (by simp; omega)
  obtain ⟨g', e', c1⟩ := h1 (i * 2 + 1) (by simp; omega)
  rw [e] at e'
  injection e' with e'
  injection e' with e'
  subst e'
  refine ⟨g, e, ?_, ?_⟩
  · rw [c0]
    simp
  · rw [c1]
    have : (i * 2 + 1) % 2 = 1 := by omega
    simp [this]
theorem MK.spotN {w : World} {T : ByteArray} {a : Option Addr} {n c : Nat} (h : MK w [.string ⟨#[]⟩, .slice none 0 0, .slice none 0 0, .string T] (.slice a n c)) {i : Nat} (hi : i < n) : ∃ g, a = some ⟨g, 0, none⟩ ∧ w.cell? ⟨g, i * 4, none⟩ = some (.string ⟨#[]⟩) ∧ w.cell? ⟨g, i * 4 + 1, none⟩ = some (.slice none 0 0) ∧ w.cell? ⟨g, i * 4 + 2, none⟩ = some (.slice none 0 0) ∧ w.cell? ⟨g, i * 4 + 3, none⟩ = some (.string T) := by
  obtain ⟨a', n', c', e, _, h1⟩ := h
  injection e with e1 e2 e3
  subst e1 e2 e3
  obtain ⟨g, e, c0⟩ := h1 (i * 4) (by simp; omega)
  obtain ⟨g1, e1, c1⟩ := h1 (i * 4 + 1) (by simp; omega)
  obtain ⟨g2, e2, c2⟩ := h1 (i * 4 + 2) (by simp; omega)
  obtain ⟨g3, e3, c3⟩ := h1 (i * 4 + 3) (by simp; omega)
  rw [e] at e1 e2 e3
  injection e1 with e1
  injection e1 with e1
  injection e2 with e2
  injection e2 with e2
  injection e3 with e3
  injection e3 with e3
  subst e1 e2 e3
  refine ⟨g, e, ?_, ?_, ?_, ?_⟩
  · rw [c0]
    simp
  · rw [c1]
    have : (i * 4 + 1) % 4 = 1 := by omega
    simp [this]
  · rw [c2]
    have : (i * 4 + 2) % 4 = 2 := by omega
    simp [this]
  · rw [c3]
    have : (i * 4 + 3) % 4 = 3 := by omega
    simp [this]
set_option maxRecDepth 100000 in
set_option maxHeartbeats 4000000 in
theorem reads_any (bk : Nat) (nv av wv ev : Value) (N A : List Value) (M : List Nat) (w : World) (h : BookM w bk nv av wv ev N A M) (hN : N.length + A.length ≤ 1099511627776) :
    Calls Tryz.prog 47 #[.pointer (some ⟨bk, 0, none⟩)] w fun e w' => e = .returned (.bool true) ∧ Kept [] w w' := by
  obtain ⟨na, nc, rfl⟩ := ownsRow_form h.nrow
  obtain ⟨aa, ac, rfl⟩ := ownsRow_form h.arow
  have q0 := h.place.cell0
  have q1 := h.place.cell1
  obtain ⟨q2, _, _⟩ := h.place.cellT
  have HH : Hid (BookM w bk _ _ wv ev N A M) := h
  clear h
  generalize hnn : N.length = nn at *
  generalize han : A.length = an at *
  have HNN : Hid (N.length = nn) := hnn
  have HAN : Hid (A.length = an) := han
  clear hnn han
  have HAR : Hid (w.ownsRow 0 40 1 (.slice aa an ac) an A) := by
    have := HH.out.arow
    rw [HAN.out] at this
    exact this
  have HNR : Hid (w.ownsRow 0 31 1 (.slice na nn nc) nn N) := by
    have := HH.out.nrow
    rw [HNN.out] at this
    exact this
  go_enter Tryz.func47, Tryz.ntmps47
  go_wp2_with fail
  go_loopg [3, 4] 0 (fun g ok x wr => g = 0 ∧ ok = .bool true ∧ x = .int .i64 0 ∧ w = wr)
  case atStart => exact ⟨rfl, rfl, rfl, rfl⟩
  case round =>
    obtain ⟨rfl, rfl, rfl, rfl⟩ := hrel
    go_wp2_with fail
    go_loopg [3, 6] an (fun g ok x wr => ∃ k : Nat, k ≤ an ∧ g = an - k ∧ ok = .bool true ∧ x = .int .i64 (k : Int) ∧ Kept [] w wr)
    case atStart => exact ⟨0, by omega, rfl, rfl, rfl, Kept.refl _ _⟩
    case round =>
      obtain ⟨wo, hwo⟩ : ∃ x, x = wr := ⟨_, rfl⟩
      subst hwo
      obtain ⟨k, hks, hgk, rfl, rfl, hkw⟩ := hrel
      have HG : Hid _ := hgk
      clear hgk
      have hge : (0 : Int) ≤ (k : Int) := by omega
      have p0 := cell_kept hkw q0
      have p1 := cell_kept hkw q1
      by_cases hlt : k < an
      · have hlt' : (k : Int) < (an : Int) := by omega
        have hkl : k < A.length := by rw [HAN.out]; exact hlt
        obtain ⟨g, rfl⟩ := row_some HAR.out (by omega)
        have c1 := cell_kept hkw (row_cell HAR.out (List.getElem?_eq_getElem hkl))
        have hmk := HH.out.am k _ (List.getElem?_eq_getElem hkl)
        obtain ⟨xa, xn, xc, hx, hxm, _⟩ := hmk
        have hxn : xn ≤ 9223372036854775807 := hxm
        have hmk := HH.out.am k _ (List.getElem?_eq_getElem hkl)
        rw [hx] at hmk c1
        obtain ⟨T, HT⟩ : ∃ T, Hid (T = (⟨(textP (k / 4)).toArray⟩ : ByteArray)) := ⟨_, rfl⟩
        have HMK : Hid (MK w [.string T, .string ⟨#[]⟩] (.slice xa xn xc)) := by
          show MK _ _ _
          rw [HT.out]
          exact hmk
        have HTX : Hid (∀ W, Calls Tryz.prog 68 #[.int .i64 (IntKind.i64.wrap ((k : Int) / 4))] W fun e w' => e = .returned (.string T) ∧ Kept [] W w') := by
          intro W
          have e : IntKind.i64.wrap ((k : Int) / 4) = ((k / 4 : Nat) : Int) := by rw [IntKind.wrap_i64]; omega
          rw [HT.out, e]
          exact markText_any (k / 4) W (by omega)
        clear hmk HT hxm
        go_wp2_with fail
        go_loopg [3, 7] xn (fun g' ok x wr => ∃ i : Nat, i ≤ xn ∧ g' = xn - i ∧ ok = .bool true ∧ x = .int .i64 (i : Int) ∧ Kept [] w wr)
        case atStart => exact ⟨0, by omega, rfl, rfl, rfl, hkw⟩
        case round =>
          obtain ⟨wi, hwi⟩ : ∃ x, x = wr := ⟨_, rfl⟩
          subst hwi
          obtain ⟨i, his, hgi, rfl, rfl, hki⟩ := hrel
          have HGI : Hid _ := hgi
          clear hgi
          have hgi0 : (0 : Int) ≤ (i : Int) := by omega
          have s1 := cell_kept hki q1
          have s2 := cell_kept hki (row_cell HAR.out (List.getElem?_eq_getElem hkl))
          by_cases hil : i < xn
          · have hil' : (i : Int) < (xn : Int) := by omega
            obtain ⟨g2, rfl, d0, d1⟩ := HMK.out.spotA hil
            have s3 := cell_kept hki d0
            have s4 := cell_kept hki d1
            rw [hx] at s2
            have HQ : Hid (∀ W, Kept [] wi W → W.cell? ⟨bk, 1, none⟩ = some (.slice (some ⟨g, 0, none⟩) an ac) ∧ W.cell? ⟨g, k, none⟩ = some (.slice (some ⟨g2, 0, none⟩) xn xc) ∧ W.cell? ⟨g2, i * 2, none⟩ = some (.string T) ∧ W.cell? ⟨g2, i * 2 + 1, none⟩ = some (.string ⟨#[]⟩)) := fun W hW => ⟨cell_kept hW s1, cell_kept hW s2, cell_kept hW s3, cell_kept hW s4⟩
            clear d0 d1 p0 p1 c1 q0 q1 q2
            go_wp2_with fail
            go_region_held3 (fun w' => w'.cell? ⟨bk, 1, none⟩ = some (.slice (some ⟨g, 0, none⟩) an ac) ∧ w'.cell? ⟨g, k, none⟩ = some (.slice (some ⟨g2, 0, none⟩) xn xc) ∧ w'.cell? ⟨g2, i * 2, none⟩ = some (.string T) ∧ w'.cell? ⟨g2, i * 2 + 1, none⟩ = some (.string ⟨#[]⟩)) (go_keep)
              (first
                | (go_at_call 68; refine (HTX.out _).mono ?_; rintro e w5 ⟨rfl, hk5'⟩; have hk5 : Kept [] wi w5 := (by first | exact hk5' | exact (Kept.refl [] wi).drew.trans hk5' | exact ((Kept.refl [] wi).drewN _).trans hk5'); obtain ⟨r1, r2, r3, r4⟩ := HQ.out w5 hk5)
                | fail)
            clear s1 s2 s3 s4 r1 r2 r3 r4
            go_wp2_with fail
            go_roundg (xn - (i + 1))
            case measure => rw [HGI.out]; omega
            case rel => exact ⟨i + 1, by omega, rfl, rfl, by first | rfl | congr 1, hki.trans hk5⟩
          · obtain rfl : i = xn := by omega
            have hil' : ((i : Int) < (i : Int)) = False := by simp
            rw [hx] at s2
            go_wp2_with fail
            go_roundg (an - (k + 1))
            case measure => rw [HG.out]; omega
            case rel => exact ⟨k + 1, by omega, rfl, rfl, by first | rfl | congr 1, hki⟩
      · obtain rfl : k = an := by omega
        have hlt' : ((k : Int) < (k : Int)) = False := by simp
        have HKW : Hid (Kept [] w wo) := hkw
        clear HG
        go_wp2_with fail
        go_loopg [3, 8] nn (fun g ok x wr => ∃ k : Nat, k ≤ nn ∧ g = nn - k ∧ ok = .bool true ∧ x = .int .i64 (k : Int) ∧ Kept [] w wr)
        case atStart => exact ⟨0, by omega, rfl, rfl, rfl, HKW.out⟩
        case round =>
          obtain ⟨wm, hwm⟩ : ∃ x, x = wr := ⟨_, rfl⟩
          subst hwm
          obtain ⟨j, hjs, hgj, rfl, rfl, hkm⟩ := hrel
          have HG : Hid _ := hgj
          clear hgj p0 p1 hkw
          have hge' : (0 : Int) ≤ (j : Int) := by omega
          have p0 := cell_kept hkm q0
          by_cases hjl : j < nn
          · have hjl' : (j : Int) < (nn : Int) := by omega
            have hjk : j < N.length := by rw [HNN.out]; exact hjl
            obtain ⟨g, rfl⟩ := row_some HNR.out (by omega)
            have c1 := cell_kept hkm (row_cell HNR.out (List.getElem?_eq_getElem hjk))
            have hmk := HH.out.nm j _ (List.getElem?_eq_getElem hjk)
            obtain ⟨xa, xn, xc, hx, hxm, _⟩ := hmk
            have hxn : xn ≤ 9223372036854775807 := hxm
            have hmk := HH.out.nm j _ (List.getElem?_eq_getElem hjk)
            rw [hx] at hmk c1
            obtain ⟨T, HT⟩ : ∃ T, Hid (T = (⟨(textP (j / 4)).toArray⟩ : ByteArray)) := ⟨_, rfl⟩
            have HMK : Hid (MK w [.string ⟨#[]⟩, .slice none 0 0, .slice none 0 0, .string T] (.slice xa xn xc)) := by
              show MK _ _ _
              rw [HT.out]
              exact hmk
            have HTX : Hid (∀ W, Calls Tryz.prog 68 #[.int .i64 (IntKind.i64.wrap ((j : Int) / 4))] W fun e w' => e = .returned (.string T) ∧ Kept [] W w') := by
              intro W
              have e : IntKind.i64.wrap ((j : Int) / 4) = ((j / 4 : Nat) : Int) := by rw [IntKind.wrap_i64]; omega
              rw [HT.out, e]
              exact markText_any (j / 4) W (by omega)
            clear hmk HT hxm
            go_wp2_with fail
            go_loopg [3, 9] xn (fun g' ok x wr => ∃ i : Nat, i ≤ xn ∧ g' = xn - i ∧ ok = .bool true ∧ x = .int .i64 (i : Int) ∧ Kept [] w wr)
            case atStart => exact ⟨0, by omega, rfl, rfl, rfl, hkm⟩
            case round =>
              obtain ⟨wi, hwi⟩ : ∃ x, x = wr := ⟨_, rfl⟩
              subst hwi
              obtain ⟨i, his, hgi, rfl, rfl, hki⟩ := hrel
              have HGI : Hid _ := hgi
              clear hgi
              have hgi0 : (0 : Int) ≤ (i : Int) := by omega
              have s1 := cell_kept hki q0
              have s2 := cell_kept hki (row_cell HNR.out (List.getElem?_eq_getElem hjk))
              rw [hx] at s2
              by_cases hil : i < xn
              · have hil' : (i : Int) < (xn : Int) := by omega
                obtain ⟨g2, rfl, d0, d1, d2, d3⟩ := HMK.out.spotN hil
                have s3 := cell_kept hki d0
                have s4 := cell_kept hki d1
                have s5 := cell_kept hki d2
                have s6 := cell_kept hki d3
                clear d0 d1 d2 d3 p0 c1 q0 q1 q2
                have hka : Kept [] wi (wi.alloc (.cells #[.string ⟨#[]⟩, .slice none 0 0, .slice none 0 0, .string T] 42)) := (Kept.refl [] wi).alloc _
                have hbx : (wi.alloc (.cells #[.string ⟨#[]⟩, .slice none 0 0, .slice none 0 0, .string T] 42)).heap[wi.heap.size]? = some (.cells #[.string ⟨#[]⟩, .slice none 0 0, .slice none 0 0, .string T] 42 (0, 0)) := heap_alloc_new wi _
                have hbl : wi.heap.size < (wi.alloc (.cells #[.string ⟨#[]⟩, .slice none 0 0, .slice none 0 0, .string T] 42)).heap.size := by simp
                have HKA : Hid (Kept [] wi (wi.alloc (.cells #[.string ⟨#[]⟩, .slice none 0 0, .slice none 0 0, .string T] 42))) := hka
                have HBX : Hid _ := hbx
                have HBL : Hid _ := hbl
                clear hka hbx hbl
                go_wp2_with fail
                generalize wi.alloc (.cells #[.string ⟨#[]⟩, .slice none 0 0, .slice none 0 0, .string T] 42) = wb at *
                have HQ : Hid (∀ W, Kept [] wb W → W.cell? ⟨wi.heap.size, 0, none⟩ = some (.string ⟨#[]⟩) ∧ W.cell? ⟨wi.heap.size, 1, none⟩ = some (.slice none 0 0) ∧ W.cell? ⟨wi.heap.size, 2, none⟩ = some (.slice none 0 0) ∧ W.cell? ⟨wi.heap.size, 3, none⟩ = some (.string T)) := by
                  intro W hW
                  have e := (hW.block _ HBL.out (by simp)).trans HBX.out
                  exact ⟨by unfold World.cell?; rw [e]; rfl, by unfold World.cell?; rw [e]; rfl, by unfold World.cell?; rw [e]; rfl, by unfold World.cell?; rw [e]; rfl⟩
                obtain ⟨z0, z1, z2, z3⟩ := HQ.out wb (Kept.refl _ _)
                clear s1 s2 s3 s4 s5 s6
                go_region_held3 (fun w' => w'.cell? ⟨wi.heap.size, 0, none⟩ = some (.string ⟨#[]⟩) ∧ w'.cell? ⟨wi.heap.size, 1, none⟩ = some (.slice none 0 0) ∧ w'.cell? ⟨wi.heap.size, 2, none⟩ = some (.slice none 0 0) ∧ w'.cell? ⟨wi.heap.size, 3, none⟩ = some (.string T)) (go_keep)
                  (first
                    | (go_at_call 68; refine (HTX.out _).mono ?_; rintro e w5 ⟨rfl, hk5'⟩; have hk5 : Kept [] wb w5 := (by first | exact hk5' | exact (Kept.refl [] wb).drew.trans hk5' | exact ((Kept.refl [] wb).drewN _).trans hk5'); obtain ⟨r0, r1, r2, r3⟩ := HQ.out w5 hk5)
                    | fail)
                clear z0 z1 z2 z3 r0 r1 r2 r3
                go_wp2_with fail
                go_roundg (xn - (i + 1))
                case measure => rw [HGI.out]; omega
                case rel => exact ⟨i + 1, by omega, rfl, rfl, by first | rfl | congr 1, hki.trans (HKA.out.trans hk5)⟩
              · obtain rfl : i = xn := by omega
                have hil' : ((i : Int) < (i : Int)) = False := by simp
                go_wp2_with fail
                go_roundg (nn - (j + 1))
                case measure => rw [HG.out]; omega
                case rel => exact ⟨j + 1, by omega, rfl, rfl, by first | rfl | congr 1, hki⟩
          · obtain rfl : j = nn := by omega
            have hjl' : ((j : Int) < (j : Int)) = False := by simp
            go_wp2_with fail
            go_ret
            exact ⟨rfl, hkm⟩
end Go.Proofs.YtlpmjpmefdpcmaaGreatDoor
