import Derived.Test.YtlpmjpmefdpcmaaGreatDoorQHb
/- untouchedAttrs. -/
namespace Go.Proofs.YtlpmjpmefdpcmaaGreatDoor
open Go.RowKit Scrub Go.Shelf
theorem RowsAt.thawed {w : World} {b : Nat} {t : TypeId} {R : List (List Value)} (h : RowsAt w b t R) (i : Nat) : w.frozen? ⟨b, i, none⟩ = false := by
  have h' : w.heap[b]? = _ := h
  simp [World.frozen?, h']
/-- What is looked at from place k on is as it was. -/
def ALeft (w : World) (b : Nat) (al : List (List UInt8 × List UInt8)) (k : Nat) : Prop :=
  ∃ X : List (List Value), X.length = k ∧ (∀ r ∈ X, r.length = 2) ∧ RowsAt w b 63 (X ++ ((al ++ List.replicate 8 ([33], [33])).drop k).map aRow)
theorem ALeft.kept {S : List Nat} {w w' : World} {b : Nat} {al : List (List UInt8 × List UInt8)} {k : Nat} (h : ALeft w b al k) (hk : Kept S w w') (hb : b ∉ S) : ALeft w' b al k := by
  obtain ⟨X, h1, h2, h3⟩ := h
  exact ⟨X, h1, h2, h3.kept hk hb⟩
theorem ALeft.spot {w : World} {b : Nat} {al : List (List UInt8 × List UInt8)} {k : Nat} (h : ALeft w b al k) (x : List UInt8 × List UInt8) (hx : (al ++ List.replicate 8 ([33], [33]))[k]? = some x) :
    (w.cell? ⟨b, k * 2, none⟩ = some (.string ⟨x.1.toArray⟩) ∧ w.cell? ⟨b, k * 2 + 1, none⟩ = some (.string ⟨x.2.toArray⟩)) ∧ (w.frozen? ⟨b, k * 2, none⟩ = false ∧ w.frozen? ⟨b, k * 2 + 1, none⟩ = false) := by
  obtain ⟨X, h1, h2, h3⟩ := h
  subst h1
  obtain ⟨hlt, he⟩ := List.getElem?_eq_some_iff.1 hx
  rw [List.drop_eq_getElem_cons hlt, he, List.map_cons] at h3
  have hR : ∀ r ∈ X ++ aRow x :: ((al ++ List.replicate 8 ([33], [33])).drop (X.length + 1)).map aRow, r.length = 2 := by
    intro r hr
    rcases List.mem_append.1 hr with hr | hr
    · exact h2 r hr
    · rcases List.mem_cons.1 hr with rfl | hr
      · rfl
      · obtain ⟨p, _, rfl⟩ := List.mem_map.1 hr; rfl
  have hi : X.length < (X ++ aRow x :: ((al ++ List.replicate 8 ([33], [33])).drop (X.length + 1)).map aRow).length := by simp
  have c0 := h3.cell 2 X.length 0 hi hR (by omega)
  have c1 := h3.cell 2 X.length 1 hi hR (by omega)
  rw [List.getElem_append_right (Nat.le_refl _)] at c0 c1
  simp at c0 c1
  exact ⟨⟨c0, c1⟩, h3.thawed _, h3.thawed _⟩
theorem ALeft.blot {w : World} {b : Nat} {al : List (List UInt8 × List UInt8)} {k : Nat} (h : ALeft w b al k) (hk : k < al.length + 8) (u0 u1 : Value) : ALeft ((w.setCell ⟨b, k * 2, none⟩ u0).setCell ⟨b, k * 2 + 1, none⟩ u1) b al (k + 1) := by
  obtain ⟨X, h1, h2, h3⟩ := h
  subst h1
  have hlt : X.length < (al ++ List.replicate 8 (([33], [33]) : List UInt8 × List UInt8)).length := by simpa using hk
  rw [List.drop_eq_getElem_cons hlt, List.map_cons] at h3
  have hR : ∀ r ∈ X ++ aRow (al ++ List.replicate 8 (([33], [33]) : List UInt8 × List UInt8))[X.length] :: ((al ++ List.replicate 8 ([33], [33])).drop (X.length + 1)).map aRow, r.length = 2 := by
    intro r hr
    rcases List.mem_append.1 hr with hr | hr
    · exact h2 r hr
    · rcases List.mem_cons.1 hr with rfl | hr
      · rfl
      · obtain ⟨p, _, rfl⟩ := List.mem_map.1 hr; rfl
  have hst := h3.set2 hR X.length u0 u1
  rw [List.set_append_right _ _ (Nat.le_refl _), Nat.sub_self, List.set_cons_zero] at hst
  refine ⟨X ++ [[u0, u1]], by simp, ?_, ?_⟩
  · intro r hr
    rcases List.mem_append.1 hr with hr | hr
    · exact h2 r hr
    · simp at hr; subst hr; rfl
  · rw [List.append_assoc]
    exact hst
theorem ALeft.start {w : World} {b : Nat} {al : List (List UInt8 × List UInt8)} (h : HAttrs w b al) : ALeft w b al 0 := by
  refine ⟨[], rfl, by simp, ?_⟩
  rw [List.drop_zero, List.map_append, List.map_replicate]
  exact h
set_option maxRecDepth 100000 in
set_option maxHeartbeats 4000000 in
theorem untouchedAttrs_any (al : List (List UInt8 × List UInt8)) (b : Nat) (v : Value) (w0 w : World) (hL : LiesA w0 v al) (hk0 : Kept [] w0 w) (hb0 : w0.heap.size ≤ b) (hA : HAttrs w b al) (hal : al.length ≤ 1099511627776) :
    Calls Tryz.prog 64 #[.slice (some ⟨b, 0, none⟩) al.length (al.length + 8), v] w fun e w' => e = .returned (.bool true) ∧ Kept [b] w w' := by
  obtain ⟨a, c, rfl, hc⟩ := hL
  have HC : Hid _ := hc
  have HA0 : Hid (ALeft w b al 0) := ALeft.start hA
  have hbw : b < w.heap.size := RowsAt.lt hA
  clear hc hA
  obtain ⟨L, HLE⟩ : ∃ L, Hid (al.length = L) := ⟨_, rfl⟩
  rw [HLE.out] at hal ⊢
  go_enter Tryz.func64, Tryz.ntmps64
  go_wp2_with fail
  go_loopg [7, 8] (L + 8) (fun g x y wr => ∃ k : Nat, k ≤ L + 8 ∧ g = L + 8 - k ∧ x = .bool true ∧ y = .int .i64 (k : Int) ∧ ALeft wr b al k ∧ Kept [b] w wr)
  case atStart => exact ⟨0, by omega, rfl, rfl, rfl, HA0.out, Kept.refl _ _⟩
  case round =>
    obtain ⟨k, hks, hgk, rfl, rfl, hal0, hkr⟩ := hrel
    have HG : Hid _ := hgk
    have HAL : Hid (ALeft wr b al k) := hal0
    clear hgk hal0
    have hge : (0 : Int) ≤ (k : Int) := by omega
    have hkw0 : Kept [] w0 wr := hk0.trans_new hkr (by simpa using hb0)
    by_cases hlt : k < L
    · have hlt' : (k : Int) < (L : Int) := by omega
      have hlt8 : (k : Int) < (L : Int) + 8 := by omega
      have hltl : k < al.length := by rw [HLE.out]; exact hlt
      obtain ⟨g, o, rfl, e0, e1⟩ := HC.out k hltl
      have e0' := cell_kept hkw0 e0
      have e1' := cell_kept hkw0 e1
      have HX : Hid ((al ++ List.replicate 8 ([33], [33]))[k]? = some al[k]) := by
        show _ = _
        rw [List.getElem?_append_left hltl]
        simp
      generalize al[k] = x at *
      obtain ⟨xn, xv⟩ := x
      dsimp only at e0' e1'
      clear e0 e1
      go_wp2_with (go_at_call 60; refine (rBang _).mono ?_; rintro e wb ⟨rfl, hkb⟩; have hka1 : Kept [] wr (wb.alloc (.cells #[.string ⟨#[33]⟩, .string ⟨#[33]⟩] 63)) := hkb.trans ((Kept.refl [] _).alloc _); have e0b := cell_kept hka1 e0'; have e1b := cell_kept hka1 e1'; have hka2 : Kept [] wr (wb.alloc (.cells #[.string ⟨xn.toArray⟩, .string ⟨xv.toArray⟩] 63)) := hkb.trans ((Kept.refl [] _).alloc _); obtain ⟨⟨s0, s1⟩, ⟨t0, t1⟩⟩ := ALeft.spot (HAL.out.kept hka2 (by simp)) _ HX.out)
      go_region
      all_goals
        go_wp2_with fail
        go_roundg (L + 8 - (k + 1))
        case measure => rw [HG.out]; omega
        case rel =>
          refine ⟨k + 1, by omega, rfl, rfl, by first | rfl | congr 1, ((HAL.out.kept hka2 (by simp)).blot (by rw [HLE.out]; omega) _ _).kept (Kept.drew (Kept.refl [] _)) (by simp), ?_⟩
          exact (((hkr.trans (hka2.mono (by simp))).setCell (.inl (by simp)) _).setCell (.inl (by simp)) _).drew
    · have hlt' : ((k : Int) < (L : Int)) = False := by simp; omega
      by_cases hlt8 : k < L + 8
      · have hlt8' : (k : Int) < (L : Int) + 8 := by omega
        have HX : Hid ((al ++ List.replicate 8 ([33], [33]))[k]? = some (([33], [33]) : List UInt8 × List UInt8)) := by
          show _ = _
          have := HLE.out
          rw [List.getElem?_append_right (by omega), List.getElem?_replicate, if_pos (by omega)]
        go_wp2_with (go_at_call 60; refine (rBang _).mono ?_; rintro e wb ⟨rfl, hkb⟩; have hka1 : Kept [] wr (wb.alloc (.cells #[.string ⟨#[33]⟩, .string ⟨#[33]⟩] 63)) := hkb.trans ((Kept.refl [] _).alloc _); obtain ⟨⟨s0, s1⟩, ⟨t0, t1⟩⟩ := ALeft.spot (HAL.out.kept hka1 (by simp)) _ HX.out)
        go_region
        all_goals
          go_wp2_with fail
          go_roundg (L + 8 - (k + 1))
          case measure => rw [HG.out]; omega
          case rel =>
            refine ⟨k + 1, by omega, rfl, rfl, by first | rfl | congr 1, ((HAL.out.kept hka1 (by simp)).blot (by rw [HLE.out]; omega) _ _).kept (Kept.drew (Kept.refl [] _)) (by simp), ?_⟩
            exact (((hkr.trans (hka1.mono (by simp))).setCell (.inl (by simp)) _).setCell (.inl (by simp)) _).drew
      · have hlt8' : ((k : Int) < (L : Int) + 8) = False := by simp; omega
        go_wp2_with fail
        go_ret
        exact ⟨rfl, hkr⟩
end Go.Proofs.YtlpmjpmefdpcmaaGreatDoor
