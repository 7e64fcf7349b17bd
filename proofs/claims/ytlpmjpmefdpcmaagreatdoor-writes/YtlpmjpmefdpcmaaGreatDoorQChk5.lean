import Derived.Test.YtlpmjpmefdpcmaaGreatDoorQChk4
namespace Go.Proofs.YtlpmjpmefdpcmaaGreatDoor
open Go.RowKit Scrub Go.Shelf
/-- areNodes, to a depth. -/
def NodesOk (d : Nat) : Prop := ∀ (v : Value) (f : GF d) (w : World), Lies d w v f → bulkF d f ≤ 1099511627776 →
  Calls Tryz.prog 70 #[v] w fun e w' => e = .returned (.bool (soundF d f)) ∧ Kept [] w w'
/-- What isRawText tells of the first kid. -/
theorem rawOk_one {d : Nat} {f : GF d} (nm : List UInt8) (h : glen d f = 1) : ∃ (d' : Nat) (e : d = d' + 1) (x : GN d'), gnodes d' (e ▸ f) = [x] ∧ rawOk d f nm = (textG x && !holdsEndP nm x.2.2.2) := by
  cases d with
  | zero => simp [glen] at h
  | succ d' =>
    have h1 : (gnodes d' f).length = 1 := h
    obtain ⟨x, hx⟩ := List.length_eq_one_iff.1 h1
    refine ⟨d', rfl, x, hx, ?_⟩
    show (match gnodes d' f with | [] => true | [k] => textG k && !holdsEndP nm k.2.2.2 | _ => false) = _
    rw [hx]
theorem rawOk_none {d : Nat} {f : GF d} (nm : List UInt8) (h : glen d f = 0) : rawOk d f nm = true := by
  cases d with
  | zero => rfl
  | succ d' =>
    have h1 : (gnodes d' f).length = 0 := h
    have h2 := List.eq_nil_of_length_eq_zero h1
    show (match gnodes d' f with | [] => true | [k] => textG k && !holdsEndP nm k.2.2.2 | _ => false) = _
    rw [h2]
theorem rawOk_many {d : Nat} {f : GF d} (nm : List UInt8) (h : 1 < glen d f) : rawOk d f nm = false := by
  cases d with
  | zero => simp [glen] at h
  | succ d' =>
    have h1 : 1 < (gnodes d' f).length := h
    show (match gnodes d' f with | [] => true | [k] => textG k && !holdsEndP nm k.2.2.2 | _ => false) = _
    match hg : gnodes d' f, h1 with
    | [], h1 => simp at h1
    | [a], h1 => simp at h1
    | a :: b :: t, _ => rfl
set_option maxHeartbeats 4000000 in
theorem holdsKids_any (d : Nat) (ih : NodesOk d) (nm : List UInt8) (al : List (List UInt8 × List UInt8)) (k : GF d) (tx : List UInt8) (av kv : Value) (w : World) (hA : LiesA w av al) (hK : Lies d w kv k) (hb : bulkF d k ≤ 1099511627776) :
    Calls Tryz.prog 163 #[.agg #[.string ⟨nm.toArray⟩, av, kv, .string ⟨tx.toArray⟩]] w
      fun e w' => e = .returned (.bool (kidsOk (soundF d) (nm, al, k, tx))) ∧ Kept [] w w' := by
  obtain ⟨aa, ac, rfl⟩ := hA.form
  obtain ⟨ka, kc, hkv⟩ := hK.form
  subst hkv
  have HKO : Hid (kidsOk (soundF d) (nm, al, k, tx) = if kindP nm = 1 then decide (glen d k = 0) else if kindP nm = 2 then rawOk d k nm else soundF d k) := rfl
  have hk0 : Kept [] w (w.alloc (.cells #[.string ⟨nm.toArray⟩, .slice aa al.length ac, .slice ka (glen d k) kc, .string ⟨tx.toArray⟩] 42)) := (Kept.refl [] _).alloc _
  have hbx := heap_alloc_new w (.cells #[.string ⟨nm.toArray⟩, .slice aa al.length ac, .slice ka (glen d k) kc, .string ⟨tx.toArray⟩] 42)
  have hK0 := hK.kept d hk0
  go_enter Tryz.func163, Tryz.ntmps163
  go_wp2_with fail
  refine (kindOf_any _ _).mono ?_
  rintro e w1 ⟨rfl, rfl⟩
  have hks : (({ data := nm.toArray } : ByteArray).data.toList) = nm := by simp
  rw [hks]
  clear hks
  by_cases h1 : kindP nm = 1
  · have HR : Hid (kidsOk (soundF d) (nm, al, k, tx) = decide (glen d k = 0)) := by show _ = _; rw [HKO.out, if_pos h1]
    rw [h1]
    clear h1 HKO
    go_wp2_with fail
    go_ret
    refine ⟨ret_bool ?_, hk0⟩
    rw [HR.out, Bool.eq_iff_iff]
    simp
  · by_cases h2 : kindP nm = 2
    · have HR : Hid (kidsOk (soundF d) (nm, al, k, tx) = rawOk d k nm) := by show _ = _; rw [HKO.out, if_neg h1, if_pos h2]
      rw [h2]
      clear h1 HKO h2
      rcases Nat.lt_trichotomy (glen d k) 1 with hz | hz | hz
      · have hz0 : glen d k = 0 := by omega
        have HR2 : Hid (kidsOk (soundF d) (nm, al, k, tx) = true) := by show _ = _; rw [HR.out, rawOk_none nm hz0]
        rw [hz0] at hbx ⊢
        clear hz hz0 hK0 hK hb
        obtain ⟨⟨q0, q1, q2, q3⟩, _⟩ := cells4 hbx
        go_wp2_with fail
        go_region
        all_goals
          go_wp2_with fail
          go_ret
          exact ⟨ret_bool HR2.out.symm, ((Kept.refl [] w).alloc _).drew⟩
      · obtain ⟨d', rfl, x, hx, hro⟩ := rawOk_one nm hz
        have hx' : gnodes d' k = [x] := hx
        have HR2 : Hid (kidsOk (soundF (d' + 1)) (nm, al, k, tx) = (textG x && !holdsEndP nm x.2.2.2)) := by show _ = _; rw [HR.out, hro]
        have hbx2 : bulkN (bulkF d') x ≤ 1099511627776 := Nat.le_trans (bulkF_mem (by rw [hx']; simp)) hb
        have htx2 : x.2.2.2.length ≤ 1099511627776 := by unfold bulkN at hbx2; omega
        obtain ⟨a0, c0, hv0, hcells⟩ := hK0
        obtain ⟨g, o, ha0, av', kv', e0, e1, e2, e3, hA', hK'⟩ := hcells 0 (by rw [hx']; simp)
        have hx0 : (gnodes d' k)[0]'(by rw [hx']; simp) = x := by simp [hx']
        rw [hx0] at e0 e3 hA' hK'
        obtain ⟨aa', ac', rfl⟩ := hA'.form
        obtain ⟨ka', kc', rfl⟩ := hK'.form
        have HTG : Hid (textG x = (decide (x.1 = []) && decide (x.2.2.2 ≠ []) && decide (x.2.1.length = 0) && decide (glen d' x.2.2.1 = 0))) := by
          show _ = _
          unfold textG
          congr 2
          simp
        injection hv0 with hv1 hv2 hv3
        subst hv1 hv3 ha0
        simp only [Nat.zero_mul, Nat.add_zero] at e0 e1 e2 e3
        rw [hz] at hbx e0 e1 e2 e3 ⊢
        have hir := fun w' => isRawText_any x.1 x.2.2.2 nm aa' ka' x.2.1.length ac' (glen d' x.2.2.1) kc' w' htx2
        have hr3 := HR2.out
        rw [HTG.out] at hr3
        generalize ((decide (x.1 = []) && decide (x.2.2.2 ≠ []) && decide (x.2.1.length = 0) && decide (glen d' x.2.2.1 = 0)) && !holdsEndP nm x.2.2.2) = bv at hir hr3
        have HR3 : Hid _ := hr3
        have HIR : Hid _ := hir
        clear hcells hK hb hx hx' hro hx0 hbx2 hA' hK' hv2 hr3 hir HR2 HTG htx2
        generalize x.1 = nm' at *
        generalize x.2.2.2 = tx' at *
        generalize x.2.1.length = an' at *
        generalize glen d' x.2.2.1 = kn' at *
        obtain ⟨⟨q0, q1, q2, q3⟩, _⟩ := cells4 hbx
        go_wp2_with fail
        go_region_with (go_at_call 206; refine (HIR.out _).mono ?_; rintro e w3 ⟨rfl, hk3⟩)
        all_goals
          go_wp2_with fail
          go_ret
          exact ⟨ret_bool HR3.out.symm, Kept.trans ((Kept.refl [] w).alloc _) ((Kept.refl [] _).drew.trans hk3)⟩
      · have HR2 : Hid (kidsOk (soundF d) (nm, al, k, tx) = false) := by show _ = _; rw [HR.out, rawOk_many nm hz]
        have hb0 : ((glen d k : Int) == 0) = false := by rw [beq_eq_false_iff_ne]; omega
        have hb1 : ((glen d k : Int) == 1) = false := by rw [beq_eq_false_iff_ne]; omega
        clear hz hK0 hK hb
        generalize glen d k = kn at *
        obtain ⟨⟨q0, q1, q2, q3⟩, _⟩ := cells4 hbx
        go_wp2_with fail
        go_region
        all_goals
          go_wp2_with fail
          go_ret
          exact ⟨ret_bool HR2.out.symm, ((Kept.refl [] w).alloc _).drew⟩
    · have HR : Hid (kidsOk (soundF d) (nm, al, k, tx) = soundF d k) := by show _ = _; rw [HKO.out, if_neg h1, if_neg h2]
      have hb1 : (kindP nm == 1) = false := by simpa using h1
      have hb2 : (kindP nm == 2) = false := by simpa using h2
      clear h1 h2 HKO
      go_wp2_with fail
      refine (ih _ k _ hK0 hb).mono ?_
      rintro e w2 ⟨rfl, hk2⟩
      go_wp2_with fail
      go_ret
      exact ⟨ret_bool HR.out.symm, hk0.trans hk2⟩
end Go.Proofs.YtlpmjpmefdpcmaaGreatDoor
