import Derived.Test.YtlpmjpmefdpcmaaGreatDoorQSq
import Derived.Test.YtlpmjpmefdpcmaaGreatDoorQRr
import Derived.Test.YtlpmjpmefdpcmaaGreatDoorQBegin
/- The reference's builder: a start. -/
namespace Go.Proofs.YtlpmjpmefdpcmaaGreatDoor
open Go.RowKit Scrub Go.Shelf
/-- What holds between two steps of a start: the builder; the token's copy and the new node, each in a block of its own. -/
structure SInv (w : World) (bb : Nat) (F : List Nat) (tb nb : Nat) (s : Int) (nm : List UInt8) (va : Option Addr) (vc : Nat) (al : List (List UInt8 × List UInt8)) (tx : List UInt8) (o : List Ev × List (List UInt8)) (wx : World) (F' : List Nat) : Prop where
  bld : RBld wx bb F' o.1 o.2
  kept : Kept F w wx
  grow : Grow F w F'
  tok : Four wx tb 131 (.int .i64 s) (.string ⟨nm.toArray⟩) (.slice va al.length vc) (.string ⟨tx.toArray⟩)
  tokF : tb ∉ F'
  node : Four wx nb 42 (.string ⟨nm.toArray⟩) (.slice va al.length vc) (.slice none 0 0) (.string ⟨#[]⟩)
  nodeF : nb ∉ F'
  own : AOwn wx (.slice va al.length vc) al
  ownF : ∀ k, (Value.slice va al.length vc).ownBlock = some k → k ∉ F'
theorem SInv.step {w : World} {bb : Nat} {F : List Nat} {tb nb : Nat} {s : Int} {nm : List UInt8} {va : Option Addr} {vc : Nat} {al : List (List UInt8 × List UInt8)} {tx : List UInt8} {o o' : List Ev × List (List UInt8)} {wx w' : World} {F' : List Nat} (h : SInv w bb F tb nb s nm va vc al tx o wx F') (hp : RPost bb F' [] o'.1 o'.2 wx w') : ∃ F2, SInv w bb F tb nb s nm va vc al tx o' w' F2 := by
  obtain ⟨F2, a, b, c⟩ := hp
  have c' := grow_nil c
  obtain ⟨t1, t2⟩ := keep4 h.tok h.tokF b c'
  obtain ⟨n1, n2⟩ := keep4 h.node h.nodeF b c'
  obtain ⟨o1, o2⟩ := keepA h.own h.ownF b c'
  exact ⟨F2, a, h.kept.trans_new b (fun i hi => h.grow i hi), h.grow.trans c' h.kept.size, t1, t2, n1, n2, o1, o2⟩
theorem openP_plain (E : List Ev) (st : List (List UInt8)) (nm : List UInt8) (h : holdsP nm = false) : openP E (st ++ [nm]) = (E, st ++ [nm]) := by
  unfold openP
  rw [if_neg]
  rintro ⟨_, h2⟩
  have e : (st ++ [nm]).getD ((st ++ [nm]).length - 1) [] = nm := by simp [List.getD]
  rw [e, h] at h2
  cases h2
/-- li and ul: what stands innermost of the two. -/
theorem lastIdx_or (p q : List UInt8 → Bool) : ∀ l : List (List UInt8), lastIdx (fun m => p m || q m) l = max (lastIdx p l) (lastIdx q l) := by
  intro l
  induction l with
  | nil => rfl
  | cons a t ih =>
    have h1 := lastIdx_ge p t
    have h2 := lastIdx_ge q t
    simp only [lastIdx]
    rw [ih]
    generalize lastIdx p t = x at *
    generalize lastIdx q t = y at *
    have hm : (max x y = -1) ↔ (x = -1 ∧ y = -1) := by omega
    clear ih
    by_cases hp : p a = true <;> by_cases hq : q a = true <;> by_cases hx : x = -1 <;> by_cases hy : y = -1 <;> simp [hm, hp, hq, hx, hy]
    all_goals omega
theorem item_eq (E : List Ev) (st : List (List UInt8)) : itemP E st = if limitP st < lastIdx (fun m => m == [108, 105]) st ∧ lastIdx (fun m => m == [117, 108]) st < lastIdx (fun m => m == [108, 105]) st then (closeE E st (lastIdx (fun m => m == [108, 105]) st).toNat, st.take (lastIdx (fun m => m == [108, 105]) st).toNat) else (E, st) := by
  have hb : itemB = fun m => (fun m => m == [108, 105]) m || (fun m => m == [117, 108]) m := by
    funext m
    unfold itemB
    rw [Bool.eq_iff_iff]
    simp
  unfold itemP
  rw [hb, lastIdx_or]
  have h1 := lastIdx_ge (fun m => m == [108, 105]) st
  have h2 := lastIdx_ge (fun m => m == [117, 108]) st
  have k1 := lastIdx_at (fun m => m == [108, 105]) st
  have k2 := lastIdx_at (fun m => m == [117, 108]) st
  have h3 : -1 ≤ limitP st := by rw [limit_td]; exact lastIdx_ge _ st
  generalize lastIdx (fun m => m == [108, 105]) st = x at *
  generalize lastIdx (fun m => m == [117, 108]) st = y at *
  by_cases hc : limitP st < x ∧ y < x
  · rw [if_pos hc]
    have hm : max x y = x := by omega
    rw [hm, if_pos]
    refine ⟨hc.1, ?_⟩
    obtain ⟨g1, g2⟩ := k1 x.toNat (by omega)
    rw [List.getD_eq_getElem?_getD, List.getElem?_eq_getElem g1]
    simpa using g2
  · rw [if_neg hc, if_neg]
    rintro ⟨c1, c2⟩
    by_cases hy : y < x
    · exact hc ⟨by omega, hy⟩
    · have hm : max x y = y := by omega
      rw [hm] at c1 c2
      obtain ⟨g1, g2⟩ := k2 y.toNat (by omega)
      rw [List.getD_eq_getElem?_getD, List.getElem?_eq_getElem g1] at c2
      simp at g2 c2
      rw [c2] at g2
      simp at g2
end Go.Proofs.YtlpmjpmefdpcmaaGreatDoor
/- The reference's builder: a start: the walk. -/
namespace Go.Proofs.YtlpmjpmefdpcmaaGreatDoor
open Go.RowKit Scrub Go.Shelf
/-- The last of a name behind the limit. -/
theorem rLastLim (bb : Nat) (F : List Nat) (E : List Ev) (st : List (List UInt8)) (nm : ByteArray) (w : World) (h : RBld w bb F E st) (hst : st.length ≤ 12) :
    Calls Tryz.prog 151 #[.pointer (some ⟨bb, 0, none⟩), .string nm, .int .i64 (limitP st + 1)] w fun e w' => e = .returned (.int .i64 (lastR st nm.data.toList (limitP st + 1))) ∧ w' = w := by
  have h3 : -1 ≤ limitP st := by rw [limit_td]; exact lastIdx_ge _ st
  have := rLast bb F E st nm (limitP st + 1).toNat w h hst
  rw [show (((limitP st + 1).toNat : Nat) : Int) = limitP st + 1 by omega] at this
  exact this
theorem RPost.wide {bb : Nat} {F X : List Nat} {E : List Ev} {st : List (List UInt8)} {w w' : World} (h : RPost bb F X E st w w') : RPost bb (F ++ X) [] E st w w' := by
  obtain ⟨F', a, b, c⟩ := h
  exact ⟨F', a, b.mono (fun i hi => by simp [hi]), by simpa using c⟩
set_option maxRecDepth 100000 in
set_option maxHeartbeats 8000000 in
theorem rStartB (bb : Nat) (F : List Nat) (E : List Ev) (st : List (List UInt8)) (s : Int) (nm : List UInt8) (va : Option Addr) (vc : Nat) (al : List (List UInt8 × List UInt8)) (tx : List UInt8) (w : World) (h : RBld w bb F E st) (ha : AOwn w (.slice va al.length vc) al) (hn : nm ≠ []) (haf : ∀ k, (Value.slice va al.length vc).ownBlock = some k → k ∉ F) (hst : st.length ≤ 12) (hEl : E.length ≤ 1099511620000) (hsz : evSize E + tx.length ≤ 1099511620000) (htx : tx ≠ [] → holdsP nm = false) :
    Calls Tryz.prog 90 #[.pointer (some ⟨bb, 0, none⟩), .agg #[.int .i64 s, .string ⟨nm.toArray⟩, .slice va al.length vc, .string ⟨tx.toArray⟩]] w
      fun e w' => e = .returned (.tuple #[]) ∧ RPost bb (F ++ (Value.slice va al.length vc).ownBlock.toList) [] (startT E st nm al tx).1 (startT E st nm al tx).2 w w' := by
  have hk1 := (Kept.refl [] w).alloc (.cells #[.int .i64 s, .string ⟨nm.toArray⟩, .slice va al.length vc, .string ⟨tx.toArray⟩] 131)
  have hk2 := hk1.alloc (.cells #[.string ⟨nm.toArray⟩, .slice va al.length vc, .slice none 0 0, .string ⟨#[]⟩] 42)
  have hbF : ∀ k, w.heap.size ≤ k → k ∉ F := fun k hk hc => by
    obtain ⟨ov, n0, os, hb, _⟩ := h
    have := hb.2.2.2.2 _ hc
    omega
  have hinv : SInv w bb F w.heap.size (w.heap.size + 1) s nm va vc al tx (E, st) ((w.alloc (.cells #[.int .i64 s, .string ⟨nm.toArray⟩, .slice va al.length vc, .string ⟨tx.toArray⟩] 131)).alloc (.cells #[.string ⟨nm.toArray⟩, .slice va al.length vc, .slice none 0 0, .string ⟨#[]⟩] 42)) F := by
    refine ⟨h.kept hk2 (by simp), hk2.mono (by simp), Grow.refl _ _, ?_, hbF _ (Nat.le_refl _), ?_, hbF _ (by omega), ownsRow_kept ha hk2 (by simp), haf⟩
    · exact Four.kept (heap_alloc_new w _) ((Kept.refl [] _).alloc _) (by simp)
    · have := heap_alloc_new (w.alloc (.cells #[.int .i64 s, .string ⟨nm.toArray⟩, .slice va al.length vc, .string ⟨tx.toArray⟩] 131)) (.cells #[.string ⟨nm.toArray⟩, .slice va al.length vc, .slice none 0 0, .string ⟨#[]⟩] 42)
      have e : (w.alloc (.cells #[.int .i64 s, .string ⟨nm.toArray⟩, .slice va al.length vc, .string ⟨tx.toArray⟩] 131)).heap.size = w.heap.size + 1 := by simp
      rw [e] at this
      exact this
  obtain ⟨b1, hb1⟩ : ∃ b, (nm == [116, 114]) = b := ⟨_, rfl⟩
  obtain ⟨b2, hb2⟩ : ∃ b, (nm == [116, 100]) = b := ⟨_, rfl⟩
  obtain ⟨O, hO⟩ : ∃ O, startT E st nm al tx = O := ⟨_, rfl⟩
  rw [hO]
  have HO : Hid _ := hO
  clear hO
  go_enter Tryz.func90, Tryz.ntmps90
  go_upto_region 2 with fail
  generalize ((w.alloc (.cells #[.int .i64 s, .string ⟨nm.toArray⟩, .slice va al.length vc, .string ⟨tx.toArray⟩] 131)).alloc (.cells #[.string ⟨nm.toArray⟩, .slice va al.length vc, .slice none 0 0, .string ⟨#[]⟩] 42)) = w2 at *
  generalize w.heap.size + 1 = nb at *
  generalize w.heap.size = tb at *
  obtain ⟨⟨q0, q1, q2, q3⟩, _⟩ := cells4 hinv.tok
  obtain ⟨⟨p0, p1, p2, p3⟩, _⟩ := cells4 hinv.node
  by_cases hrow : (b1 || b2) = true
  · have HE : Hid (O = rowR E st nm al) := by
      show _ = _
      rw [← HO.out, startT, rowR]
      by_cases h1 : nm = [116, 114]
      · rw [if_pos h1, if_pos h1]
      · have h1' : b1 = false := by rw [← hb1]; simpa using h1
        rw [h1'] at hrow
        have h2' : nm = [116, 100] := by rw [Bool.false_or] at hrow; rw [hrow] at hb2; simpa using hb2
        rw [if_neg h1, if_pos h2', if_neg h1]
    have hnn : nm = [116, 114] ∨ nm = [116, 100] := by
      cases hb : b1 with
      | true => rw [hb] at hb1; exact .inl (by simpa using hb1)
      | false =>
        rw [hb, Bool.false_or] at hrow
        rw [hrow] at hb2
        exact .inr (by simpa using hb2)
    have HROW := rRow bb F E st nm va vc al w2 hinv.bld hinv.own hnn hinv.ownF hst (by omega) (by omega)
    have HNN : Hid _ := hnn
    clear hnn
    cases b1 <;> cases b2
    · cases hrow
    all_goals
      go_wp2_with fail
      refine HROW.mono ?_
      rintro e w3 ⟨rfl, hp3⟩
      go_wp2_with fail
      refine bodyPost_ret (v := .tuple #[]) (by simp [results, Tryz.results90, go_sem]) rfl ?_
      rw [HE.out]
      exact ⟨rfl, (RPost.then hinv.kept hinv.grow hp3).wide⟩
  · obtain ⟨rfl, rfl⟩ : b1 = false ∧ b2 = false := by
      revert hrow
      cases b1 <;> cases b2 <;> decide
    have HE : Hid (O = otherP E st nm al tx) := by
      show _ = _
      rw [← HO.out, startT, if_neg (by simpa using hb1), if_neg (by simpa using hb2)]
    clear HO hrow
    have hf1 := fits_open (E := E) hst
    go_wp2_with fail
    refine (rCell bb F E st w2 hinv.bld hst (by omega) (by omega)).mono ?_
    rintro e w3 ⟨rfl, hp3⟩
    obtain ⟨F3, hi3⟩ := hinv.step hp3
    clear hp3 hinv q0 q1 q2 q3 p0 p1 p2 p3
    unfold otherP at HE
    generalize openP E st = o1 at *
    obtain ⟨E1, st1⟩ := o1
    obtain ⟨u1, u2, u3⟩ := hf1
    simp only at u1 u2 u3
    obtain ⟨⟨q0, q1, q2, q3⟩, _⟩ := cells4 hi3.tok
    obtain ⟨⟨p0, p1, p2, p3⟩, _⟩ := cells4 hi3.node
    go_wp2_with fail
    refine (rIsBlock ⟨nm.toArray⟩ _).mono ?_
    rintro e w4 ⟨rfl, rfl⟩
    have hkb : decide (kindP (⟨nm.toArray⟩ : ByteArray).data.toList = 3) = decide (kindP nm = 3) := rfl
    rw [hkb]
    clear hkb
    go_wp2_with fail
    refine (rLimit bb F3 E1 st1 _ hi3.bld u1).mono ?_
    rintro e w5 ⟨rfl, rfl⟩
    go_wp2_with fail
    refine (rLastLim bb F3 E1 st1 ⟨#[112]⟩ _ hi3.bld u1).mono ?_
    rintro e w6 ⟨rfl, rfl⟩
    have hlim : ∀ m : List UInt8, lastR st1 m (limitP st1 + 1) = if limitP st1 < lastIdx (fun n => n == m) st1 then lastIdx (fun n => n == m) st1 + 1 else -1 := fun m => by
      unfold lastR
      by_cases hc : limitP st1 < lastIdx (fun n => n == m) st1
      · rw [if_pos (by omega), if_pos hc]
      · rw [if_neg (by omega), if_neg hc]
    obtain ⟨PV, hPV⟩ : ∃ PV, lastR st1 [112] (limitP st1 + 1) = PV := ⟨_, rfl⟩
    have hPV' : lastR st1 (⟨#[112]⟩ : ByteArray).data.toList (limitP st1 + 1) = PV := hPV
    rw [hPV']
    rw [hlim] at hPV
    have HPV : Hid _ := hPV
    have hge1 := lastIdx_ge (fun n => n == [112]) st1
    have hlt1 := lastIdx_lt (fun n => n == [112]) st1
    have hgl1 : -1 ≤ limitP st1 := by rw [limit_td]; exact lastIdx_ge _ st1
    clear hPV hPV' hlim
    obtain ⟨k3, hk3⟩ : ∃ b, decide (kindP nm = 3) = b := ⟨_, rfl⟩
    rw [hk3]
    have HK3 : Hid _ := hk3
    clear hk3
    obtain ⟨z, hz⟩ : ∃ z, (k3 && decide (0 ≤ PV)) = z := ⟨_, rfl⟩
    have HZ : Hid _ := hz
    clear hz
    go_upto_region 7 with fail
    go_cut [40] from 11 to 89 (fun c wx => c = .bool z ∧ w6 = wx)
    case first =>
      cases k3 with
      | false =>
        go_wp2_with fail
        go_meet
        case rel => exact ⟨by rw [← HZ.out]; rfl, rfl⟩
      | true =>
        by_cases hp : 0 ≤ PV
        · go_wp2_with fail
          go_meet
          case rel => exact ⟨by rw [← HZ.out]; simp [hp], rfl⟩
        · have hp' : (0 ≤ PV) = False := eq_false hp
          go_wp2_with fail
          go_meet
          case rel => exact ⟨by rw [← HZ.out]; simp [hp], rfl⟩
    case rest =>
    obtain ⟨rfl, rfl⟩ := hcut
    have hf2 := fits_paraK (k := 0) (E := E1) (kindP nm) (Fits.here (E := E1) (st := st1) u1 0)
    go_upto_if 40 with fail
    go_cut [] from 11 to 89 (fun wx => ∃ F', SInv w bb F tb nb s nm va vc al tx (paraK (kindP nm) (E1, st1)) wx F')
    case first =>
      cases z with
      | false =>
        have hpk : paraK (kindP nm) (E1, st1) = (E1, st1) := by
          unfold paraK
          by_cases hk : kindP nm = 3
          · rw [if_pos hk, paraP]
            have h1 := HZ.out
            have h2 := HK3.out
            have h3 := HPV.out
            rw [← h2, show decide (kindP nm = 3) = true by simpa using hk, Bool.true_and, decide_eq_false_iff_not] at h1
            rw [if_neg]
            intro hc
            rw [if_pos hc] at h3
            omega
          · rw [if_neg hk]
        go_wp2_with fail
        go_meet
        case rel => rw [hpk]; exact ⟨F3, hi3⟩
      | true =>
        have h1 := HZ.out
        have h3 := HPV.out
        rw [Bool.and_eq_true, decide_eq_true_eq] at h1
        have hc : limitP st1 < lastIdx (fun n => n == [112]) st1 := by
          by_cases hc : limitP st1 < lastIdx (fun n => n == [112]) st1
          · exact hc
          · rw [if_neg hc] at h3
            omega
        rw [if_pos hc] at h3
        have hk : kindP nm = 3 := by have := HK3.out; rw [h1.1] at this; simpa using this
        obtain ⟨P, hP⟩ : ∃ P : Nat, lastIdx (fun n => n == [112]) st1 = (P : Int) := ⟨(lastIdx (fun n => n == [112]) st1).toNat, by omega⟩
        have hpk : paraK (kindP nm) (E1, st1) = (closeE E1 st1 P, st1.take P) := by
          unfold paraK
          rw [if_pos hk, paraP, if_pos hc, hP]
          rfl
        have hpv : PV = (P : Int) + 1 := by omega
        subst hpv
        have hcl := rCloseTo bb P F3 E1 st1 w6 hi3.bld (by omega) u1 (by omega) (by omega)
        clear h1 h3 hc hk hP
        go_wp2_with fail
        refine hcl.mono ?_
        rintro e w7 ⟨rfl, hp7⟩
        obtain ⟨F7, hi7⟩ := hi3.step (o' := (closeE E1 st1 P, st1.take P)) hp7
        go_wp2_with fail
        go_meet
        case rel => rw [hpk]; exact ⟨F7, hi7⟩
    case rest =>
    clear hi3 q0 q1 q2 q3 p0 p1 p2 p3 hge1 hlt1 hgl1 HPV HZ HK3
    obtain ⟨F4, hi4⟩ := hcut
    generalize paraK (kindP nm) (E1, st1) = o2 at *
    obtain ⟨E2, st2⟩ := o2
    obtain ⟨v1, v2, v3⟩ := hf2
    simp only at v1 v2 v3
    obtain ⟨⟨q0, q1, q2, q3⟩, _⟩ := cells4 hi4.tok
    obtain ⟨⟨p0, p1, p2, p3⟩, _⟩ := cells4 hi4.node
    have hf3 := fits_itemK (k := 0) (E := E2) nm (Fits.here (E := E2) (st := st2) v1 0)
    obtain ⟨bl, hbl⟩ : ∃ b, (nm == [108, 105]) = b := ⟨_, rfl⟩
    have HBL : Hid _ := hbl
    go_upto_if 46 with fail
    go_cut [7, 8] from 11 to 89 (fun _ _ wx => ∃ F', SInv w bb F tb nb s nm va vc al tx (itemK nm (E2, st2)) wx F')
    case first =>
      cases bl with
      | false =>
        have hik : itemK nm (E2, st2) = (E2, st2) := by
          unfold itemK
          rw [if_neg (by simpa using HBL.out)]
        go_wp2_with fail
        go_meet
        case rel => rw [hik]; exact ⟨F4, hi4⟩
      | true =>
        have hnl : nm = [108, 105] := by simpa using HBL.out
        have hik : itemK nm (E2, st2) = itemP E2 st2 := by
          unfold itemK
          rw [if_pos hnl]
        have HNL : Hid _ := hnl
        clear hnl
        go_wp2_with fail
        refine (rLimit bb F4 E2 st2 _ hi4.bld v1).mono ?_
        rintro e w7 ⟨rfl, rfl⟩
        go_wp2_with fail
        refine (rLastLim bb F4 E2 st2 ⟨#[108, 105]⟩ _ hi4.bld v1).mono ?_
        rintro e w8 ⟨rfl, rfl⟩
        obtain ⟨LI, hLI⟩ : ∃ PV, lastR st2 (⟨#[108, 105]⟩ : ByteArray).data.toList (limitP st2 + 1) = PV := ⟨_, rfl⟩
        rw [hLI]
        have HLI : Hid _ := hLI
        clear hLI
        go_wp2_with fail
        refine (rLimit bb F4 E2 st2 _ hi4.bld v1).mono ?_
        rintro e w9 ⟨rfl, rfl⟩
        go_wp2_with fail
        refine (rLastLim bb F4 E2 st2 ⟨#[117, 108]⟩ _ hi4.bld v1).mono ?_
        rintro e w10 ⟨rfl, rfl⟩
        obtain ⟨UL, hUL⟩ : ∃ PV, lastR st2 (⟨#[117, 108]⟩ : ByteArray).data.toList (limitP st2 + 1) = PV := ⟨_, rfl⟩
        rw [hUL]
        have HUL : Hid _ := hUL
        clear hUL
        have hlim : ∀ m : List UInt8, lastR st2 m (limitP st2 + 1) = if limitP st2 < lastIdx (fun n => n == m) st2 then lastIdx (fun n => n == m) st2 + 1 else -1 := fun m => by
          unfold lastR
          by_cases hc : limitP st2 < lastIdx (fun n => n == m) st2
          · rw [if_pos (by omega), if_pos hc]
          · rw [if_neg (by omega), if_neg hc]
        have hli : (if limitP st2 < lastIdx (fun n => n == [108, 105]) st2 then lastIdx (fun n => n == [108, 105]) st2 + 1 else -1) = LI := (hlim [108, 105]).symm.trans HLI.out
        have hul : (if limitP st2 < lastIdx (fun n => n == [117, 108]) st2 then lastIdx (fun n => n == [117, 108]) st2 + 1 else -1) = UL := (hlim [117, 108]).symm.trans HUL.out
        have g1 := lastIdx_ge (fun n => n == [108, 105]) st2
        have g2 := lastIdx_ge (fun n => n == [117, 108]) st2
        have g3 := lastIdx_lt (fun n => n == [108, 105]) st2
        have g4 : -1 ≤ limitP st2 := by rw [limit_td]; exact lastIdx_ge _ st2
        have hit := item_eq E2 st2
        by_cases hc : UL < LI
        · obtain ⟨c1, c2⟩ : limitP st2 < lastIdx (fun n => n == [108, 105]) st2 ∧ lastIdx (fun n => n == [117, 108]) st2 < lastIdx (fun n => n == [108, 105]) st2 := by
            rw [← hli, ← hul] at hc
            split at hc <;> split at hc <;> omega
          rw [if_pos ⟨c1, c2⟩] at hit
          rw [if_pos c1] at hli
          obtain ⟨P, hP⟩ : ∃ P : Nat, lastIdx (fun n => n == [108, 105]) st2 = (P : Int) := ⟨(lastIdx (fun n => n == [108, 105]) st2).toNat, by omega⟩
          rw [hP] at hit hli g3
          have hit2 : itemP E2 st2 = (closeE E2 st2 P, st2.take P) := hit
          subst hli
          have hcl := rCloseTo bb P F4 E2 st2 w10 hi4.bld (by omega) v1 (by omega) (by omega)
          clear hul c1 c2 hP g1 g2 g4 hlim hit HLI HUL
          go_wp2_with fail
          refine hcl.mono ?_
          rintro e w11 ⟨rfl, hp11⟩
          obtain ⟨F7, hi7⟩ := hi4.step (o' := (closeE E2 st2 P, st2.take P)) hp11
          go_wp2_with fail
          go_meet
          case rel => rw [hik, hit2]; exact ⟨F7, hi7⟩
        · have hc' : (UL < LI) = False := eq_false hc
          have hcn : ¬ (limitP st2 < lastIdx (fun n => n == [108, 105]) st2 ∧ lastIdx (fun n => n == [117, 108]) st2 < lastIdx (fun n => n == [108, 105]) st2) := by
            rintro ⟨c1, c2⟩
            rw [if_pos c1] at hli
            apply hc
            rw [← hli, ← hul]
            split <;> omega
          rw [if_neg hcn] at hit
          clear hul hli g1 g2 g3 g4 hlim HLI HUL hcn hc
          go_wp2_with fail
          go_meet
          case rel => rw [hik, hit]; exact ⟨F4, hi4⟩
    case rest =>
    clear hi4 q0 q1 q2 q3 p0 p1 p2 p3 hbl HBL
    obtain ⟨F5, hi5⟩ := hcut
    generalize itemK nm (E2, st2) = o3 at *
    obtain ⟨E3, st3⟩ := o3
    obtain ⟨y1, y2, y3⟩ := hf3
    simp only at y1 y2 y3
    rw [tailP_eq] at HE
    obtain ⟨⟨q0, q1, q2, q3⟩, _⟩ := cells4 hi5.tok
    obtain ⟨⟨p0, p1, p2, p3⟩, _⟩ := cells4 hi5.node
    go_wp2_with fail
    refine (rIsVoid ⟨nm.toArray⟩ _).mono ?_
    rintro e w7 ⟨rfl, rfl⟩
    obtain ⟨kv, hkv⟩ : ∃ b, decide (kindP nm = 1) = b := ⟨_, rfl⟩
    have hkv' : decide (kindP (⟨nm.toArray⟩ : ByteArray).data.toList = 1) = kv := hkv
    rw [hkv']
    have HKV : Hid _ := hkv
    clear hkv hkv'
    go_wp2_with fail
    refine (rPushAny bb F5 E3 st3 nm va vc al _ hi5.bld hi5.own hn hi5.ownF y1).mono ?_
    rintro e w8 ⟨rfl, F8, hb8, hk8, hg8⟩
    by_cases hl : st3.length < 12
    · have hd : decide (st3.length < 12) = true := by simpa using hl
      rw [hd]
      rw [if_pos hl] at HE
      clear hd
      have hpp : pushP E3 st3 nm al = (E3 ++ [evOpen nm al], st3 ++ [nm]) := by unfold pushP; rw [if_pos hl]
      rw [hpp] at hb8 HE
      have htokK : Four w8 tb 131 (.int .i64 s) (.string ⟨nm.toArray⟩) (.slice va al.length vc) (.string ⟨tx.toArray⟩) := hi5.tok.kept hk8 hi5.tokF
      clear q0 q1 q2 q3 p0 p1 p2 p3
      obtain ⟨⟨q0, q1, q2, q3⟩, _⟩ := cells4 htokK
      have hK8 : Kept F w w8 := hi5.kept.trans_new hk8 (fun i hi => hi5.grow i hi)
      have hG8 : Grow (F ++ (Value.slice va al.length vc).ownBlock.toList) w F8 := fun k hk => by
        rcases hg8 k hk with h1 | h1
        · rcases List.mem_append.1 h1 with h1 | h1
          · rcases hi5.grow k h1 with h2 | h2
            · exact .inl (by simp [h2])
            · exact .inr h2
          · exact .inl (by simp [h1])
        · exact .inr (by have := hi5.kept.size; omega)
      have hsz8 : evSize (E3 ++ [evOpen nm al]) = evSize E3 := by rw [evSize_append]; rfl
      have hst4 : (st3 ++ [nm]).length ≤ 12 := by simp; omega
      go_upto_if 72 with fail
      generalize hbq : (!tx.isEmpty) = bx
      have HBX : Hid ((!tx.isEmpty) = bx) := hbq
      clear hbq
      go_cut [] from 11 to 89 (fun wx => RPost bb (F ++ (Value.slice va al.length vc).ownBlock.toList) [] (putT (E3 ++ [evOpen nm al], st3 ++ [nm]) tx).1 (st3 ++ [nm]) w wx ∧ (putT (E3 ++ [evOpen nm al], st3 ++ [nm]) tx).2 = st3 ++ [nm])
      case first =>
        cases bx with
        | false =>
          have htn : tx = [] := by simpa using HBX.out
          go_wp2_with fail
          go_meet
          case rel =>
            have e1 : putT (E3 ++ [evOpen nm al], st3 ++ [nm]) tx = (E3 ++ [evOpen nm al], st3 ++ [nm]) := by rw [putT, if_pos htn]
            rw [e1]
            exact ⟨RPost.wide ⟨F8, hb8, hK8, hG8⟩, rfl⟩
        | true =>
          have htn : tx ≠ [] := by simpa using HBX.out
          have e1 : putT (E3 ++ [evOpen nm al], st3 ++ [nm]) tx = (addText (E3 ++ [evOpen nm al]) tx, st3 ++ [nm]) := by
            rw [putT, if_neg htn]
            simp only
            rw [openP_plain _ _ _ (htx htn)]
          have hput := rPut bb F8 (E3 ++ [evOpen nm al]) (st3 ++ [nm]) (NodeR.ofText tx) none none 0 0 0 0 w8 hb8 (ofTextOk w8 tx htn) rfl rfl (fun k hk => by simp [NodeR.ofText] at hk) (by simp [NodeR.ofText]) hst4 (by simp; omega) (by rw [hsz8]; show _ + tx.length ≤ _; omega)
          have e2 : putE (E3 ++ [evOpen nm al]) (NodeR.ofText tx) = addText (E3 ++ [evOpen nm al]) tx := by unfold putE; rw [if_pos (show (NodeR.ofText tx).name = [] from rfl)]; rfl
          rw [e2] at hput
          have HE1 : Hid _ := e1
          clear e1 e2 htn
          go_wp2_with fail
          refine hput.mono ?_
          rintro e w9 ⟨rfl, hp9⟩
          go_wp2_with fail
          go_meet
          case rel =>
            rw [HE1.out]
            exact ⟨RPost.then (hK8.mono (fun i hi => by simp [hi])) hG8 hp9, rfl⟩
      case rest =>
      clear hb8 hk8 hg8 hK8 hG8 htokK q0 q1 q2 q3 hi5 HBX
      obtain ⟨⟨F9, hb9, hK9, hG9⟩, hst9⟩ := hcut
      have hf9 := fits_put (k := 0) (Fits.here (E := E3 ++ [evOpen nm al]) (st := st3 ++ [nm]) hst4 0) tx
      obtain ⟨g, cap, c0, _, _⟩ := hb9.names
      have hl4 : (st3 ++ [nm]).length = st3.length + 1 := by simp
      rw [hl4] at c0
      generalize putT (E3 ++ [evOpen nm al], st3 ++ [nm]) tx = o5 at *
      obtain ⟨E5, st5⟩ := o5
      simp only at hst9
      subst hst9
      obtain ⟨z1, z2, z3⟩ := hf9
      simp only [List.length_append, List.length_cons, List.length_nil] at z2
      rw [hsz8] at z3
      simp only at z3 hb9
      have hcl := rCloseTo bb st3.length F9 E5 (st3 ++ [nm]) wc hb9 (by simp) hst4 (by omega) (by omega)
      cases kv with
      | true =>
        have hv : voidK (kindP nm) (E5, st3 ++ [nm]) = (closeE E5 (st3 ++ [nm]) st3.length, (st3 ++ [nm]).take st3.length) := by
          unfold voidK
          rw [if_pos (by simpa using HKV.out)]
          simp
        rw [hv] at HE
        clear hv hl4
        go_wp2_with fail
        refine hcl.mono ?_
        rintro e w10 ⟨rfl, hp10⟩
        go_wp2_with fail
        go_end0
        rw [HE.out]
        exact ⟨rfl, RPost.then hK9 (grow_nil hG9) hp10⟩
      | false =>
        have hv : voidK (kindP nm) (E5, st3 ++ [nm]) = (E5, st3 ++ [nm]) := by
          unfold voidK
          rw [if_neg (by simpa using HKV.out)]
        rw [hv] at HE
        clear hv hl4
        go_wp2_with fail
        go_end0
        rw [HE.out]
        exact ⟨rfl, F9, hb9, hK9, hG9⟩
    · have hd : decide (st3.length < 12) = false := by simpa using hl
      rw [hd]
      rw [if_neg hl] at HE
      clear hd
      have hpp : pushP E3 st3 nm al = (E3, st3) := by unfold pushP; rw [if_neg hl]
      rw [hpp] at hb8
      go_wp2_with fail
      go_end0
      rw [HE.out]
      refine ⟨rfl, RPost.wide ⟨F8, hb8, hi5.kept.trans_new hk8 (fun i hi => hi5.grow i hi), fun k hk => ?_⟩⟩
      rcases hg8 k hk with h1 | h1
      · rcases List.mem_append.1 h1 with h1 | h1
        · rcases hi5.grow k h1 with h2 | h2
          · exact .inl (by simp [h2])
          · exact .inr h2
        · exact .inl (by simp [h1])
      · exact .inr (by have := hi5.kept.size; omega)
end Go.Proofs.YtlpmjpmefdpcmaaGreatDoor
