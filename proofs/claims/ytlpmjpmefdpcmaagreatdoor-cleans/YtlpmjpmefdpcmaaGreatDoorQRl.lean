import Derived.Test.YtlpmjpmefdpcmaaGreatDoorQRd
import Derived.Test.YtlpmjpmefdpcmaaGreatDoorQLies
import Derived.Test.YtlpmjpmefdpcmaaGreatDoorQRi
import Derived.Test.YtlpmjpmefdpcmaaGreatDoorQWrite
/- The reference: signs are written. -/
namespace Go.Proofs.YtlpmjpmefdpcmaaGreatDoor
open Go.RowKit Scrub
theorem drewN_plus (w : World) (a b : Nat) : (w.drewN a).drewN b = w.drewN (a + b) := by simp [World.drewN, Nat.add_assoc]
def escB (these : List UInt8) (c : UInt8) : List UInt8 := if these.contains c then signOfP c else [c]
theorem escP_take (these s : List UInt8) (k : Nat) (h : k < s.length) : escP these (s.take (k + 1)) = escP these (s.take k) ++ escB these s[k] := by
  rw [List.take_succ_eq_append_getElem h]
  unfold escP escB
  rw [List.flatMap_append]
  simp
theorem escB_take (these : List UInt8) (c : UInt8) (k : Nat) (h : k < these.length) : escB (these.take (k + 1)) c = if c = these[k] then signOfP c else escB (these.take k) c := by
  rw [List.take_succ_eq_append_getElem h]
  unfold escB
  by_cases e : c = these[k]
  · rw [if_pos e, if_pos]
    rw [← e]
    simp
  · rw [if_neg e]
    have : ∀ (x : List UInt8) (y : UInt8), ¬ c = y → (x ++ [y]).contains c = x.contains c := by
      intro x y hy
      rw [Bool.eq_iff_iff]
      simp [hy]
    rw [this _ _ e]
theorem escB_len (these : List UInt8) (c : UInt8) : (escB these c).length ≤ 6 := by
  unfold escB signOfP
  repeat' split
  all_goals simp
theorem escP_len (these : List UInt8) : ∀ s : List UInt8, (escP these s).length ≤ 6 * s.length
  | [] => Nat.le_refl _
  | c :: t => by
    have h1 := escP_len these t
    have h2 := escB_len these c
    have e : escP these (c :: t) = escB these c ++ escP these t := by simp [escP, escB]
    rw [e, List.length_append, List.length_cons]
    omega
theorem sign_of (c : UInt8) : signOfP c = if c.toNat = 38 then [38, 97, 109, 112, 59] else if c.toNat = 60 then [38, 108, 116, 59] else if c.toNat = 62 then [38, 103, 116, 59] else if c.toNat = 34 then [38, 113, 117, 111, 116, 59] else [c] := by
  have e : ∀ n : Nat, n < 256 → ((c = UInt8.ofNat n) ↔ c.toNat = n) := by
    intro n hn
    constructor
    · intro h
      subst h
      simp
      omega
    · intro h
      apply UInt8.toNat_inj.1
      rw [h]
      simp
      omega
  unfold signOfP
  simp only [show (38 : UInt8) = UInt8.ofNat 38 from rfl, show (60 : UInt8) = UInt8.ofNat 60 from rfl, show (62 : UInt8) = UInt8.ofNat 62 from rfl, show (34 : UInt8) = UInt8.ofNat 34 from rfl, e 38 (by omega), e 60 (by omega), e 62 (by omega), e 34 (by omega)]
set_option maxHeartbeats 2000000 in
theorem rSigned (s which : ByteArray) (w : World) (hs : s.size ≤ 1099511627776) (hw : which.size ≤ 1000) :
    Calls Tryz.prog 98 #[.string s, .string which] w fun e w' => e = .returned (.string ⟨(escP which.data.toList s.data.toList).toArray⟩) ∧ ∃ n, w' = w.drewN n := by
  go_enter Tryz.func98, Tryz.ntmps98
  go_wp2_with fail
  go_loopg [5, 6] s.size (fun g x y wr => ∃ k n : Nat, k ≤ s.size ∧ g = s.size - k ∧ x = .string ⟨(escP which.data.toList (s.data.toList.take k)).toArray⟩ ∧ y = .int .i64 (k : Int) ∧ wr = w.drewN n)
  case atStart => exact ⟨0, 0, by omega, rfl, rfl, rfl, rfl⟩
  case round =>
    obtain ⟨k, n, hks, hgk, rfl, rfl, rfl⟩ := hrel
    have HG : Hid _ := hgk
    clear hgk
    by_cases hlt : k < s.size
    · have hlt' : (k : Int) < (s.size : Int) := by omega
      have hge : (0 : Int) ≤ (k : Int) := by omega
      have hle1 : (k : Int) ≤ (k : Int) + 1 := by omega
      have hle2 : (k : Int) + 1 ≤ (s.size : Int) := by omega
      have HS : Hid _ := escP_take which.data.toList s.data.toList k (by simpa using hlt)
      have hol : (escP which.data.toList (s.data.toList.take k)).length ≤ 6597069766656 := by
        have h1 := escP_len which.data.toList (s.data.toList.take k)
        have h2 : (s.data.toList.take k).length ≤ k := List.length_take_le _ _
        omega
      have hel := escB_len which.data.toList s[k]
      generalize escP which.data.toList (s.data.toList.take k) = out at *
      go_wp2_with fail
      go_loopg [7, 8] which.size (fun g x y wr => ∃ j n : Nat, j ≤ which.size ∧ g = which.size - j ∧ x = .string ⟨(escB (which.data.toList.take j) s[k]).toArray⟩ ∧ y = .int .i64 (j : Int) ∧ wr = w.drewN n)
      case atStart =>
        refine ⟨0, n, by omega, rfl, ?_, rfl, rfl⟩
        have : s.extract k (k + 1) = ⟨#[s[k]]⟩ := by
          apply ByteArray.ext
          apply Array.toList_inj.1
          have e := drop_get hlt
          simp
          rw [e]
          rfl
        rw [this]
        rfl
      case round =>
        obtain ⟨j, n2, hjs, hgj, rfl, rfl, rfl⟩ := hrel
        have HGJ : Hid _ := hgj
        clear hgj
        by_cases hjl : j < which.size
        · have hjl' : (j : Int) < (which.size : Int) := by omega
          have hj0 : (0 : Int) ≤ (j : Int) := by omega
          have HE : Hid _ := escB_take which.data.toList s[k] j (by simpa using hjl)
          have HSO : Hid _ := sign_of s[k]
          obtain ⟨q, hq⟩ : ∃ q, ((s[k].toNat : Int) == (which[j].toNat : Int)) = q := ⟨_, rfl⟩
          have HQ : Hid _ := hq
          cases q with
          | false =>
            have HE2 : Hid (escB (which.data.toList.take (j + 1)) s[k] = escB (which.data.toList.take j) s[k]) := by
              show _ = _
              rw [HE.out, if_neg]
              intro e
              have := HQ.out
              have e' : s[k] = which[j] := e
              rw [e'] at this
              simp at this
            clear HE HSO
            go_wp2_with fail
            go_quiet (fail)
            go_wp2_with fail
            go_roundg (which.size - (j + 1))
            case measure => rw [HGJ.out]; omega
            case rel => exact ⟨j + 1, _, by omega, rfl, by rw [HE2.out], by go_num, by first | rfl | exact drewN_plus _ _ _⟩
          | true =>
            have HE2 : Hid (escB (which.data.toList.take (j + 1)) s[k] = if s[k].toNat = 38 then [38, 97, 109, 112, 59] else if s[k].toNat = 60 then [38, 108, 116, 59] else if s[k].toNat = 62 then [38, 103, 116, 59] else if s[k].toNat = 34 then [38, 113, 117, 111, 116, 59] else [s[k]]) := by
              show _ = _
              rw [HE.out, if_pos, HSO.out]
              have := HQ.out
              have h2 : s[k].toNat = which[j].toNat := by
                have h3 : (s[k].toNat : Int) = (which[j].toNat : Int) := by simpa using this
                omega
              exact UInt8.toNat_inj.1 h2
            clear HE HSO
            obtain ⟨x1, h1⟩ : ∃ x, ((s[k].toNat : Int) == 38) = x := ⟨_, rfl⟩
            obtain ⟨x2, h2⟩ : ∃ x, ((s[k].toNat : Int) == 60) = x := ⟨_, rfl⟩
            obtain ⟨x3, h3⟩ : ∃ x, ((s[k].toNat : Int) == 62) = x := ⟨_, rfl⟩
            obtain ⟨x4, h4⟩ : ∃ x, ((s[k].toNat : Int) == 34) = x := ⟨_, rfl⟩
            cases x1 with
            | true =>
              have g1 : s[k].toNat = 38 := by simp at h1; omega
              have HX : Hid (escB (which.data.toList.take (j + 1)) s[k] = [38, 97, 109, 112, 59]) := by
                show _ = _
                rw [HE2.out, if_pos g1]
              clear HE2
              go_wp2_with fail
              go_quiet (fail)
              go_wp2_with fail
              go_roundg (which.size - (j + 1))
              case measure => rw [HGJ.out]; omega
              case rel => exact ⟨j + 1, _, by omega, rfl, by rw [HX.out], by go_num, by first | rfl | exact drewN_plus _ _ _⟩
            | false =>
              have g1 : ¬ s[k].toNat = 38 := by simp at h1; omega
              cases x2 with
              | true =>
                have g2 : s[k].toNat = 60 := by simp at h2; omega
                have HX : Hid (escB (which.data.toList.take (j + 1)) s[k] = [38, 108, 116, 59]) := by
                  show _ = _
                  rw [HE2.out, if_neg g1, if_pos g2]
                clear HE2
                go_wp2_with fail
                go_quiet (fail)
                go_wp2_with fail
                go_roundg (which.size - (j + 1))
                case measure => rw [HGJ.out]; omega
                case rel => exact ⟨j + 1, _, by omega, rfl, by rw [HX.out], by go_num, by first | rfl | exact drewN_plus _ _ _⟩
              | false =>
                have g2 : ¬ s[k].toNat = 60 := by simp at h2; omega
                cases x3 with
                | true =>
                  have g3 : s[k].toNat = 62 := by simp at h3; omega
                  have HX : Hid (escB (which.data.toList.take (j + 1)) s[k] = [38, 103, 116, 59]) := by
                    show _ = _
                    rw [HE2.out, if_neg g1, if_neg g2, if_pos g3]
                  clear HE2
                  go_wp2_with fail
                  go_quiet (fail)
                  go_wp2_with fail
                  go_roundg (which.size - (j + 1))
                  case measure => rw [HGJ.out]; omega
                  case rel => exact ⟨j + 1, _, by omega, rfl, by rw [HX.out], by go_num, by first | rfl | exact drewN_plus _ _ _⟩
                | false =>
                  have g3 : ¬ s[k].toNat = 62 := by simp at h3; omega
                  cases x4 with
                  | true =>
                    have g4 : s[k].toNat = 34 := by simp at h4; omega
                    have HX : Hid (escB (which.data.toList.take (j + 1)) s[k] = [38, 113, 117, 111, 116, 59]) := by
                      show _ = _
                      rw [HE2.out, if_neg g1, if_neg g2, if_neg g3, if_pos g4]
                    clear HE2
                    go_wp2_with fail
                    go_quiet (fail)
                    go_wp2_with fail
                    go_roundg (which.size - (j + 1))
                    case measure => rw [HGJ.out]; omega
                    case rel => exact ⟨j + 1, _, by omega, rfl, by rw [HX.out], by go_num, by first | rfl | exact drewN_plus _ _ _⟩
                  | false =>
                    have g4 : ¬ s[k].toNat = 34 := by simp at h4; omega
                    have HY : Hid (escB (which.data.toList.take j) s[k] = [s[k]]) := by
                      show _ = _
                      unfold escB
                      rw [sign_of, if_neg g1, if_neg g2, if_neg g3, if_neg g4]
                      split <;> rfl
                    rw [HY.out]
                    have HX : Hid (escB (which.data.toList.take (j + 1)) s[k] = [s[k]]) := by
                      show _ = _
                      rw [HE2.out, if_neg g1, if_neg g2, if_neg g3, if_neg g4]
                    clear HE2
                    go_wp2_with fail
                    go_quiet (fail)
                    go_wp2_with fail
                    go_roundg (which.size - (j + 1))
                    case measure => rw [HGJ.out]; omega
                    case rel => exact ⟨j + 1, _, by omega, rfl, by rw [HX.out], by go_num, by first | rfl | exact drewN_plus _ _ _⟩
        · have hjl' : ((j : Int) < (which.size : Int)) = False := eq_false (by omega)
          have HT : Hid (which.data.toList.take j = which.data.toList) := List.take_of_length_le (by simp; omega)
          rw [HT.out]
          go_wp2_with fail
          go_roundg (s.size - (k + 1))
          case measure => rw [HG.out]; omega
          case rel =>
            refine ⟨k + 1, _, by omega, rfl, ?_, by go_num, by first | rfl | exact drewN_plus _ _ _⟩
            have e : escP which.data.toList (s.data.toList.take (k + 1)) = out ++ escB which.data.toList s[k] := HS.out
            rw [e]
            congr 1
    · have hlt' : ((k : Int) < (s.size : Int)) = False := eq_false (by omega)
      go_wp2_with fail
      go_ret
      refine ⟨?_, n, rfl⟩
      rw [List.take_of_length_le (by simp; omega)]
      rfl
end Go.Proofs.YtlpmjpmefdpcmaaGreatDoor
/- The reference: markup is written. -/
namespace Go.Proofs.YtlpmjpmefdpcmaaGreatDoor
open Go.RowKit Scrub Go.Shelf
/-- A kid lies there, and written tells of its kids. -/
def WKid {d : Nat} (w : World) (a : Option Addr) (l : List (GN d)) : Prop :=
  ∀ i (h : i < l.length), ∃ g o av kv, a = some ⟨g, o, none⟩ ∧ w.cell? ⟨g, o + i * 4, none⟩ = some (.string ⟨(l[i]).1.toArray⟩) ∧ w.cell? ⟨g, o + i * 4 + 1, none⟩ = some av ∧ w.cell? ⟨g, o + i * 4 + 2, none⟩ = some kv ∧ w.cell? ⟨g, o + i * 4 + 3, none⟩ = some (.string ⟨(l[i]).2.2.2.toArray⟩) ∧ LiesA w av (l[i]).2.1 ∧ Lies d w kv (l[i]).2.2.1 ∧
    ∀ W, Kept [] w W → Calls Tryz.prog 63 #[kv] W fun e w' => e = .returned (.string ⟨(writeF d (l[i]).2.2.1).toArray⟩) ∧ Kept [] W w'
def writeL {d : Nat} (l : List (GN d)) : List UInt8 := l.flatMap (nodeW (writeF d))
theorem writeL_take {d : Nat} (l : List (GN d)) (k : Nat) (h : k < l.length) : writeL (l.take (k + 1)) = writeL (l.take k) ++ nodeW (writeF d) l[k] := by
  rw [List.take_succ_eq_append_getElem h]
  unfold writeL
  rw [List.flatMap_append]
  simp
theorem sound_raw {d : Nat} {n : GN d} (h : soundN n = true) (hn : n.1 ≠ []) (hk : kindP n.1 = 2) : rawOk d n.2.2.1 n.1 = true := by
  unfold soundN textG elemG kidsOk at h
  rw [if_neg (by omega), if_pos hk] at h
  simp [hn] at h
  exact h.2
theorem raw_cases (d : Nat) (k : GF d) (nm : List UInt8) (h : rawOk d k nm = true) : (glen d k = 0 ∧ rawW d k = [] ∧ writeF d k = []) ∨
    (glen d k = 1 ∧ (rawW d k).length ≤ bulkF d k ∧ ∀ (w : World) (a : Option Addr) (c : Nat), Lies d w (.slice a 1 c) k → ∃ g o, a = some ⟨g, o, none⟩ ∧ w.cell? ⟨g, o + 3, none⟩ = some (.string ⟨(rawW d k).toArray⟩)) := by
  cases d with
  | zero => exact .inl ⟨rfl, rfl, rfl⟩
  | succ d =>
    simp only [rawOk] at h
    have ew : rawW (d + 1) k = (gnodes d k).flatMap (fun n => n.2.2.2) := rfl
    have ef : writeF (d + 1) k = (gnodes d k).flatMap (nodeW (writeF d)) := rfl
    have eg : glen (d + 1) k = (gnodes d k).length := rfl
    have eb := @bulkF_mem d k
    rcases hl : gnodes d k with _ | ⟨x, _ | ⟨y, t⟩⟩
    · rw [hl] at ew ef eg
      exact .inl ⟨eg, ew, ef⟩
    · refine .inr ⟨by rw [eg, hl]; rfl, ?_, ?_⟩
      · have hx := eb (n := x) (by rw [hl]; simp)
        rw [ew, hl]
        unfold bulkN at hx
        simp
        omega
      · intro w a c hL
        obtain ⟨a', c', hv, hc⟩ := hL
        injection hv with q1 q2 q3
        subst q1
        obtain ⟨g, o, ha, av, kv, e0, e1, e2, e3, _⟩ := hc 0 (by rw [hl]; simp)
        refine ⟨g, o, ha, ?_⟩
        have e : (gnodes d k)[0]'(by rw [hl]; simp) = x := by simp [hl]
        rw [e] at e3
        rw [ew, hl]
        simpa using e3
    · rw [hl] at h
      simp at h
theorem attrW_len (a : List UInt8 × List UInt8) : (attrW a).length ≤ 8 * (a.1.length + a.2.length + 1) := by
  have := escP_len [38, 60, 34] a.2
  simp only [attrW, List.length_cons, List.length_append, List.length_nil]
  omega
theorem attrsW_len : ∀ (al : List (List UInt8 × List UInt8)) (j : Nat), ((al.take j).flatMap attrW).length ≤ 8 * bulkA al
  | [], j => by simp
  | a :: t, 0 => by simp
  | a :: t, j + 1 => by
    have h1 := attrsW_len t j
    have h2 := attrW_len a
    rw [List.take_succ_cons, List.flatMap_cons, List.length_append]
    show _ ≤ 8 * (a.1.length + a.2.length + 1 + bulkA t)
    omega
theorem attrsW_take (al : List (List UInt8 × List UInt8)) (j : Nat) (h : j < al.length) : (al.take (j + 1)).flatMap attrW = (al.take j).flatMap attrW ++ attrW al[j] := by
  rw [List.take_succ_eq_append_getElem h, List.flatMap_append]
  simp
theorem app_str (a b : List UInt8) : (⟨a.toArray⟩ ++ ⟨b.toArray⟩ : ByteArray) = ⟨(a ++ b).toArray⟩ := by
  apply ByteArray.ext
  simp
set_option maxRecDepth 100000 in
set_option maxHeartbeats 4000000 in
theorem rWritten_row {d : Nat} (l : List (GN d)) (a : Option Addr) (c : Nat) (w : World) (hK : WKid w a l) (hs : ∀ n ∈ l, soundN n = true)
    (hb : ∀ n ∈ l, bulkN (bulkF d) n ≤ 1099511627776) (hl : l.length ≤ 1099511627776) (hw : ∀ k, (writeL (l.take k)).length ≤ 8796093022208) :
    Calls Tryz.prog 63 #[.slice a l.length c] w fun e w' => e = .returned (.string ⟨(writeL l).toArray⟩) ∧ Kept [] w w' := by
  have HK : Hid _ := hK
  have HS : Hid _ := hs
  have HB : Hid _ := hb
  have HW : Hid _ := hw
  clear hK hs hb hw
  obtain ⟨L, HLE⟩ : ∃ L, Hid (l.length = L) := ⟨_, rfl⟩
  rw [HLE.out]
  rw [HLE.out] at hl
  go_enter Tryz.func63, Tryz.ntmps63
  go_wp2_with fail
  go_loopg [3, 4] L (fun g x y wr => ∃ k : Nat, k ≤ L ∧ g = L - k ∧ x = .string ⟨(writeL (l.take k)).toArray⟩ ∧ y = .int .i64 (k : Int) ∧ Kept [] w wr)
  case atStart => exact ⟨0, by omega, rfl, rfl, rfl, Kept.refl [] _⟩
  case round =>
    obtain ⟨k, hks, hgk, rfl, rfl, hkr⟩ := hrel
    have HG : Hid _ := hgk
    clear hgk
    by_cases hlt : k < L
    · have hlt' : (k : Int) < (L : Int) := by omega
      have hge : (0 : Int) ≤ (k : Int) := by omega
      have hltl : k < l.length := by rw [HLE.out]; exact hlt
      obtain ⟨g, o, av, kv, rfl, e0, e1, e2, e3, hA, hKd, hcall⟩ := HK.out k hltl
      have HSK := HS.out l[k] (List.getElem_mem hltl)
      have HBK : Hid _ := HB.out l[k] (List.getElem_mem hltl)
      have HWK : Hid _ := writeL_take l k hltl
      have hwk := HW.out k
      have hwk1 := HW.out (k + 1)
      have HSD : Hid _ := HSK
      rw [HWK.out, List.length_append] at hwk1
      have e0' := cell_kept hkr e0
      have e1' := cell_kept hkr e1
      have e2' := cell_kept hkr e2
      have e3' := cell_kept hkr e3
      have HCALL : Hid _ := hcall
      have HLA : Hid (LiesA w av (l[k]).2.1) := hA
      have HLK : Hid (Lies d w kv (l[k]).2.2.1) := hKd
      clear e0 e1 e2 e3 hcall HSK
      generalize writeL (l.take k) = out at *
      obtain ⟨aa, ac, rfl⟩ := hA.form
      obtain ⟨ka, kc, hkv⟩ := hKd.form
      subst hkv
      clear hA hKd
      by_cases hnm : (l[k]).1 = []
      · have HN : Hid (nodeW (writeF d) l[k] = escP [38, 60, 62] (l[k]).2.2.2) := by
          show _ = _
          rw [nodeW, if_pos hnm]
        rw [HN.out] at hwk1
        rw [hnm] at e0'
        have hts : (⟨(l[k]).2.2.2.toArray⟩ : ByteArray).size ≤ 1099511627776 := by
          have := HBK.out
          unfold bulkN at this
          simp [ByteArray.size]
          omega
        clear hnm
        go_wp2_with fail
        refine (rSigned ⟨(l[k]).2.2.2.toArray⟩ ⟨#[38, 60, 62]⟩ _ hts (by decide)).mono ?_
        rintro e w1 ⟨rfl, n1, rfl⟩
        generalize hx : escP (⟨#[38, 60, 62]⟩ : ByteArray).data.toList (⟨(l[k]).2.2.2.toArray⟩ : ByteArray).data.toList = ex
        have hx' : escP [38, 60, 62] (l[k]).2.2.2 = ex := hx
        rw [hx'] at hwk1
        have HX : Hid _ := hx'
        clear hx hx'
        go_wp2_with fail
        go_roundg (L - (k + 1))
        case measure => rw [HG.out]; omega
        case rel =>
          refine ⟨k + 1, by omega, rfl, ?_, by go_num, (hkr.alloc _).drewN _⟩
          rw [HWK.out, HN.out, HX.out]
          rfl
      · have HN : Hid (nodeW (writeF d) l[k] = startW (l[k]).1 (l[k]).2.1 ++ (if kindP (l[k]).1 = 1 then [] else (if kindP (l[k]).1 = 2 then rawW d (l[k]).2.2.1 else writeF d (l[k]).2.2.1) ++ endW (l[k]).1)) := by
          show _ = _
          rw [nodeW, if_neg hnm]
        have hb1 : ((l[k]).1 == []) = false := by simpa using hnm
        have hb1' : ((l[k]).1).isEmpty = false := by simpa using hnm
        have hbk := HBK.out
        unfold bulkN at hbk
        have hnl : (l[k]).1.length ≤ 1099511627776 := by omega
        have hal : (l[k]).2.1.length ≤ 1099511627776 := by have := bulkA_len (l[k]).2.1; omega
        have hpart : ∀ j, (((l[k]).2.1.take j).flatMap attrW).length ≤ 8796093022208 := fun j => by
          have := attrsW_len (l[k]).2.1 j
          omega
        have HPART : Hid _ := hpart
        have HBA : Hid (bulkA (l[k]).2.1 ≤ 1099511627776) := by show _ ≤ _; omega
        clear hbk hpart hnm hwk1
        have hbox := heap_alloc_new wr (.cells #[.string ⟨(l[k]).1.toArray⟩, .slice aa (l[k]).2.1.length ac, .slice ka (glen d (l[k]).2.2.1) kc, .string ⟨(l[k]).2.2.2.toArray⟩] 42)
        have hkb := hkr.alloc (.cells #[.string ⟨(l[k]).1.toArray⟩, .slice aa (l[k]).2.1.length ac, .slice ka (glen d (l[k]).2.2.1) kc, .string ⟨(l[k]).2.2.2.toArray⟩] 42)
        go_wp2_with fail
        generalize hW0 : wr.alloc (.cells #[.string ⟨(l[k]).1.toArray⟩, .slice aa (l[k]).2.1.length ac, .slice ka (glen d (l[k]).2.2.1) kc, .string ⟨(l[k]).2.2.2.toArray⟩] 42) = W0 at *
        clear hW0
        have hltb : wr.heap.size < W0.heap.size := (Array.getElem?_eq_some_iff.1 hbox).1
        generalize wr.heap.size = bx at *
        obtain ⟨o1, ho1⟩ : ∃ o1 : List UInt8, o1 = out ++ (60 :: (l[k]).1) := ⟨_, rfl⟩
        have HO1 : Hid _ := ho1
        have hol : o1.length ≤ 17592186044416 := by rw [ho1, List.length_append, List.length_cons]; omega
        have hstr : ((⟨out.toArray⟩ ++ ⟨#[60]⟩ : ByteArray) ++ ⟨(l[k]).1.toArray⟩) = ⟨o1.toArray⟩ := by
          rw [ho1]
          apply ByteArray.ext
          simp
        rw [hstr]
        clear hstr ho1 e0' e1' e2' e3'
        go_loopg [3, 6] (l[k]).2.1.length (fun g x y wq => ∃ j : Nat, j ≤ (l[k]).2.1.length ∧ g = (l[k]).2.1.length - j ∧ x = .string ⟨(o1 ++ ((l[k]).2.1.take j).flatMap attrW).toArray⟩ ∧ y = .int .i64 (j : Int) ∧ Kept [] W0 wq)
        case atStart => exact ⟨0, by omega, rfl, by simp, rfl, Kept.refl [] _⟩
        case round =>
          obtain ⟨j, hjs, hgj, rfl, rfl, hkq⟩ := hrel
          have HGJ : Hid _ := hgj
          clear hgj
          have hboxq := (hkq.block bx hltb (by simp)).trans hbox
          obtain ⟨⟨c0, c1, c2, c3⟩, _⟩ := cells4 hboxq
          have hpj := HPART.out j
          have hkw := hkb.trans hkq
          by_cases hjl : j < (l[k]).2.1.length
          · have hjl' : (j : Int) < ((l[k]).2.1.length : Int) := by omega
            have hj0 : (0 : Int) ≤ (j : Int) := by omega
            obtain ⟨a2, c2', hv2, hcs⟩ := HLA.out.kept hkw
            injection hv2 with q1 q2 q3
            subst q1 q3
            obtain ⟨ga, oa, rfl, ca0, ca1⟩ := hcs j hjl
            have HAT : Hid _ := attrsW_take (l[k]).2.1 j hjl
            have hbj := bulkA_mem (List.getElem_mem hjl)
            have hba := HBA.out
            have hvs : (⟨((l[k]).2.1[j]).2.toArray⟩ : ByteArray).size ≤ 1099511627776 := by simp [ByteArray.size]; omega
            have hnj : ((l[k]).2.1[j]).1.length ≤ 1099511627776 := by omega
            have hel : (escP [38, 60, 34] ((l[k]).2.1[j]).2).length ≤ 8796093022208 := by have := escP_len [38, 60, 34] ((l[k]).2.1[j]).2; omega
            have HAW : Hid (attrW (l[k]).2.1[j] = 32 :: (((l[k]).2.1[j]).1 ++ (61 :: 34 :: (escP [38, 60, 34] ((l[k]).2.1[j]).2 ++ [34])))) := rfl
            clear hbj hba hcs q2
            generalize ((l[k]).2.1.take j).flatMap attrW = ps at *
            generalize hat : (l[k]).2.1[j] = at_ at *
            clear hat
            go_wp2_with fail
            refine (rSigned ⟨at_.2.toArray⟩ ⟨#[38, 60, 34]⟩ _ hvs (by decide)).mono ?_
            rintro e w1 ⟨rfl, n1, hw1⟩
            have hkq1 : Kept [] W0 w1 := by rw [hw1]; exact hkq.drewN _
            have hk1 : Kept [] wr w1 := by rw [hw1]; exact (Kept.refl [] _).drewN _
            have c0' := cell_kept hk1 c0
            have c1' := cell_kept hk1 c1
            have ca0' := cell_kept hk1 ca0
            clear hw1 c0 c1 c2 c3 ca0 ca1 hboxq
            generalize hx : escP (⟨#[38, 60, 34]⟩ : ByteArray).data.toList (⟨at_.2.toArray⟩ : ByteArray).data.toList = ex
            have hx' : escP [38, 60, 34] at_.2 = ex := hx
            rw [hx'] at hel
            have HX : Hid _ := hx'
            clear hx hx'
            go_wp2_with fail
            go_roundg ((l[k]).2.1.length - (j + 1))
            case measure => rw [HGJ.out]; omega
            case rel =>
              refine ⟨j + 1, by omega, rfl, ?_, by go_num, hkq1⟩
              rw [HAT.out, HAW.out, HX.out]
              congr 1
              apply ByteArray.ext
              simp
          · have hjl' : ((j : Int) < ((l[k]).2.1.length : Int)) = False := eq_false (by omega)
            have HTK : Hid ((l[k]).2.1.take j = (l[k]).2.1) := List.take_of_length_le (by omega)
            rw [HTK.out]
            rw [HTK.out] at hpj
            have HSW : Hid (startW (l[k]).1 (l[k]).2.1 = 60 :: ((l[k]).1 ++ ((l[k]).2.1.flatMap attrW ++ [62]))) := rfl
            generalize (l[k]).2.1.flatMap attrW = ps at *
            have hns : (⟨(l[k]).1.toArray⟩ : ByteArray).size ≤ 1099511627776 := by simpa [ByteArray.size] using hnl
            go_wp2_with fail
            refine (rIsVoid ⟨(l[k]).1.toArray⟩ _).mono ?_
            rintro e w2 ⟨rfl, rfl⟩
            generalize hV : decide (kindP (⟨(l[k]).1.toArray⟩ : ByteArray).data.toList = 1) = V
            have HV : Hid (decide (kindP (l[k]).1 = 1) = V) := hV
            clear hV
            go_wp2_with fail
            refine (rIsRaw ⟨(l[k]).1.toArray⟩ _).mono ?_
            rintro e w3 ⟨rfl, rfl⟩
            generalize hR : decide (kindP (⟨(l[k]).1.toArray⟩ : ByteArray).data.toList = 2) = R
            have HR0 : Hid (decide (kindP (l[k]).1 = 2) = R) := hR
            clear hR
            cases V with
            | true =>
              have HK1 : Hid (kindP (l[k]).1 = 1) := by show _ = _; simpa using HV.out
              go_wp2_with fail
              go_roundg (L - (k + 1))
              case measure => rw [HG.out]; omega
              case rel =>
                refine ⟨k + 1, by omega, rfl, ?_, by go_num, hkw⟩
                rw [HWK.out, HN.out, if_pos HK1.out, HSW.out, HO1.out]
                congr 1
                apply ByteArray.ext
                simp
            | false =>
              have HK1 : Hid (kindP (l[k]).1 ≠ 1) := by show _ ≠ _; simpa using HV.out
              cases R with
              | false =>
                have HK2 : Hid (kindP (l[k]).1 ≠ 2) := by show _ ≠ _; simpa using HR0.out
                have hwl : (writeF d (l[k]).2.2.1).length ≤ 8796093022208 := by
                  have h1 := writeF_len d (l[k]).2.2.1
                  have h2 := HBK.out
                  unfold bulkN at h2
                  omega
                go_wp2_with fail
                refine Calls.mono (HCALL.out _ hkw) ?_
                rintro e w4 ⟨rfl, hk4⟩
                have hbox4 := (hk4.block bx (by have := hkq.size; omega) (by simp)).trans hboxq
                clear c0 c1 c2 c3
                obtain ⟨⟨c0, c1, c2, c3⟩, _⟩ := cells4 hbox4
                generalize hwf : writeF d (l[k]).2.2.1 = wf at *
                have HWF : Hid _ := hwf
                clear hwf
                go_wp2_with fail
                go_roundg (L - (k + 1))
                case measure => rw [HG.out]; omega
                case rel =>
                  refine ⟨k + 1, by omega, rfl, ?_, by go_num, hkw.trans hk4⟩
                  rw [HWK.out, HN.out, if_neg HK1.out, if_neg HK2.out, HSW.out, HO1.out]
                  congr 1
                  apply ByteArray.ext
                  simp [endW]
              | true =>
                have HK2 : Hid (kindP (l[k]).1 = 2) := by show _ = _; simpa using HR0.out
                have hne : (l[k]).1 ≠ [] := by simpa using hb1
                have HNE : Hid _ := hne
                clear hne
                rcases raw_cases d (l[k]).2.2.1 (l[k]).1 (sound_raw HSD.out HNE.out HK2.out) with ⟨z1, z2, z3⟩ | ⟨z1, z2, z3⟩
                · have HZ2 : Hid _ := z2
                  rw [z1]
                  rw [z1] at c2
                  have HC2 : Hid (∀ W, Kept [] w W → Calls Tryz.prog 63 #[.slice ka 0 kc] W fun e w' => e = .returned (.string ⟨#[]⟩) ∧ Kept [] W w') := by
                    have h := HCALL.out
                    rw [z1, z3] at h
                    exact h
                  clear z1 z2 z3
                  go_wp2_with fail
                  refine Calls.mono (HC2.out _ hkw) ?_
                  rintro e w4 ⟨rfl, hk4⟩
                  have hbox4 := (hk4.block bx (by have := hkq.size; omega) (by simp)).trans hboxq
                  clear c0 c1 c2 c3
                  obtain ⟨⟨c0, c1, c2, c3⟩, _⟩ := cells4 hbox4
                  go_wp2_with fail
                  go_roundg (L - (k + 1))
                  case measure => rw [HG.out]; omega
                  case rel =>
                    refine ⟨k + 1, by omega, rfl, ?_, by go_num, hkw.trans hk4⟩
                    rw [HWK.out, HN.out, if_neg HK1.out, if_pos HK2.out, HZ2.out, HSW.out, HO1.out]
                    congr 1
                    apply ByteArray.ext
                    simp [endW]
                · have hrl : (rawW d (l[k]).2.2.1).length ≤ 8796093022208 := by
                    have h2 := HBK.out
                    unfold bulkN at h2
                    omega
                  have hlk := HLK.out
                  rw [z1] at hlk
                  obtain ⟨gk0, ok0, rfl, t3⟩ := z3 w ka kc hlk
                  have t3' := cell_kept hkw t3
                  rw [z1]
                  rw [z1] at c2
                  clear z1 z2 z3 t3 hlk
                  generalize hrw : rawW d (l[k]).2.2.1 = rw_ at *
                  have HRW : Hid _ := hrw
                  clear hrw
                  go_wp2_with fail
                  go_roundg (L - (k + 1))
                  case measure => rw [HG.out]; omega
                  case rel =>
                    refine ⟨k + 1, by omega, rfl, ?_, by go_num, hkw⟩
                    rw [HWK.out, HN.out, if_neg HK1.out, if_pos HK2.out, HSW.out, HO1.out]
                    congr 1
                    apply ByteArray.ext
                    simp [endW]
    · have hlt' : ((k : Int) < (L : Int)) = False := eq_false (by omega)
      go_wp2_with fail
      go_ret
      refine ⟨?_, hkr⟩
      rw [List.take_of_length_le (by rw [HLE.out]; omega)]
      rfl
end Go.Proofs.YtlpmjpmefdpcmaaGreatDoor
/- The reference: Write. -/
namespace Go.Proofs.YtlpmjpmefdpcmaaGreatDoor
open Go.RowKit Scrub Go.Shelf
theorem sound_kids : ∀ {d : Nat} {n : GN d}, soundN n = true → soundF d n.2.2.1 = true
  | 0, _, _ => rfl
  | d + 1, n, h => by
    have e : soundF (d + 1) n.2.2.1 = (gnodes d n.2.2.1).all soundN := rfl
    have hz : glen (d + 1) n.2.2.1 = 0 → soundF (d + 1) n.2.2.1 = true := by
      intro hg
      have : gnodes d n.2.2.1 = [] := List.eq_nil_of_length_eq_zero hg
      rw [e, this]
      rfl
    unfold soundN at h
    rw [Bool.or_eq_true] at h
    rcases h with h | h
    · unfold textG at h
      simp at h
      exact hz h.2
    · unfold elemG kidsOk at h
      rw [Bool.and_eq_true] at h
      have h2 := h.2
      split at h2
      · exact hz (by simpa using h2)
      · split at h2
        · simp only [rawOk] at h2
          rw [e]
          generalize gnodes d n.2.2.1 = l at h2
          rcases l with _ | ⟨x, _ | ⟨y, t⟩⟩
          · rfl
          · have h3 : textG x = true := by
              simp at h2
              exact h2.1
            simp [soundN, h3]
          · simp at h2
        · exact h2
def RWrittenOk (d : Nat) : Prop := ∀ (f : GF d) (v : Value) (w : World), Lies d w v f → soundF d f = true → bulkF d f ≤ 1099511627776 →
  Calls Tryz.prog 63 #[v] w fun e w' => e = .returned (.string ⟨(writeF d f).toArray⟩) ∧ Kept [] w w'
theorem rWritten_zero : RWrittenOk 0 := by
  intro f v w hL _ _
  obtain ⟨a, c, rfl⟩ := hL
  exact rWritten_row (d := 0) [] a c w (fun i h => by simp at h) (fun n h => by simp at h) (fun n h => by simp at h) (by simp) (fun k => by simp [writeL])
theorem rWritten_succ (d : Nat) (ih : RWrittenOk d) : RWrittenOk (d + 1) := by
  intro f v w hL hs hb
  obtain ⟨a, c, rfl, hc⟩ := hL
  have hs' : ∀ n ∈ gnodes d f, soundN n = true := List.all_eq_true.1 hs
  have hb' : ∀ n ∈ gnodes d f, bulkN (bulkF d) n ≤ 1099511627776 := fun n hn => Nat.le_trans (bulkF_mem hn) hb
  refine rWritten_row (gnodes d f) a c w ?_ hs' hb' (Nat.le_trans (bulkF_len f) hb) ?_
  · intro i h
    obtain ⟨g, o, ha, av, kv, e0, e1, e2, e3, hA, hK⟩ := hc i h
    refine ⟨g, o, av, kv, ha, e0, e1, e2, e3, hA, hK, fun W hW => ?_⟩
    have hbn := hb' _ (List.getElem_mem h)
    unfold bulkN at hbn
    exact ih _ kv W (hK.kept d hW) (sound_kids (hs' _ (List.getElem_mem h))) (by omega)
  · intro k
    have h1 := writeF_len (d + 1) f
    have e : writeF (d + 1) f = writeL ((gnodes d f).take k) ++ writeL ((gnodes d f).drop k) := by
      show (gnodes d f).flatMap _ = _
      unfold writeL
      rw [← List.flatMap_append, List.take_append_drop]
    rw [e, List.length_append] at h1
    omega
theorem rWritten : ∀ d, RWrittenOk d
  | 0 => rWritten_zero
  | d + 1 => rWritten_succ d (rWritten d)
set_option maxHeartbeats 4000000 in
theorem rWrite (d : Nat) (f : GF d) (v : Value) (w : World) (hL : Lies d w v f) (hb : bulkF d f ≤ 1099511627776) :
    Calls Tryz.prog 33 #[v] w fun e w' => e = .returned (.tuple #[.string ⟨(writeAns d f).toArray⟩, .int .i64 (checkF d f)]) ∧ Kept [] w w' := by
  have HD : Hid _ := rDeep d f v w hL hb
  have hdb := Nat.le_trans (depth_bulk d f) hb
  have HWT : Hid (soundF d f = true → ∀ W, Kept [] w W → Calls Tryz.prog 63 #[v] W fun e w' => e = .returned (.string ⟨(writeF d f).toArray⟩) ∧ Kept [] W w') := fun h W hW => rWritten d f v W (hL.kept d hW) h hb
  have HCF : Hid (checkF d f = if 12 < depthF d f then 3 else if soundF d f then 0 else 2) := rfl
  have HWA : Hid (writeAns d f = if checkF d f = 0 then writeF d f else []) := rfl
  obtain ⟨e, l, a, c, rfl, hkid, hgl, hll, hkv⟩ := kids_row d (fun e _ => rSound e) f v w hL hb
  have HKV : Hid (soundF d f = l.all soundN) := by
    have h := hkv [97]
    exact h
  have HKID : Hid (KidOk w a l) := hkid
  clear hkv hkid hgl hL hb
  obtain ⟨L, HLE⟩ : ∃ L, Hid (l.length = L) := ⟨_, rfl⟩
  rw [HLE.out] at HD HWT hll ⊢
  generalize depthF d f = dp at *
  generalize writeAns d f = wa at *
  generalize checkF d f = ck at *
  go_enter Tryz.func33, Tryz.ntmps33
  go_wp2_with fail
  refine Calls.mono HD.out ?_
  rintro e1 w1 ⟨rfl, n1, rfl⟩
  by_cases hdp : 12 < dp
  · have hdp' : (12 : Int) < (dp : Int) := by omega
    have HC : Hid (ck = 3) := by show _ = _; rw [HCF.out, if_pos hdp]
    have HA : Hid (wa = []) := by show _ = _; rw [HWA.out, HC.out]; rfl
    clear hdp
    go_wp2_with fail
    refine bodyPost_ret (v := .tuple #[.string ⟨#[]⟩, .int .i64 3]) (by simp [results, Tryz.results33, go_sem]) rfl ?_
    rw [HA.out, HC.out]
    exact ⟨rfl, (Kept.refl [] w).drewN _⟩
  · have hdp' : ((12 : Int) < (dp : Int)) = False := eq_false (by omega)
    have HC : Hid (ck = if soundF d f then 0 else 2) := by show _ = _; rw [HCF.out, if_neg hdp]
    clear hdp
    go_wp2_with fail
    go_loopg [5] L (fun g x wr => ∃ k : Nat, k ≤ L ∧ g = L - k ∧ x = .int .i64 (k : Int) ∧ (∀ i (h : i < l.length), i < k → soundN l[i] = true) ∧ Kept [] w wr)
    case atStart => exact ⟨0, by omega, rfl, rfl, fun i h hi => by omega, (Kept.refl [] w).drewN _⟩
    case round =>
      obtain ⟨k, hks, hgk, rfl, hinv, hkr⟩ := hrel
      have HG : Hid _ := hgk
      have HI : Hid _ := hinv
      clear hgk hinv
      by_cases hlt : k < L
      · have hlt' : (k : Int) < (L : Int) := by omega
        have hge : (0 : Int) ≤ (k : Int) := by omega
        have hltl : k < l.length := by rw [HLE.out]; exact hlt
        obtain ⟨g, o, av, kv, rfl, e0, e1, e2, e3, htl, hcall⟩ := HKID.out k hltl
        have e0' := cell_kept hkr e0
        have e1' := cell_kept hkr e1
        have e2' := cell_kept hkr e2
        have e3' := cell_kept hkr e3
        have HCALL : Hid _ := hcall
        clear e0 e1 e2 e3 hcall htl
        go_wp2_with fail
        refine Calls.mono (HCALL.out _ hkr) ?_
        rintro e2 w3 ⟨rfl, hk3⟩
        generalize hs : soundN l[k] = s
        have HS : Hid _ := hs
        clear hs
        cases s with
        | false =>
          have HF : Hid (soundF d f = false) := by
            show _ = _
            rw [HKV.out, List.all_eq_false]
            exact ⟨l[k], List.getElem_mem hltl, by rw [HS.out]; simp⟩
          have HC2 : Hid (ck = 2) := by show _ = _; rw [HC.out, HF.out]; rfl
          have HA : Hid (wa = []) := by show _ = _; rw [HWA.out, HC2.out]; rfl
          go_wp2_with fail
          refine bodyPost_ret (v := .tuple #[.string ⟨#[]⟩, .int .i64 2]) (by simp [results, Tryz.results33, go_sem]) rfl ?_
          rw [HA.out, HC2.out]
          exact ⟨rfl, hkr.trans hk3⟩
        | true =>
          go_wp2_with fail
          go_roundg (L - (k + 1))
          case measure => rw [HG.out]; omega
          case rel =>
            refine ⟨k + 1, by omega, rfl, by go_num, ?_, hkr.trans hk3⟩
            intro i h hi
            by_cases hik : i < k
            · exact HI.out i h hik
            · have : i = k := by omega
              subst this
              exact HS.out
      · have hlt' : ((k : Int) < (L : Int)) = False := eq_false (by omega)
        have HF : Hid (soundF d f = true) := by
          show _ = _
          rw [HKV.out, List.all_eq_true]
          intro x hx
          obtain ⟨i, hi, rfl⟩ := List.getElem_of_mem hx
          exact HI.out i hi (by have := HLE.out; omega)
        have HC2 : Hid (ck = 0) := by show _ = _; rw [HC.out, HF.out]; rfl
        have HA : Hid (wa = writeF d f) := by show _ = _; rw [HWA.out, HC2.out]; rfl
        go_wp2_with fail
        refine Calls.mono (HWT.out HF.out _ hkr) ?_
        rintro e2 w4 ⟨rfl, hk4⟩
        go_wp2_with fail
        refine bodyPost_ret (v := .tuple #[.string ⟨(writeF d f).toArray⟩, .int .i64 0]) (by simp [results, Tryz.results33, go_sem]) rfl ?_
        rw [HA.out, HC2.out]
        exact ⟨rfl, hkr.trans hk4⟩
end Go.Proofs.YtlpmjpmefdpcmaaGreatDoor
