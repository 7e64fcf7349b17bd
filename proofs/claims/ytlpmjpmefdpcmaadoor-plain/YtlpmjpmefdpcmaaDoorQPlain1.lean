import Derived.Test.YtlpmjpmefdpcmaaDoorQPlM
import Derived.Test.YtlpmjpmefdpcmaaDoorQAgain2
import Derived.Deep.LoopGhost
import Derived.Laws.IdiomStrings
namespace Go.Proofs.YtlpmjpmefdpcmaaDoor
open Go.RowKit Scrub Go.Shelf
theorem conv_letter (w : World) (b : UInt8) : ∃ c : UInt8, (97 ≤ c.toNat ∧ c.toNat ≤ 122) ∧
    (convert 32 9 (.slice (some ⟨w.heap.size, 0, none⟩) 1 1)).run Tryd.prog (w.alloc (.cells #[.int .u8 (97 + (b.toNat : Int) % 26)] 5)) = .ok (.string ⟨#[c]⟩) (w.alloc (.cells #[.int .u8 (97 + (b.toNat : Int) % 26)] 5)) := by
  refine ⟨UInt8.ofNat (97 + b.toNat % 26), ⟨?_, ?_⟩, ?_⟩
  · simp; omega
  · simp; omega
  · refine run_convert_bytes_back _ _ _ _ ⟨w.heap.size, 0, none⟩ 1 [UInt8.ofNat (97 + b.toNat % 26)] Tryd.underlying32 Tryd.underlying5 Tryd.underlying9 ?_
    intro j hj
    have hj0 : j = 0 := by simpa using hj
    subst hj0
    have e : ((UInt8.ofNat (97 + b.toNat % 26)).toNat : Int) = 97 + (b.toNat : Int) % 26 := by simp; omega
    show World.cell? _ _ = some (.int .u8 ((UInt8.ofNat (97 + b.toNat % 26)).toNat : Int))
    rw [e]
    generalize 97 + (b.toNat : Int) % 26 = z
    show World.cell? _ ⟨w.heap.size, 0, none⟩ = _
    rw [World.cell?_alloc_at _ _ _ _ rfl]
    rfl
set_option maxHeartbeats 1000000 in
theorem same_len (a1 a2 : Option Addr) (n1 n2 c1 c2 : Nat) (w : World) (hne : n1 ≠ n2) :
    Calls Tryd.prog 9 #[.slice a1 n1 c1, .slice a2 n2 c2] w fun e w' => e = .returned (.bool false) ∧ w' = w := by
  have hne' : ((n1 : Int) == (n2 : Int)) = false := by rw [beq_eq_false_iff_ne]; omega
  have hne2 : (n1 == n2) = false := by rw [beq_eq_false_iff_ne]; omega
  go_enter Tryd.func9, Tryd.ntmps9
  go_wp2_with fail
  go_ret
  exact ⟨rfl, rfl⟩
theorem liesA_nil (w : World) : LiesA w (.slice none 0 0) [] := ⟨none, 0, rfl, by simp⟩
theorem ba_list (s : ByteArray) : (⟨s.data.toList.toArray⟩ : ByteArray) = s := by
  apply ByteArray.ext
  simp
/-- Plain's tree, in new blocks. -/
theorem plain_lies (w : World) (T V : ByteArray) (N : List UInt8) :
    Lies 2 (((w.alloc (.cells #[.string ⟨#[120]⟩, .string V] 37)).alloc (.cells #[.string ⟨#[]⟩, .slice none 0 0, .slice none 0 0, .string T] 35)).alloc
      (.cells #[.string ⟨#[]⟩, .slice none 0 0, .slice none 0 0, .string T, .string ⟨N.toArray⟩, .slice (some ⟨w.heap.size, 0, none⟩) 1 1, .slice (some ⟨w.heap.size + 1, 0, none⟩) 1 1, .string ⟨#[]⟩, .string ⟨#[98, 114]⟩, .slice none 0 0, .slice none 0 0, .string ⟨#[]⟩] 35))
      (.slice (some ⟨w.heap.size + 1 + 1, 0, none⟩) 3 3) (plG T.data.toList N V.data.toList) := by
  generalize hW1 : w.alloc (.cells #[.string ⟨#[120]⟩, .string V] 37) = W1
  have s1 : W1.heap.size = w.heap.size + 1 := by rw [← hW1]; show (w.heap.push _).size = _; simp
  have c1 : ∀ i, W1.cell? ⟨w.heap.size, i, none⟩ = (#[.string ⟨#[120]⟩, .string V] : Array Value)[i]? := fun i => by rw [← hW1, World.cell?_alloc_at _ _ _ _ rfl]
  clear hW1
  generalize hW2 : W1.alloc (.cells #[.string ⟨#[]⟩, .slice none 0 0, .slice none 0 0, .string T] 35) = W2
  have s2 : W2.heap.size = w.heap.size + 1 + 1 := by rw [← hW2, ← s1]; show (W1.heap.push _).size = _; simp
  have c2 : ∀ i, W2.cell? ⟨w.heap.size + 1, i, none⟩ = (#[.string ⟨#[]⟩, .slice none 0 0, .slice none 0 0, .string T] : Array Value)[i]? := fun i => by rw [← hW2, World.cell?_alloc_at _ _ _ _ s1.symm]
  have d1 : ∀ i, W2.cell? ⟨w.heap.size, i, none⟩ = (#[.string ⟨#[120]⟩, .string V] : Array Value)[i]? := fun i => by rw [← hW2, World.cell?_alloc_past _ _ _ (by omega)]; exact c1 i
  clear hW2 c1
  generalize hW3 : W2.alloc (.cells #[.string ⟨#[]⟩, .slice none 0 0, .slice none 0 0, .string T, .string ⟨N.toArray⟩, .slice (some ⟨w.heap.size, 0, none⟩) 1 1, .slice (some ⟨w.heap.size + 1, 0, none⟩) 1 1, .string ⟨#[]⟩, .string ⟨#[98, 114]⟩, .slice none 0 0, .slice none 0 0, .string ⟨#[]⟩] 35) = W3
  have c3 : ∀ i, W3.cell? ⟨w.heap.size + 1 + 1, i, none⟩ = (#[.string ⟨#[]⟩, .slice none 0 0, .slice none 0 0, .string T, .string ⟨N.toArray⟩, .slice (some ⟨w.heap.size, 0, none⟩) 1 1, .slice (some ⟨w.heap.size + 1, 0, none⟩) 1 1, .string ⟨#[]⟩, .string ⟨#[98, 114]⟩, .slice none 0 0, .slice none 0 0, .string ⟨#[]⟩] : Array Value)[i]? := fun i => by rw [← hW3, World.cell?_alloc_at _ _ _ _ s2.symm]
  have e1 : ∀ i, W3.cell? ⟨w.heap.size, i, none⟩ = (#[.string ⟨#[120]⟩, .string V] : Array Value)[i]? := fun i => by rw [← hW3, World.cell?_alloc_past _ _ _ (by omega)]; exact d1 i
  have e2 : ∀ i, W3.cell? ⟨w.heap.size + 1, i, none⟩ = (#[.string ⟨#[]⟩, .slice none 0 0, .slice none 0 0, .string T] : Array Value)[i]? := fun i => by rw [← hW3, World.cell?_alloc_past _ _ _ (by omega)]; exact c2 i
  clear hW3 c2 d1
  have hT := ba_list T
  have hV := ba_list V
  have hn : Lies 1 W3 (.slice none 0 0) ([] : GF 1) := ⟨none, 0, rfl, by intro i hi; simp [gnodes] at hi⟩
  have hn0 : Lies 0 W3 (.slice none 0 0) () := ⟨none, 0, rfl⟩
  have hA : LiesA W3 (.slice (some ⟨w.heap.size, 0, none⟩) 1 1) [([120], V.data.toList)] := by
    refine ⟨_, _, rfl, fun i hi => ⟨_, 0, rfl, ?_⟩⟩
    have hi0 : i = 0 := by simpa using hi
    subst hi0
    refine ⟨(e1 0).trans rfl, (e1 1).trans ?_⟩
    show some (Value.string V) = some (.string ⟨V.data.toList.toArray⟩)
    rw [hV]
  have hK : Lies 1 W3 (.slice (some ⟨w.heap.size + 1, 0, none⟩) 1 1) ([([], [], (), T.data.toList)] : GF 1) := by
    refine ⟨_, _, rfl, fun i hi => ⟨_, 0, rfl, ?_⟩⟩
    have hi0 : i = 0 := by simpa [gnodes] using hi
    subst hi0
    refine ⟨_, _, (e2 0).trans rfl, (e2 1).trans rfl, (e2 2).trans rfl, (e2 3).trans ?_, liesA_nil _, hn0⟩
    show some (Value.string T) = some (.string ⟨T.data.toList.toArray⟩)
    rw [hT]
  refine ⟨_, _, rfl, fun i hi => ⟨_, 0, rfl, ?_⟩⟩
  have hi3 : i = 0 ∨ i = 1 ∨ i = 2 := by
    have : i < 3 := hi
    omega
  rcases hi3 with rfl | rfl | rfl
  · refine ⟨_, _, (c3 0).trans rfl, (c3 1).trans rfl, (c3 2).trans rfl, (c3 3).trans ?_, liesA_nil _, hn⟩
    show some (Value.string T) = some (.string ⟨T.data.toList.toArray⟩)
    rw [hT]
  · exact ⟨_, _, (c3 4).trans rfl, (c3 5).trans rfl, (c3 6).trans rfl, (c3 7).trans rfl, hA, hK⟩
  · exact ⟨_, _, (c3 8).trans rfl, (c3 9).trans rfl, (c3 10).trans rfl, (c3 11).trans rfl, liesA_nil _, hn⟩
set_option maxRecDepth 100000 in
set_option maxHeartbeats 8000000 in
theorem plain_any (s value name : ByteArray) (w : World) (hg : Glob w) : Calls Tryd.prog 4 #[.string s, .string value, .string name] w fun e w' => e = .returned (.bool true) ∧ Kept [] w w' := by
  go_enter Tryd.func4, Tryd.ntmps4
  go_wp2_with fail
  refine (readX_any w hg).mono ?_
  rintro e w1 ⟨rfl, hk1⟩
  have hg1 := hg.kept hk1 (by simp) (by simp)
  go_wp2_with fail
  refine (short_any s 60 _ (by omega)).mono ?_
  rintro e w2 ⟨t, rfl, htl, hts, rfl⟩
  clear htl
  go_wp2_with fail
  refine (short_any value 40 _ (by omega)).mono ?_
  rintro e w2 ⟨v, rfl, hvl, hvs, rfl⟩
  clear hvl
  go_wp2_with fail
  have hT1 : (⟨#[97]⟩ ++ t : ByteArray).data.toList = 97 :: t.data.toList := by simp
  generalize (⟨#[97]⟩ ++ t : ByteArray) = T at *
  have hT0 : T.data.toList ≠ [] := by rw [hT1]; simp
  have hTl : T.data.toList.length ≤ 100 := by
    have e : t.data.toList.length = t.size := by simp
    rw [hT1, List.length_cons]
    omega
  have hvl : v.data.toList.length ≤ 100 := by
    have e : v.data.toList.length = v.size := by simp
    omega
  have HT : Hid _ := And.intro hT0 (And.intro hTl hvl)
  clear hT1 hT0 hTl hvl hts hvs
  go_loopg [10, 11] 10 (fun g x y wr => ∃ (k : Nat) (l : List UInt8), k ≤ 10 ∧ g = 10 - k ∧ x = .string ⟨(107 :: l).toArray⟩ ∧ y = .int .i64 (k : Int) ∧ l.length ≤ k ∧ (∀ c ∈ l, 97 ≤ c.toNat ∧ c.toNat ≤ 122) ∧ Kept [] w wr)
  case atStart => exact ⟨0, [], by omega, rfl, rfl, rfl, by simp, by simp, hk1⟩
  case round =>
    obtain ⟨k, l, hk10, hgk, rfl, rfl, hlk, hlc, hkr⟩ := hrel
    have HG : Hid _ := hgk
    clear hgk
    by_cases hk : k < name.size ∧ k < 10
    · obtain ⟨hks, hk9⟩ := hk
      have hks' : (k : Int) < (name.size : Int) := by omega
      have hk9' : (k : Int) < 10 := by omega
      have hk0 : (0 : Int) ≤ (k : Int) := by omega
      obtain ⟨c, hc, hcv⟩ := conv_letter wr name[k]
      have HCV : Hid _ := hcv
      clear hcv
      go_wp2_with fail
      rw [HCV.out]
      go_wp2_with fail
      have e : (⟨(107 :: l).toArray⟩ ++ ⟨#[c]⟩ : ByteArray) = ⟨(107 :: (l ++ [c])).toArray⟩ := by
        apply ByteArray.ext
        simp
      rw [e]
      go_roundg (10 - (k + 1))
      case measure => rw [HG.out]; omega
      case rel =>
        refine ⟨k + 1, l ++ [c], by omega, rfl, rfl, rfl, by simp; omega, ?_, hkr.alloc _⟩
        intro d hd
        rcases List.mem_append.1 hd with hd | hd
        · exact hlc d hd
        · have : d = c := by simpa using hd
          subst this
          exact hc
    · have hcond : ((k : Int) < (name.size : Int)) = False ∨ (k : Int) < (name.size : Int) ∧ ((k : Int) < 10) = False := by
        by_cases h1 : k < name.size
        · refine .inr ⟨by omega, ?_⟩
          have : ¬ k < 10 := fun h2 => hk ⟨h1, h2⟩
          simp
          omega
        · refine .inl ?_
          simp
          omega
      clear hk
      obtain ⟨hT0, hTl, hvl⟩ := HT.out
      have hL := plain_lies wr T v (107 :: l)
      obtain ⟨m1, m2, m3⟩ := plain_tree v.data.toList hT0 (n := 107 :: l) ⟨l, rfl, hlc⟩
      have hnice := plG_nice v.data.toList hT0 (n := 107 :: l) (by simp)
      have hb := plG_bulk (n := 107 :: l) hTl (by simp; omega) hvl
      have hkw : Kept [] wr _ := (((Kept.refl [] wr).alloc (.cells #[.string ⟨#[120]⟩, .string v] 37)).alloc (.cells #[.string ⟨#[]⟩, .slice none 0 0, .slice none 0 0, .string T] 35)).alloc (.cells #[.string ⟨#[]⟩, .slice none 0 0, .slice none 0 0, .string T, .string ⟨(107 :: l).toArray⟩, .slice (some ⟨wr.heap.size, 0, none⟩) 1 1, .slice (some ⟨wr.heap.size + 1, 0, none⟩) 1 1, .string ⟨#[]⟩, .string ⟨#[98, 114]⟩, .slice none 0 0, .slice none 0 0, .string ⟨#[]⟩] 35)
      have hkw3 := hkr.trans hkw
      have hgw := hg.kept hkw3 (by simp) (by simp)
      have hwa := writeAns_ok ⟨m1, m2⟩
      have hw := write_any 2 _ _ _ hL hb hgw
      rw [hwa, m1] at hw
      have HW : Hid _ := hw
      have HR : Hid (readP (writeI (plI T.data.toList (107 :: l) v.data.toList)) = evF 2 (plG T.data.toList (107 :: l) v.data.toList)) := m3
      have HL : Hid _ := hL
      have HK : Hid _ := hkw3
      have HN : Hid _ := hnice
      have HB : Hid _ := hb
      clear hL m1 m2 m3 hnice hb hkw hkw3 hgw hwa hw hT0 hTl hvl HT
      generalize hWI : writeI (plI T.data.toList (107 :: l) v.data.toList) = W at *
      clear hWI
      have hsz : (⟨W.toArray⟩ : ByteArray).size = W.length := by simp [ByteArray.size]
      rcases hcond with hcond | ⟨hc1, hcond⟩
      all_goals
        go_wp2_with fail
        refine Calls.mono HW.out ?_
        rintro e w4 ⟨rfl, hk4⟩
        have hK4 := HK.out.trans hk4
        have hL4 := Lies.kept 2 HL.out hk4
        have hg4 := hg.kept hK4 (by simp) (by simp)
        clear HW HL HK
        by_cases hlen : 600 < W.length
        · have HPL : Hid _ := parse_long ⟨W.toArray⟩ w4 (by rw [hsz]; exact hlen)
          have hgt : (600 : Int) < (W.length : Int) := by omega
          have HL4 : Hid _ := hL4
          clear hlen hL4
          go_wp2_with fail
          refine Calls.mono HPL.out ?_
          rintro e w5 ⟨rfl, hk5⟩
          go_wp2_with fail
          refine (same_len _ _ 3 0 _ _ _ (by decide)).mono ?_
          rintro e w6 ⟨rfl, rfl⟩
          go_wp2_with fail
          go_ret
          exact ⟨rfl, hK4.trans hk5⟩
        · have HPS : Hid _ := parse_short ⟨W.toArray⟩ w4 (by rw [hsz]; omega) hg4
          have hgt : ((600 : Int) < (W.length : Int)) = False := by simp; omega
          have HL4 : Hid _ := hL4
          clear hlen hL4
          go_wp2_with fail
          refine Calls.mono HPS.out ?_
          rintro e w5 ⟨v2, rfl, hnt2⟩
          have hnt2 : NewTree w4 w5 v2 (readP W) := hnt2
          obtain ⟨d2, f2, hL2, hev2, hni2⟩ := hnt2.lies
          have hk5 := hnt2.kept
          have hss : SameF 2 d2 _ f2 := sameF_of HN.out hni2 (HR.out.symm.trans hev2.symm)
          have HSM : Hid _ := same_any 2 d2 _ f2 _ v2 w5 (Lies.kept 2 HL4.out hk5) hL2 hss HB.out
          obtain ⟨va2, vn2, vc2, hv2⟩ : ∃ a n c, v2 = .slice a n c := by
            obtain ⟨a, c, h⟩ := hL2.form
            exact ⟨a, _, c, h⟩
          subst hv2
          clear hnt2 hL2 hev2 hni2 hss HPS
          go_wp2_with fail
          refine Calls.mono HSM.out ?_
          rintro e w7 ⟨rfl, n7, rfl⟩
          go_wp2_with fail
          go_ret
          exact ⟨rfl, (hK4.trans hk5).drewN n7⟩
end Go.Proofs.YtlpmjpmefdpcmaaDoor
