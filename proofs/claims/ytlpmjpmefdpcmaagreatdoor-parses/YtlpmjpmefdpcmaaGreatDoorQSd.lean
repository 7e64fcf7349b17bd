import Derived.Test.YtlpmjpmefdpcmaaGreatDoorQRr
import Derived.Test.YtlpmjpmefdpcmaaGreatDoorQAttrs
import Derived.Test.YtlpmjpmefdpcmaaGreatDoorQParse
/- The reference: signs are read. -/
namespace Go.Proofs.YtlpmjpmefdpcmaaGreatDoor
open Go.RowKit Scrub Go.Shelf
theorem infoByte : (Tryz.prog.info? 5).map (fun i => (i.zero, i.size, i.bytes)) = some (some (.int .u8 0), 1, 1) := by kernel_rfl
def byteCells (l : List UInt8) : List Value := l.map fun b => .int .u8 (b.toNat : Int)
/-- Bytes that a call owns. -/
def BOwn (w : World) (v : Value) (l : List UInt8) : Prop := w.ownsRow 0 5 1 v l.length (byteCells l)
theorem conv_nil (w : World) : (convert 60 9 (.slice none 0 0)).run Tryz.prog w = .ok (.string ⟨#[]⟩) w := by kernel_rfl
theorem ix0 (w : World) : (Instr.index 9 (.string ⟨#[38, 60, 62, 34]⟩) (.int .i64 0)).run Tryz.prog w = .ok (.int .u8 38) w := by kernel_rfl
theorem ix1 (w : World) : (Instr.index 9 (.string ⟨#[38, 60, 62, 34]⟩) (.int .i64 1)).run Tryz.prog w = .ok (.int .u8 60) w := by kernel_rfl
theorem ix2 (w : World) : (Instr.index 9 (.string ⟨#[38, 60, 62, 34]⟩) (.int .i64 2)).run Tryz.prog w = .ok (.int .u8 62) w := by kernel_rfl
theorem ix3 (w : World) : (Instr.index 9 (.string ⟨#[38, 60, 62, 34]⟩) (.int .i64 3)).run Tryz.prog w = .ok (.int .u8 34) w := by kernel_rfl
theorem BOwn.conv {w : World} {v : Value} {l : List UInt8} (h : BOwn w v l) : (convert 60 9 v).run Tryz.prog w = .ok (.string ⟨l.toArray⟩) w := by
  rcases h.2 with ⟨rfl, h0⟩ | ⟨g, cap, cur, rfl, _, hg, _⟩
  · have : l = [] := List.eq_nil_of_length_eq_zero h0
    subst this
    exact conv_nil w
  · refine conv_back w 60 9 5 g cap l.length l rfl Tryz.underlying60 Tryz.underlying5 Tryz.underlying9 (fun j hj => ⟨?_, ?_⟩)
    · refine row_cell h (j := j) ?_
      simp [byteCells, hj]
    · simp [World.frozen?, hg]
def pat (k : Nat) : List UInt8 := [[38, 97, 109, 112, 59], [38, 108, 116, 59], [38, 103, 116, 59], [38, 113, 117, 111, 116, 59]].getD k []
def patC (k : Nat) : UInt8 := [38, 60, 62, 34].getD k 0
theorem pat_clash {l p q : List UInt8} (hp : List.isPrefixOf p l = true) (hq : List.isPrefixOf q l = true) (h1 : List.isPrefixOf p q = false) (h2 : List.isPrefixOf q p = false) : False := by
  rcases List.prefix_or_prefix_of_prefix (List.isPrefixOf_iff_prefix.1 hp) (List.isPrefixOf_iff_prefix.1 hq) with h | h
  · rw [List.isPrefixOf_iff_prefix.2 h] at h1
    cases h1
  · rw [List.isPrefixOf_iff_prefix.2 h] at h2
    cases h2
theorem pat_apart' : ∀ j, j < 4 → ∀ k, k < 4 → j ≠ k → List.isPrefixOf (pat j) (pat k) = false := by decide
theorem pat_apart (j k : Nat) (hj : j < 4) (hk : k < 4) (h : j ≠ k) : List.isPrefixOf (pat j) (pat k) = false := pat_apart' j hj k hk h
theorem pat_size : ∀ k, k < 4 → (pat k).length ≤ 6 ∧ 0 < (pat k).length := by decide
theorem pat_sz (k : Nat) (h : k < 4) : (⟨(pat k).toArray⟩ : ByteArray).size ≤ 1099511627776 := by
  have h1 := pat_size k h
  have h2 : (⟨(pat k).toArray⟩ : ByteArray).size = (pat k).length := by rw [← ByteArray.size_data]; simp
  omega
/-- What the first k signs have given: none stands here, or one. -/
def SgAt (l acc : List UInt8) (k : Nat) (n : Nat) (out : List UInt8) : Prop :=
  (n = 0 ∧ (∀ j, j < k → List.isPrefixOf (pat j) l = false) ∧ out = acc) ∨ ∃ j, j < k ∧ j < 4 ∧ List.isPrefixOf (pat j) l = true ∧ n = (pat j).length ∧ out = acc ++ [patC j]
theorem SgAt.zero (l acc : List UInt8) : SgAt l acc 0 0 acc := .inl ⟨rfl, fun j hj => by omega, rfl⟩
theorem SgAt.miss {l acc : List UInt8} {k n : Nat} {out : List UInt8} (h : SgAt l acc k n out) (hp : List.isPrefixOf (pat k) l = false) : SgAt l acc (k + 1) n out := by
  rcases h with ⟨h1, h2, h3⟩ | ⟨j, h1, h2, h3⟩
  · refine .inl ⟨h1, fun j hj => ?_, h3⟩
    by_cases e : j = k
    · subst e; exact hp
    · exact h2 j (by omega)
  · exact .inr ⟨j, by omega, h2, h3⟩
theorem SgAt.hit {l acc : List UInt8} {k n : Nat} {out : List UInt8} (h : SgAt l acc k n out) (hk : k < 4) (hp : List.isPrefixOf (pat k) l = true) : out = acc ∧ SgAt l acc (k + 1) (pat k).length (acc ++ [patC k]) := by
  rcases h with ⟨h1, h2, h3⟩ | ⟨j, h1, h2, h3, _⟩
  · exact ⟨h3, .inr ⟨k, by omega, hk, hp, rfl, rfl⟩⟩
  · exact absurd (pat_clash h3 hp (pat_apart j k h2 hk (by omega)) (pat_apart k j hk h2 (by omega))) id
theorem SgAt.done {l acc : List UInt8} {n : Nat} {out : List UInt8} (h : SgAt l acc 4 n out) : (n = 0 ∧ out = acc ∧ sign1 l = (l.headD 0, 1)) ∨ (0 < n ∧ ∃ c, out = acc ++ [c] ∧ sign1 l = (c, n)) := by
  rcases h with ⟨h1, h2, h3⟩ | ⟨j, _, h2, h3, h4, h5⟩
  · refine .inl ⟨h1, h3, ?_⟩
    have a := h2 0 (by omega)
    have b := h2 1 (by omega)
    have c := h2 2 (by omega)
    have d := h2 3 (by omega)
    exact sign1_none ⟨fun _ => a, fun _ => b, fun _ => c, fun _ => d⟩
  · refine .inr ⟨?_, patC j, h5, ?_⟩
    · have : ∀ j, j < 4 → 0 < (pat j).length := by decide
      rw [h4]; exact this j h2
    · have no : ∀ k, k < 4 → k ≠ j → List.isPrefixOf (pat k) l = false := by
        intro k hk hne
        cases hq : List.isPrefixOf (pat k) l with
        | false => rfl
        | true => exact absurd (pat_clash h3 hq (pat_apart j k h2 hk (Ne.symm hne)) (pat_apart k j hk h2 hne)) id
      subst h4
      have hc : j = 0 ∨ j = 1 ∨ j = 2 ∨ j = 3 := by omega
      rcases hc with rfl | rfl | rfl | rfl
      · exact sign1_amp h3
      · exact sign1_lt ((NoSign.zero l).s1 (no 0 (by omega) (by omega))) h3
      · exact sign1_gt (((NoSign.zero l).s1 (no 0 (by omega) (by omega))).s2 (no 1 (by omega) (by omega))) h3
      · exact sign1_quot ((((NoSign.zero l).s1 (no 0 (by omega) (by omega))).s2 (no 1 (by omega) (by omega))).s3 (no 2 (by omega) (by omega))) h3
/-- The four signs lie there; the bytes so far are the call's own. -/
def SEnv (w wr : World) (v : Value) (acc : List UInt8) : Prop :=
  Kept [] w wr ∧ wr.heap[w.heap.size]? = some (.cells #[.string ⟨(pat 0).toArray⟩, .string ⟨(pat 1).toArray⟩, .string ⟨(pat 2).toArray⟩, .string ⟨(pat 3).toArray⟩] 9 (0, 0)) ∧ BOwn wr v acc ∧ ∀ k, v.ownBlock = some k → w.heap.size < k
theorem SEnv.app {w wr w' : World} {v v' : Value} {acc : List UInt8} {c : UInt8} {o : Obj} (h : SEnv w wr v acc) (hown : w'.ownsRow 0 5 1 v' (acc.length + 1) (byteCells acc ++ [.int .u8 (c.toNat : Int)])) (hgr : (wr.alloc o).grownBy w' v.ownBlock) (hmv : Moved (wr.alloc o) v v') : SEnv w w' v' (acc ++ [c]) := by
  obtain ⟨h1, h2, h3, h4⟩ := h
  have hk := Kept.own hgr
  have hz : wr.heap.size ≤ (wr.alloc o).heap.size := ((Kept.refl [] wr).alloc o).size
  have hlt : w.heap.size < wr.heap.size := (Array.getElem?_eq_some_iff.1 h2).1
  refine ⟨(h1.alloc o).trans_new hk (fun i hi => ?_), ?_, ?_, ?_⟩
  · have := h4 i (by simpa using hi)
    exact .inr (by omega)
  · rw [hk.block _ (by omega) (fun hc => by have := h4 _ (by simpa using hc); omega), Below.heap_alloc _ _ _ hlt]
    exact h2
  · show w'.ownsRow _ _ _ _ (acc ++ [c]).length (byteCells (acc ++ [c]))
    rw [List.length_append]
    simpa [byteCells] using hown
  · intro k hk'
    rcases hmv with hm | ⟨k2, hm1, hm2⟩
    · exact h4 k (by rw [← hm]; exact hk')
    · rw [hm1] at hk'
      injection hk' with e
      omega
set_option maxHeartbeats 4000000 in
theorem rSigns (s : ByteArray) (w : World) (hs : s.size ≤ 1099511627776) :
    Calls Tryz.prog 144 #[.string s] w fun e w' => e = .returned (.string ⟨(signs s.data.toList).toArray⟩) ∧ Kept [] w w' := by
  obtain ⟨i0, hi, hz0, hz1, hz2⟩ := info_parts infoByte
  have hix : ∀ k : Nat, k < 4 → ∀ w, (Instr.index 9 (.string ⟨#[38, 60, 62, 34]⟩) (.int .i64 (k : Int))).run Tryz.prog w = .ok (.int .u8 ((patC k).toNat : Int)) w := by
    intro k hk w
    have hc : k = 0 ∨ k = 1 ∨ k = 2 ∨ k = 3 := by omega
    rcases hc with rfl | rfl | rfl | rfl
    · exact ix0 w
    · exact ix1 w
    · exact ix2 w
    · exact ix3 w
  go_enter Tryz.func144, Tryz.ntmps144
  go_wp2_with fail
  go_loopg [5, 6] s.size (fun g x5 x6 wr => ∃ (k : Nat) (acc : List UInt8), k ≤ s.size ∧ g = s.size - k ∧ x6 = .int .i64 (k : Int) ∧ signs s.data.toList = acc ++ signs (s.data.toList.drop k) ∧ acc.length ≤ k ∧ SEnv w wr x5 acc)
  case atStart => exact ⟨0, [], by omega, by omega, rfl, by simp, by simp, (Kept.refl _ _).alloc _, heap_alloc_new w _, World.ownsRow_nil _ _ _ _, fun k hk => by cases hk⟩
  case round =>
    obtain ⟨k, acc, hks, hgk, rfl, hinv, hal, henv⟩ := hrel
    have HG : Hid _ := hgk
    have HI : Hid _ := hinv
    clear hgk hinv
    by_cases hlt : k < s.size
    · have hlt' : (k : Int) < (s.size : Int) := by omega
      have hge : (0 : Int) ≤ (k : Int) := by omega
      have HD : Hid ((s.data.toList.drop k).headD 0 = s[k]) := by
        show _ = _
        rw [List.drop_eq_getElem_cons (by simpa using hlt)]
        rfl
      have HNE : Hid (s.data.toList.drop k ≠ []) := by
        show _ ≠ _
        rw [List.drop_eq_getElem_cons (by simpa using hlt)]
        simp
      go_wp2_with fail
      go_loopg [5, 7, 8] 4 (fun g x5 x7 x8 wr => ∃ (j n : Nat) (out : List UInt8), j ≤ 4 ∧ g = 4 - j ∧ x8 = .int .i64 (j : Int) ∧ x7 = .int .i64 (n : Int) ∧ SgAt (s.data.toList.drop k) acc j n out ∧ SEnv w wr x5 out)
      case atStart => exact ⟨0, 0, acc, by omega, by omega, rfl, rfl, SgAt.zero _ _, henv⟩
      case round =>
        clear henv
        obtain ⟨j, n, out, hj4, hgj, rfl, rfl, hsg, henv⟩ := hrel
        have HGJ : Hid _ := hgj
        have HSG : Hid _ := hsg
        have HENV : Hid (SEnv w wr u5 out) := henv
        have HOL : Hid (out.length ≤ acc.length + 1) := by
          show out.length ≤ acc.length + 1
          rcases hsg with ⟨_, _, h⟩ | ⟨_, _, _, _, _, h⟩ <;> rw [h] <;> simp
        clear hgj hsg
        by_cases hlj : j < 4
        · have hlj' : (j : Int) < 4 := by omega
          have hcell : wr.cell? ⟨w.heap.size, j, none⟩ = some (.string ⟨(pat j).toArray⟩) := by
            have hc : j = 0 ∨ j = 1 ∨ j = 2 ∨ j = 3 := by omega
            have h2 := henv.2.1
            rcases hc with rfl | rfl | rfl | rfl <;> simp [World.cell?, h2]
          have hixj := hix j hlj
          have hps := pat_size j hlj
          have HPS : Hid _ := hps
          have hown := henv.2.2.1
          have HOWN : Hid _ := hown
          clear hps hown henv
          go_wp2_with fail
          refine (rAt s ⟨(pat j).toArray⟩ k _ hs (pat_sz j hlj) hks).mono ?_
          rintro e w2 ⟨rfl, rfl⟩
          obtain ⟨b, hb⟩ : ∃ b, List.isPrefixOf (pat j) (s.data.toList.drop k) = b := ⟨_, rfl⟩
          have hb' : List.isPrefixOf (⟨(pat j).toArray⟩ : ByteArray).data.toList (s.data.toList.drop k) = b := hb
          rw [hb']
          have HB : Hid _ := hb
          clear hb hb'
          cases b with
          | true =>
            obtain ⟨hoa, hnx⟩ := SgAt.hit HSG.out hlj HB.out
            subst hoa
            have HNX : Hid _ := hnx
            clear hnx
            go_wp2_with (at_builtin; refine wpList_append_fp _ rfl _ _ 60 rfl 0 5 i0 _ 1 1 Tryz.underlying60 hi hz0 hz1 hz2 rfl (by decide) _ out.length (byteCells out) rfl ?own _ 1 1 [.int .u8 ((patC j).toNat : Int)] rfl rfl ?news ?one ?len ?bytes (Nat.zero_le _) ?_)
            case own => exact ownsRow_kept HOWN.out ((Kept.refl [] _).alloc _) (by simp)
            case news => exact new_cells _ [.int .u8 ((patC j).toNat : Int)] 5
            case one => intro u hu; simp at hu; subst hu; rfl
            case len => unfold maxLen; omega
            case bytes => omega
            intro v' w' hown' hgr hmv
            have henv' := HENV.out.app hown' hgr hmv
            have HENV' : Hid _ := henv'
            have hcell' : w'.cell? ⟨w.heap.size, j, none⟩ = some (.string ⟨(pat j).toArray⟩) := by
              have hc : j = 0 ∨ j = 1 ∨ j = 2 ∨ j = 3 := by omega
              have h2 := henv'.2.1
              rcases hc with rfl | rfl | rfl | rfl <;> simp [World.cell?, h2]
            clear hown' hgr hmv henv'
            go_wp2_with fail
            go_roundg (4 - (j + 1))
            case measure => rw [HGJ.out]; omega
            case rel => exact ⟨j + 1, (pat j).length, _, by omega, rfl, by go_num, by simp, HNX.out, HENV'.out⟩
          | false =>
            go_wp2_with fail
            go_roundg (4 - (j + 1))
            case measure => rw [HGJ.out]; omega
            case rel => exact ⟨j + 1, n, out, by omega, rfl, by go_num, rfl, SgAt.miss HSG.out HB.out, HENV.out⟩
        · obtain rfl : j = 4 := by omega
          have HOWN : Hid (wr.ownsRow 0 5 1 u5 out.length (byteCells out)) := henv.2.2.1
          clear henv
          have hpos := sign1_pos (s.data.toList.drop k)
          have hle := sign1_le (s.data.toList.drop k) HNE.out
          have HSC := signs_cons (s.data.toList.drop k) HNE.out
          rcases SgAt.done HSG.out with ⟨rfl, rfl, h1⟩ | ⟨hn, c, rfl, h1⟩
          · have HNX : Hid (signs s.data.toList = (out ++ [s[k]]) ++ signs (s.data.toList.drop (k + 1))) := by
              show _ = _
              rw [HI.out, HSC, h1, HD.out]
              simp
            clear hpos hle HSC h1 HSG
            go_wp2_with (at_builtin; refine wpList_append_fp _ rfl _ _ 60 rfl 0 5 i0 _ 1 1 Tryz.underlying60 hi hz0 hz1 hz2 rfl (by decide) _ out.length (byteCells out) rfl ?own _ 1 1 [.int .u8 (s[k].toNat : Int)] rfl rfl ?news ?one ?len ?bytes (Nat.zero_le _) ?_)
            case own => exact ownsRow_kept HOWN.out ((Kept.refl [] _).alloc _) (by simp)
            case news => exact new_cells _ [.int .u8 (s[k].toNat : Int)] 5
            case one => intro u hu; simp at hu; subst hu; rfl
            case len => unfold maxLen; omega
            case bytes => omega
            intro v' w' hown' hgr hmv
            have henv' := HENV.out.app hown' hgr hmv
            have HENV' : Hid _ := henv'
            clear hown' hgr hmv henv'
            go_wp2_with fail
            go_roundg (s.size - (k + 1))
            case measure => rw [HG.out]; omega
            case rel => exact ⟨k + 1, out ++ [s[k]], by omega, rfl, by go_num, HNX.out, by simp; omega, HENV'.out⟩
          · have hl : n ≤ s.size - k := by
              rw [h1] at hle
              simpa using hle
            have HNX : Hid (signs s.data.toList = (acc ++ [c]) ++ signs (s.data.toList.drop (k + n))) := by
              show _ = _
              rw [HI.out, HSC, h1]
              simp
            clear hpos hle HSC h1 HSG
            have hn' : ((n : Int) == 0) = false := by simp; omega
            have hn'' : ((n : Int) = 0) = False := by simp; omega
            go_wp2_with fail
            go_roundg (s.size - (k + n))
            case measure => rw [HG.out]; omega
            case rel => exact ⟨k + n, acc ++ [c], by omega, rfl, by go_num, HNX.out, by simp; omega, HENV.out⟩
    · have hlt' : ((k : Int) < (s.size : Int)) = False := eq_false (by omega)
      have hcv := henv.2.2.1.conv
      have HE : Hid (signs s.data.toList = acc) := by
        show _ = _
        rw [HI.out, List.drop_eq_nil_of_le (by simp; omega), signs_nil]
        simp
      go_wp2_with fail
      go_ret
      exact ⟨by rw [HE.out]; rfl, henv.1⟩
end Go.Proofs.YtlpmjpmefdpcmaaGreatDoor
/- All tokens of a markup, one after the other; an attribute by itself. No function of the program in it. -/
namespace Scrub
open Go
abbrev Tok := Int × List UInt8 × List (List UInt8 × List UInt8) × List UInt8
def toksF : Nat → List UInt8 → List Tok
  | 0, _ => []
  | f + 1, r => match nextP r with
    | none => []
    | some (t, rest) => t :: toksF f rest
def toksP (r : List UInt8) : List Tok := toksF (r.length + 1) r
theorem toksF_more : ∀ (n m : Nat) (r : List UInt8), r.length < n → r.length < m → toksF n r = toksF m r
  | 0, _, _, h, _ => by omega
  | _ + 1, 0, _, _, h => by omega
  | n + 1, m + 1, r, hn, hm => by
    unfold toksF
    split
    · rfl
    · rename_i t rest hx
      obtain ⟨s, nm, al, tx⟩ := t
      have := (nextP_ok hx).lt
      rw [toksF_more n m _ (by omega) (by omega)]
theorem toksP_none {r : List UInt8} (h : nextP r = none) : toksP r = [] := by
  unfold toksP toksF
  rw [h]
theorem toksP_some {r rest : List UInt8} {t : Tok} (h : nextP r = some (t, rest)) : toksP r = t :: toksP rest := by
  obtain ⟨s, nm, al, tx⟩ := t
  have hl := (nextP_ok h).lt
  have e : toksP r = (s, nm, al, tx) :: toksF r.length rest := by
    show toksF (r.length + 1) r = _
    rw [toksF, h]
  rw [e]
  show _ = _ :: toksF (rest.length + 1) rest
  rw [toksF_more r.length (rest.length + 1) rest hl (by omega)]
theorem toksP_same {r r' : List UInt8} (h : nextP r = nextP r') : toksP r = toksP r' := by
  cases hx : nextP r with
  | none => rw [toksP_none hx, toksP_none (h ▸ hx)]
  | some p =>
    obtain ⟨t, rest⟩ := p
    have h2 : nextP r' = some (t, rest) := by rw [← h]; exact hx
    rw [toksP_some hx, toksP_some h2]
theorem toksP_nil : toksP [] = [] := toksP_none nextP_nil
theorem toksP_comment {r : List UInt8} (h : r ≠ []) (hb : beginsP r = -1) : toksP r = toksP (Lib.cut (r.drop 4) [45, 45, 62]).2.1 := toksP_same (nextP_comment h hb)
theorem toksP_end {r : List UInt8} (h : r ≠ []) (hb : beginsP r = 2) : toksP r = if (endP r).1 then (2, (endP r).2.1, [], []) :: toksP (endP r).2.2 else toksP (endP r).2.2 := by
  have hn := nextP_end h hb
  split
  · rename_i hc
    rw [hc, if_pos rfl] at hn
    exact toksP_some hn
  · rename_i hc
    rw [if_neg hc] at hn
    exact toksP_same hn
theorem toksP_start {r : List UInt8} (h : r ≠ []) (hb : beginsP r = 1) {nm : List UInt8} {al : List (List UInt8 × List UInt8)} {tx rest : List UInt8} (hs : startP r = some (nm, al, tx, rest)) : toksP r = (1, nm, al, tx) :: toksP rest := by
  have hn := nextP_start h hb
  rw [hs] at hn
  exact toksP_some hn
theorem toksP_cut {r : List UInt8} (h : r ≠ []) (hb : beginsP r = 1) (hs : startP r = none) : toksP r = [] := by
  have hn := nextP_start h hb
  rw [hs] at hn
  exact toksP_none hn
theorem toksP_text {r : List UInt8} (h : r ≠ []) (hb : beginsP r = 0) : toksP r = (0, [], [], signs (textP r).1) :: toksP (textP r).2 := toksP_some (nextP_text h hb)
/-- An attribute: its name and value, what is left; none: the markup ends within it. -/
def attributeP (r : List UInt8) : Option ((List UInt8 × List UInt8) × List UInt8) :=
  if ((attrNameP r).2.dropWhile blankB).isEmpty then none
  else if List.isPrefixOf [61] ((attrNameP r).2.dropWhile blankB) = false then some (((attrNameP r).1, []), (attrNameP r).2.dropWhile blankB)
  else if ((((attrNameP r).2.dropWhile blankB).drop 1).dropWhile blankB).isEmpty then none
  else if (valueP (((attrNameP r).2.dropWhile blankB).drop 1)).2.1 then some (((attrNameP r).1, (valueP (((attrNameP r).2.dropWhile blankB).drop 1)).1), (valueP (((attrNameP r).2.dropWhile blankB).drop 1)).2.2)
  else none
theorem attrsP_nil (al : List (List UInt8 × List UInt8)) : attrsP [] al = none := attrsP_end (r1 := []) rfl rfl
theorem attrsP_one {r : List UInt8} {al : List (List UInt8 × List UInt8)} {r1 : List UInt8} (e : r.dropWhile blankSlashB = r1) (h : r1 ≠ []) (h2 : (r1.headD 0).toNat ≠ 62) :
    attrsP r al = match attributeP r1 with | none => none | some (a, rest) => attrsP rest (withP al a) := by
  unfold attributeP
  cases hE : ((attrNameP r1).2.dropWhile blankB).isEmpty with
  | true =>
    have e3 : (attrNameP r1).2.dropWhile blankB = [] := by simpa using hE
    rw [attrsP_bare e h h2 e3 (by rfl), attrsP_nil]
    simp
  | false =>
    cases hq : List.isPrefixOf [61] ((attrNameP r1).2.dropWhile blankB) with
    | false =>
      rw [attrsP_bare e h h2 rfl hq]
      simp
    | true =>
      simp only [Bool.false_eq_true, if_false, Bool.true_eq_false]
      cases hv : (valueP (((attrNameP r1).2.dropWhile blankB).drop 1)).2.1 with
      | false =>
        rw [attrsP_torn e h h2 rfl hq hv]
        split
        · rfl
        · simp_all
      | true =>
        rw [attrsP_value e h h2 rfl hq hv]
        cases hz : ((((attrNameP r1).2.dropWhile blankB).drop 1).dropWhile blankB).isEmpty with
        | false => simp
        | true =>
          have ez : (((attrNameP r1).2.dropWhile blankB).drop 1).dropWhile blankB = [] := by simpa using hz
          have : (valueP (((attrNameP r1).2.dropWhile blankB).drop 1)).2.2 = [] := by
            rw [valueP_bare ez (by rfl) (by rfl)]
            rfl
          rw [this, attrsP_nil]
          simp
theorem startP_eq (r : List UInt8) : startP r = match attrsP ((r.drop 1).dropWhile nameB) [] with
    | none => none
    | some (al, r3) => if kindP (small ((r.drop 1).takeWhile nameB)) = 2 then some (small ((r.drop 1).takeWhile nameB), al, (rawP (small ((r.drop 1).takeWhile nameB)) r3).1, (rawP (small ((r.drop 1).takeWhile nameB)) r3).2)
      else some (small ((r.drop 1).takeWhile nameB), al, [], r3) := rfl
end Scrub
namespace Go.Proofs.YtlpmjpmefdpcmaaGreatDoor
open Scrub
/-- What is read is what the tokens do, one after the other. -/
def stepTok (o : List Ev × List (List UInt8)) (t : Tok) : List Ev × List (List UInt8) := stepT o t.1 t.2.1 t.2.2.1 t.2.2.2
theorem readFrom_toks : ∀ (n : Nat) (r : List UInt8) (o : List Ev × List (List UInt8)), r.length ≤ n → readFrom r o = (toksP r).foldl stepTok o
  | 0, r, o, h => by
    have : r = [] := List.eq_nil_of_length_eq_zero (by omega)
    subst this
    rw [toksP_nil, readFrom_none nextP_nil]
    rfl
  | n + 1, r, o, h => by
    cases hx : nextP r with
    | none => rw [toksP_none hx, readFrom_none hx]; rfl
    | some p =>
      obtain ⟨⟨s, nm, al, tx⟩, rest⟩ := p
      have := (nextP_ok hx).lt
      rw [toksP_some hx, readFrom_some hx, readFrom_toks n rest _ (by omega)]
      rfl
theorem readP_toks (r : List UInt8) : readP r = closeE ((toksP r).foldl stepTok ([], [])).1 ((toksP r).foldl stepTok ([], [])).2 0 := by
  unfold readP
  rw [readFrom_toks r.length r _ (Nat.le_refl _)]
end Go.Proofs.YtlpmjpmefdpcmaaGreatDoor
/- The reference: one attribute more. -/
namespace Go.Proofs.YtlpmjpmefdpcmaaGreatDoor
open Go.RowKit Scrub Go.Shelf
set_option maxHeartbeats 1000000 in
theorem rWith (v : Value) (al : List (List UInt8 × List UInt8)) (n x : List UInt8) (w : World) (h : AOwn w v al) (hl : al.length ≤ 1099511627776) :
    Calls Tryz.prog 201 #[v, .agg #[.string ⟨n.toArray⟩, .string ⟨x.toArray⟩]] w
      fun e w' => ∃ v', e = .returned v' ∧ AOwn w' v' (withP al (n, x)) ∧ Moved w v v' ∧ Kept v.ownBlock.toList w w' := by
  obtain ⟨i0, hi, hz0, hz1, hz2⟩ := info_parts infoAttr
  obtain ⟨oa, cap, rfl⟩ := ownsRow_form h
  have hpos : ∀ k, k < al.length → ∃ g, oa = some ⟨g, 0, none⟩ := by
    intro k hk
    rcases h.2 with ⟨_, h0⟩ | ⟨g, c, cur, hv, _⟩
    · omega
    · injection hv with e1
      exact ⟨g, e1⟩
  have H0 : Hid _ := h
  clear h
  go_enter Tryz.func201, Tryz.ntmps201
  go_wp2_with fail
  go_loopg [5] al.length (fun gg i wr => ∃ k : Nat, k ≤ al.length ∧ gg = al.length - k ∧ i = .int .i64 (k : Int) ∧ Kept [] w wr ∧ wr.heap[w.heap.size]? = some (.cells #[.string ⟨n.toArray⟩, .string ⟨x.toArray⟩] 63 (0, 0)) ∧ NoName al n k)
  case atStart => exact ⟨0, by omega, rfl, rfl, (Kept.refl _ _).alloc _, heap_alloc_new w _, fun j hj => by omega⟩
  case round =>
    obtain ⟨k, hk, hgk, rfl, hkept, hbx, hno⟩ := hrel
    have HG : Hid (gk = al.length - k) := hgk
    have HB : Hid _ := hbx
    have q0 : wr.cell? ⟨w.heap.size, 0, none⟩ = some (.string ⟨n.toArray⟩) := by simp [World.cell?, hbx]
    have q1 : wr.cell? ⟨w.heap.size, 1, none⟩ = some (.string ⟨x.toArray⟩) := by simp [World.cell?, hbx]
    clear hgk hbx
    by_cases hlt : k < al.length
    · obtain ⟨g, rfl⟩ := hpos k hlt
      have hown : wr.ownsRow 0 63 2 (.slice (some ⟨g, 0, none⟩) al.length cap) al.length (attrCells al) := ownsRow_kept H0.out hkept (by simp)
      have r0 := row_cell hown (attrCells_get al k hlt).1
      have hlt' : (k : Int) < (al.length : Int) := by omega
      clear hown hpos
      cases hq : (al[k].1 == n) with
      | true =>
        have HQ : Hid _ := hq
        go_wp2_with fail
        go_quiet (fail)
        go_wp2_with fail
        go_ret
        refine ⟨_, rfl, ?_, .inl rfl, ((hkept.drewN _).mono (by simp))⟩
        rw [withP_old al (n, x) k hlt (by simpa using HQ.out)]
        exact ownsRow_kept H0.out (hkept.drewN _) (by simp)
      | false =>
        have HQ : Hid _ := hq
        go_wp2_with fail
        go_quiet (fail)
        go_wp2_with fail
        go_roundg (al.length - (k + 1))
        case measure => rw [HG.out]; omega
        case rel =>
          refine ⟨k + 1, by omega, rfl, by go_num, hkept.drewN _, HB.out, fun j hj hjk => ?_⟩
          by_cases e : j = k
          · subst e; simpa using HQ.out
          · exact hno j hj (by omega)
    · have hkl : k = al.length := by omega
      subst hkl
      clear hlt HB
      go_wp2_with (at_builtin; refine wpList_append_fp _ rfl _ _ 40 rfl 0 63 i0 _ 2 32 Tryz.underlying40 hi hz0 hz1 hz2 rfl (by decide) _ al.length (attrCells al) rfl ?own _ 1 1 [.string ⟨n.toArray⟩, .string ⟨x.toArray⟩] rfl rfl ?news ?one ?len ?bytes (Nat.zero_le _) ?_)
      case own => exact ownsRow_kept H0.out (hkept.alloc _) (by simp)
      case news => exact new_cells wr [.string ⟨n.toArray⟩, .string ⟨x.toArray⟩] 63
      case one => intro u hu; simp at hu; rcases hu with rfl | rfl <;> rfl
      case len => unfold maxLen; omega
      case bytes => omega
      intro v' w' hown hgr hmv
      go_wp2_with fail
      go_ret
      refine ⟨v', rfl, ?_, ?_, ?_⟩
      · rw [withP_new _ (n, x) hno]
        have e : (al ++ [(n, x)]).length = al.length + 1 := by simp
        show w'.ownsRow _ _ _ _ (al ++ [(n, x)]).length _
        rw [e, ← attrCells_snoc]
        exact hown
      · exact hmv.kept (hkept.alloc _).size
      · exact (((hkept.alloc _).mono (by simp))).trans (Kept.own hgr)
end Go.Proofs.YtlpmjpmefdpcmaaGreatDoor
/- Places in a markup: what is found, what an attribute takes. No function of the program in it. -/
namespace Go.Proofs.YtlpmjpmefdpcmaaGreatDoor
open Go.RowKit Scrub Go.Shelf
theorem findP_cut (l t : List UInt8) (k : Nat) (hk : k ≤ l.length) :
    (findP l t k = -1 ∧ Lib.cut (l.drop k) t = (l.drop k, [], false)) ∨ ∃ E : Nat, findP l t k = E ∧ k ≤ E ∧ E + t.length ≤ l.length ∧ Lib.cut (l.drop k) t = ((l.drop k).take (E - k), l.drop (E + t.length), true) := by
  have hge := Lib.index_ge (l.drop k) t
  unfold findP Lib.cut
  by_cases h : Lib.index (l.drop k) t = -1
  · left
    rw [if_pos h, if_neg (by omega)]
    exact ⟨rfl, rfl⟩
  · right
    have h0 : 0 ≤ Lib.index (l.drop k) t := by omega
    have hr := Lib.index_room (l.drop k) t (by omega)
    rw [List.length_drop] at hr
    refine ⟨k + (Lib.index (l.drop k) t).toNat, ?_, by omega, by omega, ?_⟩
    · rw [if_neg h]
      omega
    · rw [if_pos h0, List.drop_drop]
      simp only [Prod.mk.injEq, and_true]
      refine ⟨by congr 1; omega, by congr 1; omega⟩
theorem drop_while (p : UInt8 → Bool) (l : List UInt8) (k : Nat) : (l.drop k).dropWhile p = l.drop (k + ((l.drop k).takeWhile p).length) := by
  have h := congrArg List.length (List.takeWhile_append_dropWhile (p := p) (l := l.drop k))
  rw [List.length_append] at h
  rw [dropWhile_suffix, List.drop_drop]
  congr 1
  omega
theorem takeWhile_room (p : UInt8 → Bool) (l : List UInt8) (k : Nat) (hk : k ≤ l.length) : k + ((l.drop k).takeWhile p).length ≤ l.length := by
  have := takeWhile_le p (l.drop k)
  rw [List.length_drop] at this
  omega
theorem skip_blank : skipB false = blankB := by
  funext c
  simp [skipB]
theorem skip_slash : skipB true = blankSlashB := by
  funext c
  simp [skipB, blankSlashB]
theorem drop_empty (l : List UInt8) (k : Nat) : (l.drop k).isEmpty = decide (l.length ≤ k) := by
  rw [Bool.eq_iff_iff]
  simp
/-- A name that begins at i and ends at k1; blanks up to k2. -/
structure NameTo (l : List UInt8) (i k1 k2 : Nat) : Prop where
  a : k1 = i + 1 + ((l.drop (i + 1)).takeWhile (fun c => !endsAttrB c)).length
  b : k2 = k1 + ((l.drop k1).takeWhile blankB).length
theorem NameTo.name {l : List UInt8} {i k1 k2 : Nat} (h : NameTo l i k1 k2) (hi : i < l.length) : (attrNameP (l.drop i)).1 = small ((l.drop i).take (k1 - i)) ∧ (attrNameP (l.drop i)).2 = l.drop k1 ∧ (attrNameP (l.drop i)).2.dropWhile blankB = l.drop k2 ∧ k1 ≤ l.length ∧ k2 ≤ l.length ∧ i < k1 ∧ k1 ≤ k2 := by
  have e2 : (attrNameP (l.drop i)).2 = l.drop k1 := by
    show ((l.drop i).drop 1).dropWhile _ = _
    rw [List.drop_drop, drop_while, h.a]
  have hr := takeWhile_room (fun c => !endsAttrB c) l (i + 1) (by omega)
  rw [← h.a] at hr
  have hr2 := takeWhile_room blankB l k1 hr
  rw [← h.b] at hr2
  have hlt : i < k1 := by have := h.a; omega
  refine ⟨?_, e2, by rw [e2, drop_while, ← h.b], hr, hr2, hlt, by have := h.b; omega⟩
  rw [attrNameP_cut (fun e => by have := congrArg List.length e; simp at this; omega), e2, List.length_drop, List.length_drop]
  congr 2
  omega
theorem attr_none1 {l : List UInt8} {i k1 k2 : Nat} (h : NameTo l i k1 k2) (hi : i < l.length) (h2 : l.length ≤ k2) : attributeP (l.drop i) = none := by
  obtain ⟨_, _, e, _⟩ := h.name hi
  unfold attributeP
  rw [e, drop_empty, if_pos (by simpa using h2)]
theorem prefix_one (l : List UInt8) (c : UInt8) (k : Nat) (hk : k < l.length) : List.isPrefixOf [c] (l.drop k) = (c == l[k]) := by
  rw [List.drop_eq_getElem_cons hk]
  show (c == l[k] && List.isPrefixOf [] _) = _
  rw [show List.isPrefixOf [] (l.drop (k + 1)) = true from rfl, Bool.and_true]
theorem attr_bare {l : List UInt8} {i k1 k2 : Nat} (h : NameTo l i k1 k2) (hi : i < l.length) (h2 : k2 < l.length) (hq : l[k2] ≠ 61) : attributeP (l.drop i) = some ((small ((l.drop i).take (k1 - i)), []), l.drop k2) := by
  obtain ⟨e1, _, e, _⟩ := h.name hi
  unfold attributeP
  rw [e, drop_empty, if_neg (by simpa using h2), prefix_one l 61 k2 h2, if_pos (by simpa using Ne.symm hq), e1]
theorem attr_in {l : List UInt8} {i k1 k2 k3 : Nat} (h : NameTo l i k1 k2) (hi : i < l.length) (h2 : k2 < l.length) (hq : l[k2] = 61) (h3 : k3 = k2 + 1 + ((l.drop (k2 + 1)).takeWhile blankB).length) :
    (l.drop (k2 + 1)).dropWhile blankB = l.drop k3 ∧ k3 ≤ l.length ∧ k2 < k3 ∧
    attributeP (l.drop i) = if (l.drop k3).isEmpty then none else if (valueP (l.drop (k2 + 1))).2.1 then some ((small ((l.drop i).take (k1 - i)), (valueP (l.drop (k2 + 1))).1), (valueP (l.drop (k2 + 1))).2.2) else none := by
  obtain ⟨e1, _, e, _⟩ := h.name hi
  have e3 : (l.drop (k2 + 1)).dropWhile blankB = l.drop k3 := by rw [drop_while, ← h3]
  have hr := takeWhile_room blankB l (k2 + 1) (by omega)
  refine ⟨e3, by omega, by omega, ?_⟩
  unfold attributeP
  have hp : List.isPrefixOf [61] (l.drop k2) = true := by rw [prefix_one l 61 k2 h2, hq]; rfl
  rw [e, drop_empty, if_neg (by simpa using h2), hp, if_neg (by decide), List.drop_drop, e3, e1]
theorem attr_none2 {l : List UInt8} {i k1 k2 k3 : Nat} (h : NameTo l i k1 k2) (hi : i < l.length) (h2 : k2 < l.length) (hq : l[k2] = 61) (h3 : k3 = k2 + 1 + ((l.drop (k2 + 1)).takeWhile blankB).length) (h4 : l.length ≤ k3) : attributeP (l.drop i) = none := by
  obtain ⟨_, _, _, e⟩ := attr_in h hi h2 hq h3
  rw [e, drop_empty, if_pos (by simpa using h4)]
theorem attr_quoted {l : List UInt8} {i k1 k2 k3 : Nat} (h : NameTo l i k1 k2) (hi : i < l.length) (h2 : k2 < l.length) (hq : l[k2] = 61) (h3 : k3 = k2 + 1 + ((l.drop (k2 + 1)).takeWhile blankB).length) (h4 : k3 < l.length) (h5 : l[k3] = 34 ∨ l[k3] = 39) :
    (findP l ((l.drop k3).take 1) (k3 + 1) = -1 ∧ attributeP (l.drop i) = none) ∨ ∃ E : Nat, findP l ((l.drop k3).take 1) (k3 + 1) = E ∧ k3 + 1 ≤ E ∧ E < l.length ∧ attributeP (l.drop i) = some ((small ((l.drop i).take (k1 - i)), signs ((l.drop (k3 + 1)).take (E - (k3 + 1)))), l.drop (E + 1)) := by
  obtain ⟨e3, _, _, e⟩ := attr_in h hi h2 hq h3
  have hv := valueP_quoted e3 (by rw [prefix_one l 34 k3 h4, prefix_one l 39 k3 h4]; rcases h5 with h5 | h5 <;> simp [h5])
  rw [List.drop_drop] at hv
  have hone : ((l.drop k3).take 1).length = 1 := by simp; omega
  rw [e, drop_empty, if_neg (by simpa using h4), hv]
  rcases findP_cut l ((l.drop k3).take 1) (k3 + 1) (by omega) with ⟨f1, f2⟩ | ⟨E, f1, f2, f3, f4⟩
  · left
    refine ⟨f1, ?_⟩
    rw [f2]
    simp
  · right
    refine ⟨E, f1, f2, by omega, ?_⟩
    rw [f4, hone]
    simp
theorem attr_plain {l : List UInt8} {i k1 k2 k3 : Nat} (h : NameTo l i k1 k2) (hi : i < l.length) (h2 : k2 < l.length) (hq : l[k2] = 61) (h3 : k3 = k2 + 1 + ((l.drop (k2 + 1)).takeWhile blankB).length) (h4 : k3 < l.length) (h5 : l[k3] ≠ 34) (h6 : l[k3] ≠ 39) {E : Nat} (hE : E = k3 + ((l.drop k3).takeWhile (fun c => !endsValueB c)).length) :
    attributeP (l.drop i) = some ((small ((l.drop i).take (k1 - i)), signs ((l.drop k3).take (E - k3))), l.drop E) ∧ k3 ≤ E ∧ E ≤ l.length := by
  obtain ⟨e3, _, _, e⟩ := attr_in h hi h2 hq h3
  have hv := valueP_bare e3 (by rw [prefix_one l 34 k3 h4]; simpa using Ne.symm h5) (by rw [prefix_one l 39 k3 h4]; simpa using Ne.symm h6)
  have hr := takeWhile_room (fun c => !endsValueB c) l k3 (by omega)
  refine ⟨?_, by omega, by omega⟩
  rw [e, drop_empty, if_neg (by simpa using h4), hv, drop_while, ← hE]
  have et : (l.drop k3).takeWhile (fun c => !endsValueB c) = (l.drop k3).take (E - k3) := by
    have hp : (l.drop k3).takeWhile (fun c => !endsValueB c) <+: l.drop k3 := List.takeWhile_prefix _
    rw [List.prefix_iff_eq_take.1 hp]
    congr 1
    omega
  rw [et]
  simp
end Go.Proofs.YtlpmjpmefdpcmaaGreatDoor
