import Derived.Test.YtlpmjpmefdpcmaaGreatDoorQAttrs
import Derived.Test.YtlpmjpmefdpcmaaGreatDoorQBld2
import Derived.ScopeJumps
namespace Go.Proofs.YtlpmjpmefdpcmaaGreatDoor
open Go.RowKit Scrub Go.Shelf
/-- What a start leaves: the token, its attributes' row (new), what is left to read. -/
def StartPost (o : Option (List UInt8 × List (List UInt8 × List UInt8) × List UInt8 × List UInt8)) (rb : Nat) (m : ByteArray) (w : World) (e : Ending) (w' : World) : Prop :=
  Kept [rb] w w' ∧ match o with
  | none => e = .returned (.tuple #[tokV 0 [] (.slice none 0 0) [], .bool false]) ∧ Rd w' rb m []
  | some (nm, al, tx, rest) => ∃ v, e = .returned (.tuple #[tokV 1 nm v tx, .bool true]) ∧ AOwn w' v al ∧ (∀ k, v.ownBlock = some k → w.heap.size ≤ k) ∧ Rd w' rb m rest
/-- The empty token in a block of its own. -/
def Blank (w : World) (b : Nat) : Prop := w.heap[b]? = some (.cells #[.int .i64 0, .string ⟨#[]⟩, .slice none 0 0, .string ⟨#[]⟩] 108 (0, 0))
/-- Where the start is given up. -/
def CutOff (rb : Nat) (m : ByteArray) (r : List UInt8) (w w' : World) : Prop := startP r = none ∧ (∃ k, RdK w' rb m k) ∧ Kept [rb] w w' ∧ Blank w' w.heap.size
/-- The token that is being read, in a block of its own; its attributes' row. -/
def TokAt (w : World) (tb : Nat) (nm : List UInt8) (v : Value) : Prop := w.heap[tb]? = some (.cells #[.int .i64 1, .string ⟨nm.toArray⟩, v, .string ⟨#[]⟩] 108 (0, 0))
def Env (rb : Nat) (w : World) (tb : Nat) (nm : List UInt8) (v : Value) (al : List (List UInt8 × List UInt8)) (wr : World) : Prop :=
  Kept [rb] w wr ∧ Blank wr w.heap.size ∧ TokAt wr tb nm v ∧ AOwn wr v al ∧ (∀ k, v.ownBlock = some k → w.heap.size < k ∧ k ≠ tb) ∧ w.heap.size < tb ∧ rb < w.heap.size
theorem Env.kept {rb : Nat} {w : World} {tb : Nat} {nm : List UInt8} {v : Value} {al : List (List UInt8 × List UInt8)} {wr w' : World} (h : Env rb w tb nm v al wr) (hk : Kept [rb] wr w') : Env rb w tb nm v al w' := by
  obtain ⟨h1, h2, h3, h4, h5, h6, h7⟩ := h
  have l2 : w.heap.size < wr.heap.size := (Array.getElem?_eq_some_iff.1 h2).1
  have l3 : tb < wr.heap.size := (Array.getElem?_eq_some_iff.1 h3).1
  exact ⟨h1.trans hk, (hk.block _ l2 (by simp; omega)).trans h2, (hk.block _ l3 (by simp; omega)).trans h3, ownsRow_kept h4 hk (fun k e => by have := h5 k e; simp; omega), h5, h6, h7⟩
theorem Env.drewN {rb : Nat} {w : World} {tb : Nat} {nm : List UInt8} {v : Value} {al : List (List UInt8 × List UInt8)} {wr : World} (h : Env rb w tb nm v al wr) (n : Nat) : Env rb w tb nm v al (wr.drewN n) := h.kept ((Kept.refl _ _).drewN n)
theorem TokAt.set {w : World} {tb : Nat} {nm : List UInt8} {v v' : Value} (h : TokAt w tb nm v) : TokAt (w.setCell ⟨tb, 2, none⟩ v') tb nm v' := by
  unfold TokAt at *
  simp [World.setCell, Array.getElem?_modify, h]
theorem Env.step {rb : Nat} {w : World} {tb : Nat} {nm : List UInt8} {v v' : Value} {al al' : List (List UInt8 × List UInt8)} {X w1 : World} (h : Env rb w tb nm v al X) (ho : AOwn w1 v' al') (hm : Moved X v v') (hk : Kept v.ownBlock.toList X w1) :
    Env rb w tb nm v' al' (w1.setCell ⟨tb, 2, none⟩ v') := by
  obtain ⟨h1, h2, h3, h4, h5, h6, h7⟩ := h
  have l2 : w.heap.size < X.heap.size := (Array.getElem?_eq_some_iff.1 h2).1
  have l3 : tb < X.heap.size := (Array.getElem?_eq_some_iff.1 h3).1
  have hfar : ∀ k, k ∈ v.ownBlock.toList → w.heap.size < k ∧ k ≠ tb := fun k hk => h5 k (by simpa using hk)
  have hv' : ∀ k, v'.ownBlock = some k → w.heap.size < k ∧ k ≠ tb := by
    intro k hk'
    rcases hm with hm | ⟨k2, hm1, hm2⟩
    · exact h5 k (hm ▸ hk')
    · rw [hk'] at hm1
      injection hm1 with e
      omega
  have kk : Kept [rb] w w1 := h1.trans_new hk (fun i hi => .inr (by have := hfar i hi; omega))
  have b2 : Blank w1 w.heap.size := (hk.block _ l2 (fun hi => by have := hfar _ hi; omega)).trans h2
  have b3 : TokAt w1 tb nm v := (hk.block _ l3 (fun hi => by have := hfar _ hi; omega)).trans h3
  refine ⟨kk.setCell (.inr (Nat.le_of_lt h6)) _, ?_, b3.set, ?_, hv', h6, h7⟩
  · exact (Below.heap_setCell _ _ _ _ (by show _ ≠ tb; omega)).trans b2
  · exact ownsRow_kept ho (S := [tb]) ((Kept.refl _ _).setCell (by simp) _) (fun k hk' => by have := hv' k hk'; simp; omega)
theorem Env.stepRd {rb : Nat} {w : World} {tb : Nat} {nm : List UInt8} {v v' : Value} {al : List (List UInt8 × List UInt8)} {X w1 : World} {m : ByteArray} {r : List UInt8} (h : Env rb w tb nm v al X) (hk : Kept v.ownBlock.toList X w1) (hr : Rd X rb m r) :
    Rd (w1.setCell ⟨tb, 2, none⟩ v') rb m r := by
  obtain ⟨h1, h2, h3, h4, h5, h6, h7⟩ := h
  have hfar : rb ∉ v.ownBlock.toList := fun hi => by have := h5 rb (by simpa using hi); omega
  exact (hr.kept hk hfar).kept (S := [tb]) ((Kept.refl _ _).setCell (by simp) _) (by simp; omega)
theorem Env.stepTok {rb : Nat} {w : World} {tb : Nat} {nm : List UInt8} {v : Value} {al : List (List UInt8 × List UInt8)} {X w1 : World} (h : Env rb w tb nm v al X) (hk : Kept v.ownBlock.toList X w1) : TokAt w1 tb nm v := by
  obtain ⟨h1, h2, h3, h4, h5, h6, h7⟩ := h
  have l3 : tb < X.heap.size := (Array.getElem?_eq_some_iff.1 h3).1
  exact (hk.block _ l3 (fun hi => by have := h5 tb (by simpa using hi); omega)).trans h3
theorem Env.setFar {rb : Nat} {w : World} {tb : Nat} {nm : List UInt8} {v : Value} {al : List (List UInt8 × List UInt8)} {X : World} (h : Env rb w tb nm v al X) {ab : Nat} (hb : w.heap.size < ab) (hb2 : ab ≠ tb) (hb3 : ∀ k, v.ownBlock = some k → k ≠ ab) (o : Nat) (u : Value) :
    Env rb w tb nm v al (X.setCell ⟨ab, o, none⟩ u) := by
  obtain ⟨h1, h2, h3, h4, h5, h6, h7⟩ := h
  refine ⟨h1.setCell (.inr (Nat.le_of_lt hb)) _, ?_, ?_, ?_, h5, h6, h7⟩
  · exact (Below.heap_setCell _ _ _ _ (by show _ ≠ ab; omega)).trans h2
  · exact (Below.heap_setCell _ _ _ _ (by show _ ≠ ab; omega)).trans h3
  · exact ownsRow_kept h4 (S := [ab]) ((Kept.refl _ _).setCell (by simp) _) (fun k hk => by have := hb3 k hk; simp; omega)
def LoopAt (rb : Nat) (m : ByteArray) (w : World) (tb : Nat) (nm r0 : List UInt8) (g : Nat) (wr : World) : Prop :=
  ∃ r' al v, g = r'.length ∧ Rd wr rb m r' ∧ Env rb w tb nm v al wr ∧ attrsP r0 [] = attrsP r' al ∧ al.length + r'.length ≤ m.size
/-- The frame there. -/
def JFrame (rb nb : Nat) (a' : Act) : Prop := ∃ u1 u3 u4 u5 u6 u7 u8 u9 u10 u11 u12 u13 u14 u15 u16 u17 u18 u19 u20 u21 u22 u23 u24 u25 u26 u27 u28 u29 u30 u31 u32 u33 u34 u35 u36 u37 u38 u39 u40 u41 u42 u43 u44 u45 u46 u47 u48 u49 u50 u51 u52 u53 u54 u55 u56 u57 u58 u59 u60 u61 u62 u63 u64 u65 u66 u67 u68 u69 u70 u71 u72 u73 u74 u75 u76 u77 u78 u79 u80 u81 u82 u83 u84 u85 u86 u87 u88 u89 u90 u91 u92 u93 u94 u95 u96 u97 u98 u99 : Value, a' = { tmps := #[.pointer (some ⟨rb, 0, none⟩), u1, .pointer (some ⟨nb, 0, none⟩), u3, u4, u5, u6, u7, u8, u9, u10, u11, u12, u13, u14, u15, u16, u17, u18, u19, u20, u21, u22, u23, u24, u25, u26, u27, u28, u29, u30, u31, u32, u33, u34, u35, u36, u37, u38, u39, u40, u41, u42, u43, u44, u45, u46, u47, u48, u49, u50, u51, u52, u53, u54, u55, u56, u57, u58, u59, u60, u61, u62, u63, u64, u65, u66, u67, u68, u69, u70, u71, u72, u73, u74, u75, u76, u77, u78, u79, u80, u81, u82, u83, u84, u85, u86, u87, u88, u89, u90, u91, u92, u93, u94, u95, u96, u97, u98, u99], defers := [] }
def StartJ (rb : Nat) (m : ByteArray) (r : List UInt8) (w : World) (a' : Act) (w' : World) : Prop := JFrame rb w.heap.size a' ∧ CutOff rb m r w w'
set_option maxHeartbeats 4000000 in
theorem start_any (rb : Nat) (m : ByteArray) (r : List UInt8) (w : World) (h : Rd w rb m r) (h0 : r ≠ []) (hm : m.size < 4294967281) (hg : Glob w) (hrb : 1 ∉ [rb] ∧ 0 ∉ [rb]) :
    Calls Tryz.prog 114 #[.pointer (some ⟨rb, 0, none⟩)] w (StartPost (startP r) rb m w) := by
  obtain ⟨k, hk, hr⟩ := h
  have hkm := hk.2
  have HR : Hid (r = m.data.toList.drop k) := hr
  have hrl : k + 1 ≤ m.size := by
    have : r.length ≠ 0 := fun e => h0 (List.eq_nil_of_length_eq_zero e)
    rw [hr] at this
    simp at this
    omega
  clear hr
  obtain ⟨c0, c1, c2⟩ := hk.cells
  have hrs := hk.lt
  go_enter Tryz.func114, Tryz.ntmps114
  go_wp2_with fail
  refine wp_scope_jumps 0 (StartJ rb m r w) (fun _ _ => 0) rfl ?first ?pass
  case pass =>
    rintro a' w' ⟨⟨u1, u3, u4, u5, u6, u7, u8, u9, u10, u11, u12, u13, u14, u15, u16, u17, u18, u19, u20, u21, u22, u23, u24, u25, u26, u27, u28, u29, u30, u31, u32, u33, u34, u35, u36, u37, u38, u39, u40, u41, u42, u43, u44, u45, u46, u47, u48, u49, u50, u51, u52, u53, u54, u55, u56, u57, u58, u59, u60, u61, u62, u63, u64, u65, u66, u67, u68, u69, u70, u71, u72, u73, u74, u75, u76, u77, u78, u79, u80, u81, u82, u83, u84, u85, u86, u87, u88, u89, u90, u91, u92, u93, u94, u95, u96, u97, u98, u99, rfl⟩, hcut⟩
    obtain ⟨hnone, ⟨kc, hrd⟩, hkept, hbl⟩ := hcut
    obtain ⟨d0, d1, d2⟩ := hrd.cells
    obtain ⟨⟨q0, q1, q2, q3⟩, ⟨f0, f1, f2, f3⟩⟩ := cells4 hbl
    have HN : Hid (startP r = none) := hnone
    clear hnone hbl
    go_wp2_with fail
    simp only [Exit.jump]
    refine bodyPost_ret (v := .tuple #[.agg #[.int .i64 0, .string ⟨#[]⟩, .slice none 0 0, .string ⟨#[]⟩], .bool false]) (by simp [results, Tryz.results114, go_sem, q0, q1, q2, q3]) rfl ?_
    rw [HN.out]
    refine ⟨(hkept.setCell (.inl (by simp)) _).set4 (by simp) _ _ _ _, rfl, ?_⟩
    refine Rd.kept (S := [w.heap.size]) ⟨m.size, hrd.set (k' := m.size) (Nat.le_refl _), by simp⟩ ((Kept.refl _ _).set4 (by simp) _ _ _ _) (by simp; omega)
  case first =>
    go_wp2_with fail
    generalize hW1 : ((w.setCell ⟨rb, 1, none⟩ (.int .i64 ((k : Int) + 1))).alloc (.cells #[.int .i64 0, .string ⟨#[]⟩, .slice none 0 0, .string ⟨#[]⟩] 108)) = W1
    have hk1 : Kept [rb] w W1 := by rw [← hW1]; exact ((Kept.refl _ _).setCell (by simp) _).alloc _
    have hz1 : W1.heap.size = w.heap.size + 1 := by rw [← hW1]; simp [World.setCell]
    have hb1 : Blank W1 w.heap.size := by
      rw [← hW1]
      have := heap_alloc_new (w.setCell ⟨rb, 1, none⟩ (.int .i64 ((k : Int) + 1))) (.cells #[.int .i64 0, .string ⟨#[]⟩, .slice none 0 0, .string ⟨#[]⟩] 108)
      have e : (w.setCell ⟨rb, 1, none⟩ (.int .i64 ((k : Int) + 1))).heap.size = w.heap.size := by simp [World.setCell]
      rw [e] at this
      exact this
    have hrd1 : RdK W1 rb m (k + 1) := by
      rw [← hW1]
      exact (hk.set (k' := k + 1) hrl).kept ((Kept.refl [] _).alloc _) (by simp)
    clear hW1
    refine (pass_any rb m (r.drop 1) _ nameB _ ⟨k + 1, hrd1, by rw [HR.out, List.drop_drop]⟩ (by unfold maxLen; omega) enters_isNameByte isNameByte_any).mono ?_
    rintro e w2 ⟨⟨t, rfl, ht⟩, hrd2, hk2⟩
    have hts : t.size ≤ m.size := by
      have h1 : t.data.toList.length = t.size := by simp
      have h3 := takeWhile_le nameB (r.drop 1)
      rw [ht] at h1
      have h4 : r.length = m.size - k := by rw [HR.out]; simp
      rw [List.length_drop] at h3
      omega
    have HT : Hid (t.data.toList = (r.drop 1).takeWhile nameB) := ht
    clear ht
    go_wp2_with fail
    refine (small_any t _ (by omega)).mono ?_
    rintro e w3 ⟨rfl, hk3⟩
    have hk13 : Kept [rb] w w3 := (hk1.trans hk2).trans (hk3.mono (by simp))
    have hb3 : Blank w3 w.heap.size := by
      have := (hk2.trans (hk3.mono (by simp))).block w.heap.size (by omega) (by simp; omega)
      exact this.trans hb1
    have hrd3 := hrd2.kept hk3 (by simp)
    have hlt3 : w.heap.size < w3.heap.size := (Array.getElem?_eq_some_iff.1 hb3).1
    clear hb1 hrd1 hk1 hk2 hk3 hrd2 hz1
    have HNM : Hid (small t.data.toList = small ((r.drop 1).takeWhile nameB)) := by show _ = _; rw [HT.out]
    generalize small t.data.toList = nm at *
    have h4 : r.length = m.size - k := by rw [HR.out]; simp
    have hrl2 : ((r.drop 1).dropWhile nameB).length ≤ m.size := by
      have := dropWhile_le nameB (r.drop 1)
      rw [List.length_drop] at this
      omega
    clear h4
    generalize hr0 : (r.drop 1).dropWhile nameB = r0 at *
    have HR0 : Hid ((r.drop 1).dropWhile nameB = r0) := hr0
    clear hr0
    go_wp2_with fail
    generalize hW4 : w3.alloc (.cells #[.int .i64 1, .string ⟨nm.toArray⟩, .slice none 0 0, .string ⟨#[]⟩] 108) = W4
    go_loopg [] r0.length (fun g wr => LoopAt rb m w w3.heap.size nm r0 g wr)
    case atStart =>
      rw [← hW4]
      refine ⟨r0, [], .slice none 0 0, rfl, hrd3.kept ((Kept.refl [] _).alloc _) (by simp), ?_, rfl, by simp; omega⟩
      refine ⟨hk13.alloc _, ?_, heap_alloc_new w3 _, World.ownsRow_nil _ _ _ _, by simp [Value.ownBlock], hlt3, hrs⟩
      exact (Below.heap_alloc _ _ _ hlt3).trans hb3
    case round =>
      clear hW4 hrd3 hb3 hk13
      obtain ⟨r', al, v, hgk, hrd, henv, hat, hlen⟩ := hrel
      obtain ⟨va, vc, rfl⟩ := ownsRow_form henv.2.2.2.1
      have HG : Hid (gk = r'.length) := hgk
      have HAT : Hid (attrsP r0 [] = attrsP r' al) := hat
      clear hgk hat
      go_wp2_with fail
      refine (pass_any rb m r' _ blankSlashB _ hrd (by unfold maxLen; omega) enters_isBlankOrSlash isBlankOrSlash_any).mono ?_
      rintro e w4 ⟨⟨t1, rfl, _⟩, hrd4, hk4⟩
      have henv4 := henv.kept hk4
      have hdl := dropWhile_le blankSlashB r'
      generalize hr1 : r'.dropWhile blankSlashB = r1 at *
      have HR1 : Hid (r'.dropWhile blankSlashB = r1) := hr1
      clear hr1 hrd henv hk4
      go_wp2_with fail
      refine (done_any rb m r1 _ hrd4).mono ?_
      rintro e w5 ⟨rfl, n5, rfl⟩
      cases r1 with
      | nil =>
        have HN : Hid (startP r = none) := by
          show _ = _
          rw [startP, HR0.out, HAT.out, attrsP_end HR1.out rfl]
        obtain ⟨kc, hkc, hx⟩ := hrd4
        clear hx
        go_wp2_with fail
        go_step3
        exact ⟨rfl, ⟨_, _, _, _, _, _, _, _, _, _, _, _, _, _, _, _, _, _, _, _, _, _, _, _, _, _, _, _, _, _, _, _, _, _, _, _, _, _, _, _, _, _, _, _, _, _, _, _, _, _, _, _, _, _, _, _, _, _, _, _, _, _, _, _, _, _, _, _, _, _, _, _, _, _, _, _, _, _, _, _, _, _, _, _, _, _, _, _, _, _, _, _, _, _, _, _, _, _, rfl⟩, HN.out, ⟨kc, hkc.drewN _⟩, henv4.1.drewN n5, henv4.2.1⟩
      | cons c rest1 =>
        obtain ⟨k4, hrk4, hlt4, hc4, hrest⟩ := hrd4.cons
        obtain ⟨d0, d1, d2⟩ := hrk4.cells
        have hb0 : (0 : Int) ≤ (k4 : Int) := by omega
        have hb1 : (k4 : Int) < (m.size : Int) := by omega
        have HC4 : Hid (m[k4] = c) := hc4
        have HRE : Hid (rest1 = m.data.toList.drop (k4 + 1)) := hrest
        clear hc4 hrest
        by_cases hgt : m[k4].toNat = 62
        · have hgt' : ((m[k4].toNat : Int) == 62) = true := by rw [beq_iff_eq]; omega
          have HSP : Hid (attrsP r0 [] = some (al, rest1)) := by
            show _ = _
            rw [HAT.out, attrsP_close HR1.out (by simp) (by show c.toNat = 62; rw [← HC4.out]; exact hgt)]
            rfl
          obtain ⟨he1, he2, he3, he4, he5, he6, he7⟩ := henv4
          obtain ⟨⟨q0, q1, q2, q3⟩, ⟨f0, f1, f2, f3⟩⟩ := cells4 he3
          obtain ⟨⟨p0, p1, p2, p3⟩, ⟨g0, g1, g2, g3⟩⟩ := cells4 he2
          have hne1 : ¬ rb = w3.heap.size := by omega
          have hne2 : ¬ w3.heap.size = rb := by omega
          have hne3 : ¬ rb = w.heap.size := by omega
          have hne4 : ¬ w.heap.size = rb := by omega
          have hne5 : ¬ w.heap.size = w3.heap.size := by omega
          have hne6 : ¬ w3.heap.size = w.heap.size := by omega
          go_wp2_with fail
          go_quiet (fail)
          go_wp2_with fail
          have hk6 : Kept [rb] w4 ((w4.drewN (n5 + nq)).setCell ⟨rb, 1, none⟩ (.int .i64 ((k4 : Int) + 1))) := Kept.setCell ((Kept.refl [rb] w4).drewN _) (.inl (List.mem_singleton.2 rfl)) _
          have hrd6 : Rd ((w4.drewN (n5 + nq)).setCell ⟨rb, 1, none⟩ (.int .i64 ((k4 : Int) + 1))) rb m rest1 := ⟨k4 + 1, (hrk4.drewN _).set (k' := k4 + 1) (by omega), HRE.out⟩
          refine (kindOf_any _ _).mono ?_
          rintro e w6 ⟨rfl, rfl⟩
          have hks : (({ data := nm.toArray } : ByteArray).data.toList) = nm := by simp
          rw [hks]
          clear hks
          cases hkd : (kindP nm == 2) with
          | false =>
            have HST : Hid (startP r = some (nm, al, [], rest1)) := by
              show _ = _
              have hkd' : ¬ kindP nm = 2 := by simpa using hkd
              rw [startP, HR0.out, HSP.out, ← HNM.out]
              simp only
              rw [if_neg hkd']
            go_wp2_with fail
            simp only [Exit.jump]
            refine bodyPost_ret (v := .tuple #[.agg #[.int .i64 1, .string ⟨nm.toArray⟩, .slice va al.length vc, .string ⟨#[]⟩], .bool true]) (by simp [results, Tryz.results114, go_sem, p0, p1, p2, p3]) rfl ?_
            rw [HST.out]
            have hk7 := (Kept.refl [w.heap.size] ((w4.drewN (n5 + nq)).setCell ⟨rb, 1, none⟩ (.int .i64 ((k4 : Int) + 1)))).set4 (k := w.heap.size) (.inl (by simp)) (.int .i64 1) (.string ⟨nm.toArray⟩) (.slice va al.length vc) (.string ⟨#[]⟩)
            refine ⟨(he1.trans hk6).set4 (.inr (Nat.le_refl _)) _ _ _ _, _, rfl, ?_, fun k hk => Nat.le_of_lt (he5 k hk).1, hrd6.kept hk7 (by simp; omega)⟩
            exact ownsRow_kept (ownsRow_kept he4 hk6 (fun k hk => by have := he5 k hk; simp; omega)) hk7 (fun k hk => by have := he5 k hk; simp; omega)
          | true =>
            have HST : Hid (startP r = some (nm, al, (rawP nm rest1).1, (rawP nm rest1).2)) := by
              show _ = _
              have hkd' : kindP nm = 2 := by simpa using hkd
              rw [startP, HR0.out, HSP.out, ← HNM.out]
              simp only
              rw [if_pos hkd']
            go_wp2_with fail
            refine (rawText_any rb m ⟨nm.toArray⟩ rest1 _ hrd6 (by omega)).mono ?_
            have hks : (({ data := nm.toArray } : ByteArray).data.toList) = nm := by simp
            rw [hks]
            clear hks
            rintro e w7 ⟨rfl, hrd7, hk7⟩
            have henv7 : Env rb w w3.heap.size nm (.slice va al.length vc) al w7 := (Env.kept ⟨he1, he2, he3, he4, he5, he6, he7⟩ hk6).kept hk7
            generalize rawP nm rest1 = rp at *
            clear p0 p1 p2 p3 g0 g1 g2 g3 q0 q1 q2 q3 f0 f1 f2 f3 he1 he2 he3 he4 hk6 hk7 hrd6
            obtain ⟨he1, he2, he3, he4, _, _, _⟩ := henv7
            obtain ⟨⟨q0, q1, q2, q3⟩, ⟨f0, f1, f2, f3⟩⟩ := cells4 he3
            obtain ⟨⟨p0, p1, p2, p3⟩, ⟨g0, g1, g2, g3⟩⟩ := cells4 he2
            go_wp2_with fail
            simp only [Exit.jump]
            refine bodyPost_ret (v := .tuple #[.agg #[.int .i64 1, .string ⟨nm.toArray⟩, .slice va al.length vc, .string ⟨rp.1.toArray⟩], .bool true]) (by simp [results, Tryz.results114, go_sem, p0, p1, p2, p3]) rfl ?_
            rw [HST.out]
            have hk8 : Kept [w3.heap.size] w7 (w7.setCell ⟨w3.heap.size, 3, none⟩ (.string ⟨rp.1.toArray⟩)) := (Kept.refl _ _).setCell (by simp) _
            have hk9 := (Kept.refl [w.heap.size] (w7.setCell ⟨w3.heap.size, 3, none⟩ (.string ⟨rp.1.toArray⟩))).set4 (k := w.heap.size) (.inl (by simp)) (.int .i64 1) (.string ⟨nm.toArray⟩) (.slice va al.length vc) (.string ⟨rp.1.toArray⟩)
            refine ⟨(he1.setCell (.inr (Nat.le_of_lt he6)) _).set4 (.inr (Nat.le_refl _)) _ _ _ _, _, rfl, ?_, fun k hk => Nat.le_of_lt (he5 k hk).1, (hrd7.kept hk8 (by simp; omega)).kept hk9 (by simp; omega)⟩
            exact ownsRow_kept (ownsRow_kept he4 hk8 (fun k hk => by have := he5 k hk; simp; omega)) hk9 (fun k hk => by have := he5 k hk; simp; omega)
        · have hgt' : ((m[k4].toNat : Int) == 62) = false := by rw [beq_eq_false_iff_ne]; omega
          go_wp2_with fail
          go_quiet (fail)
          go_wp2_with fail
          refine (attrName_any rb m (c :: rest1) _ (hrd4.drewN _) (by simp) (by omega)).mono ?_
          rintro e w5 ⟨rfl, hrd5, hk5⟩
          have henv5 := (henv4.drewN (n5 + nq)).kept hk5
          have hanl := attrNameP_lt (r := c :: rest1) (by simp)
          generalize han : attrNameP (c :: rest1) = an at *
          have HAN : Hid (attrNameP (c :: rest1) = an) := han
          have hne62 : (List.headD (c :: rest1) 0).toNat ≠ 62 := by show c.toNat ≠ 62; rw [← HC4.out]; exact hgt
          have HNE : Hid ((List.headD (c :: rest1) 0).toNat ≠ 62) := hne62
          clear han henv4 hrd4 hk5 d0 d1 d2 hne62
          go_wp2_with fail
          have henv6 : Env rb w w3.heap.size nm (.slice va al.length vc) al (w5.alloc (.cells #[.string ⟨an.1.toArray⟩, .string ⟨#[]⟩] 63)) := henv5.kept ((Kept.refl _ _).alloc _)
          have hab6 : (w5.alloc (.cells #[.string ⟨an.1.toArray⟩, .string ⟨#[]⟩] 63)).heap[w5.heap.size]? = some (.cells #[.string ⟨an.1.toArray⟩, .string ⟨#[]⟩] 63 (0, 0)) := heap_alloc_new w5 _
          have hz6 : (w5.alloc (.cells #[.string ⟨an.1.toArray⟩, .string ⟨#[]⟩] 63)).heap.size = w5.heap.size + 1 := by simp
          have hrd6 := hrd5.kept ((Kept.refl [] w5).alloc (.cells #[.string ⟨an.1.toArray⟩, .string ⟨#[]⟩] 63)) (by simp)
          have htb5 : w3.heap.size < w5.heap.size := (Array.getElem?_eq_some_iff.1 henv5.2.2.1).1
          have hlt35 : w.heap.size < w5.heap.size := Nat.lt_trans henv5.2.2.2.2.2.1 htb5
          refine (pass_any rb m an.2 _ blankB _ hrd6 (by unfold maxLen; omega) enters_isBlank isBlank_any).mono ?_
          rintro e w7 ⟨⟨t7, rfl, _⟩, hrd7, hk7⟩
          have henv7 := henv6.kept hk7
          have hab7 : w7.heap[w5.heap.size]? = some (.cells #[.string ⟨an.1.toArray⟩, .string ⟨#[]⟩] 63 (0, 0)) := (hk7.block _ (by omega) (by simp; omega)).trans hab6
          have hz7 : w5.heap.size < w7.heap.size := (Array.getElem?_eq_some_iff.1 hab7).1
          have hdl3 := dropWhile_le blankB an.2
          generalize hr3 : an.2.dropWhile blankB = r3 at *
          have HR3 : Hid (an.2.dropWhile blankB = r3) := hr3
          have hvb : ∀ k, (Value.slice va al.length vc).ownBlock = some k → k < w5.heap.size := fun k hk => (henv5.2.2.2.1.lt k hk).2
          clear hr3 henv6 hab6 hz6 hrd6 hk7 henv5 hrd5
          obtain ⟨k7, hrk7, hr7⟩ := hrd7
          have hkm7 := hrk7.2
          have HR7 : Hid (r3 = m.data.toList.drop k7) := hr7
          clear hr7
          obtain ⟨d0, d1, d2⟩ := hrk7.cells
          obtain ⟨⟨q0, q1, q2, q3⟩, ⟨f0, f1, f2, f3⟩⟩ := cells4 henv7.2.2.1
          have a0 : w7.cell? ⟨w5.heap.size, 0, none⟩ = some (.string ⟨an.1.toArray⟩) := by simp [World.cell?, hab7]
          have a1 : w7.cell? ⟨w5.heap.size, 1, none⟩ = some (.string ⟨#[]⟩) := by simp [World.cell?, hab7]
          have a2 : w7.frozen? ⟨w5.heap.size, 1, none⟩ = false := by simp [World.frozen?, hab7]
          have hb7 : (0 : Int) ≤ (k7 : Int) := by omega
          by_cases hlt7 : k7 < m.size
          · have hb8 : (k7 : Int) < (m.size : Int) := by omega
            have hdn7 : decide (m.size ≤ k7) = false := by simp; omega
            by_cases heq : m[k7].toNat = 61
            · have heq' : ((m[k7].toNat : Int) == 61) = true := by rw [beq_iff_eq]; omega
              have HP : Hid (List.isPrefixOf [61] r3 = true) := by show _ = _; rw [HR7.out, prefix61 hlt7]; simp [heq]
              go_wp2_with fail
              go_quiet ((go_at_call 110; exact Calls.quiet_of (done_k rb m k7 _ (hrk7.drewN _))))
              go_wp2_with fail
              have hk8 : Kept [rb] w7 ((w7.drewN nq).setCell ⟨rb, 1, none⟩ (.int .i64 ((k7 : Int) + 1))) := Kept.setCell ((Kept.refl [rb] w7).drewN _) (.inl (List.mem_singleton.2 rfl)) _
              have henv8 := henv7.kept hk8
              have hg8 : Glob ((w7.drewN nq).setCell ⟨rb, 1, none⟩ (.int .i64 ((k7 : Int) + 1))) := hg.kept henv8.1 hrb.1 hrb.2
              have hrd8 : Rd ((w7.drewN nq).setCell ⟨rb, 1, none⟩ (.int .i64 ((k7 : Int) + 1))) rb m (r3.drop 1) := ⟨k7 + 1, (hrk7.drewN _).set (k' := k7 + 1) (by omega), by rw [HR7.out, List.drop_drop]⟩
              refine (value_any rb m (r3.drop 1) _ hrd8 hm hg8 hrb).mono ?_
              rintro e w9 ⟨rfl, hrd9, hk9⟩
              have henv9 := henv8.kept hk9
              have hvl := valueP_le (r3.drop 1)
              rw [List.length_drop] at hvl
              have hr3p : 1 ≤ r3.length := isPrefixOf_len HP.out
              generalize hvp : valueP (r3.drop 1) = vp at *
              have HVP : Hid (valueP (r3.drop 1) = vp) := hvp
              have hab9 : w9.heap[w5.heap.size]? = some (.cells #[.string ⟨an.1.toArray⟩, .string ⟨#[]⟩] 63 (0, 0)) := ((hk8.trans hk9).block _ hz7 (by simp; omega)).trans hab7
              clear hvp hk8 hk9 hg8 hrd8 henv8 henv7 a0 a1 a2 q0 q1 q2 q3 f0 f1 f2 f3 d0 d1 d2
              cases hwh : vp.2.1 with
              | false =>
                have HN : Hid (startP r = none) := by
                  show _ = _
                  rw [startP, HR0.out, HAT.out, attrsP_torn HR1.out (by simp) HNE.out (by rw [HAN.out]; exact HR3.out) HP.out (by rw [HVP.out]; exact hwh)]
                obtain ⟨kc, hkc, hx⟩ := hrd9
                clear hx
                go_wp2_with fail
                go_step3
                exact ⟨rfl, ⟨_, _, _, _, _, _, _, _, _, _, _, _, _, _, _, _, _, _, _, _, _, _, _, _, _, _, _, _, _, _, _, _, _, _, _, _, _, _, _, _, _, _, _, _, _, _, _, _, _, _, _, _, _, _, _, _, _, _, _, _, _, _, _, _, _, _, _, _, _, _, _, _, _, _, _, _, _, _, _, _, _, _, _, _, _, _, _, _, _, _, _, _, _, _, _, _, _, _, rfl⟩, HN.out, ⟨kc, hkc⟩, henv9.1, henv9.2.1⟩
              | true =>
                have HAT2 : Hid (attrsP r0 [] = attrsP vp.2.2 (withP al (an.1, vp.1))) := by
                  show _ = _
                  rw [HAT.out, attrsP_value HR1.out (by simp) HNE.out (by rw [HAN.out]; exact HR3.out) HP.out (by rw [HVP.out]; exact hwh), HAN.out, HVP.out]
                obtain ⟨⟨q0, q1, q2, q3⟩, ⟨f0, f1, f2, f3⟩⟩ := cells4 henv9.2.2.1
                have a0 : w9.cell? ⟨w5.heap.size, 0, none⟩ = some (.string ⟨an.1.toArray⟩) := by simp [World.cell?, hab9]
                have a1 : w9.cell? ⟨w5.heap.size, 1, none⟩ = some (.string ⟨#[]⟩) := by simp [World.cell?, hab9]
                have a2 : w9.frozen? ⟨w5.heap.size, 1, none⟩ = false := by simp [World.frozen?, hab9]
                have hne7 : ¬ w5.heap.size = w3.heap.size := by omega
                have hne8 : ¬ w3.heap.size = w5.heap.size := by omega
                go_wp2_with fail
                have henvX := henv9.setFar (ab := w5.heap.size) (by omega) (by omega) (fun k hk => by have := hvb k hk; omega) 1 (.string ⟨vp.1.toArray⟩)
                have hrdX : Rd (w9.setCell ⟨w5.heap.size, 1, none⟩ (.string ⟨vp.1.toArray⟩)) rb m vp.2.2 := hrd9.kept (S := [w5.heap.size]) ((Kept.refl _ _).setCell (by simp) _) (by simp; omega)
                refine (withAttr_any _ al an.1 vp.1 _ henvX.2.2.2.1 (by omega)).mono ?_
                rintro e w10 ⟨v', rfl, ho, hmv, hk10⟩
                obtain ⟨va', vc', rfl⟩ := ownsRow_form ho
                have ht10 := Env.stepTok henvX hk10
                obtain ⟨⟨z0, z1, z2, z3⟩, ⟨y0, y1, y2, y3⟩⟩ := cells4 ht10
                have hfin := Env.step henvX ho hmv hk10
                have hrfin := Env.stepRd (v' := .slice va' (withP al (an.1, vp.1)).length vc') henvX hk10 hrdX
                clear ht10
                go_wp2_with fail
                go_roundg vp.2.2.length
                case measure => rw [HG.out]; omega
                case rel => exact ⟨vp.2.2, (withP al (an.1, vp.1)), _, rfl, hrfin, hfin, HAT2.out, by have := withP_le al (an.1, vp.1); omega⟩
            · have heq' : ((m[k7].toNat : Int) == 61) = false := by rw [beq_eq_false_iff_ne]; omega
              have HP : Hid (List.isPrefixOf [61] r3 = false) := by show _ = _; rw [HR7.out, prefix61 hlt7]; simp [heq]
              have HAT2 : Hid (attrsP r0 [] = attrsP r3 (withP al (an.1, []))) := by
                show _ = _
                rw [HAT.out, attrsP_bare HR1.out (by simp) HNE.out (by rw [HAN.out]; exact HR3.out) HP.out, HAN.out]
              go_wp2_with fail
              go_quiet ((go_at_call 110; exact Calls.quiet_of (done_k rb m k7 _ (hrk7.drewN _))))
              go_wp2_with fail
              refine (withAttr_any _ al an.1 [] _ (henv7.drewN _).2.2.2.1 (by omega)).mono ?_
              rintro e w10 ⟨v', rfl, ho, hmv, hk10⟩
              obtain ⟨va', vc', rfl⟩ := ownsRow_form ho
              have ht10 := Env.stepTok (henv7.drewN _) hk10
              obtain ⟨⟨z0, z1, z2, z3⟩, ⟨y0, y1, y2, y3⟩⟩ := cells4 ht10
              have hfin := Env.step (henv7.drewN _) ho hmv hk10
              have hrfin := Env.stepRd (v' := .slice va' (withP al (an.1, [])).length vc') (henv7.drewN _) hk10 (⟨k7, hrk7.drewN _, HR7.out⟩)
              clear ht10
              go_wp2_with fail
              go_roundg r3.length
              case measure => rw [HG.out]; omega
              case rel => exact ⟨r3, (withP al (an.1, [])), _, rfl, hrfin, hfin, HAT2.out, by have := withP_le al (an.1, []); omega⟩
          · have hdn7 : decide (m.size ≤ k7) = true := by simp; omega
            have HP : Hid (List.isPrefixOf [61] r3 = false) := by
              show _ = _
              rw [HR7.out, List.drop_eq_nil_of_le (by simp; omega)]
              rfl
            have HAT2 : Hid (attrsP r0 [] = attrsP r3 (withP al (an.1, []))) := by
              show _ = _
              rw [HAT.out, attrsP_bare HR1.out (by simp) HNE.out (by rw [HAN.out]; exact HR3.out) HP.out, HAN.out]
            have hdn8 : (!decide (m.size ≤ k7)) = false := by simp; omega
            go_wp2_with fail
            go_quiet ((go_at_call 110; exact Calls.quiet_of (done_k rb m k7 _ (hrk7.drewN _))))
            go_wp2_with fail
            refine (withAttr_any _ al an.1 [] _ (henv7.drewN _).2.2.2.1 (by omega)).mono ?_
            rintro e w10 ⟨v', rfl, ho, hmv, hk10⟩
            obtain ⟨va', vc', rfl⟩ := ownsRow_form ho
            have ht10 := Env.stepTok (henv7.drewN _) hk10
            obtain ⟨⟨z0, z1, z2, z3⟩, ⟨y0, y1, y2, y3⟩⟩ := cells4 ht10
            have hfin := Env.step (henv7.drewN _) ho hmv hk10
            have hrfin := Env.stepRd (v' := .slice va' (withP al (an.1, [])).length vc') (henv7.drewN _) hk10 (⟨k7, hrk7.drewN _, HR7.out⟩)
            clear ht10
            go_wp2_with fail
            go_roundg r3.length
            case measure => rw [HG.out]; omega
            case rel => exact ⟨r3, (withP al (an.1, [])), _, rfl, hrfin, hfin, HAT2.out, by have := withP_le al (an.1, []); omega⟩
end Go.Proofs.YtlpmjpmefdpcmaaGreatDoor
