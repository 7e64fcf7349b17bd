import Derived.Test.YtlpmjpmefdpcmaaGreatDoorQSf
import Derived.Test.YtlpmjpmefdpcmaaGreatDoorQRd
/- The reference's tokens in memory; what begins at a place. No function of the program in it. -/
namespace Go.Proofs.YtlpmjpmefdpcmaaGreatDoor
open Go.RowKit Scrub Go.Shelf
structure TokR where
  tk : Tok
  av : Value
def TokR.cells (t : TokR) : List Value := [.int .i64 t.tk.1, .string ⟨t.tk.2.1.toArray⟩, t.av, .string ⟨t.tk.2.2.2.toArray⟩]
def tokCells (ts : List TokR) : List Value := ts.flatMap TokR.cells
def tokFp (ts : List TokR) : List Nat := ts.flatMap fun t => t.av.ownBlock.toList
theorem tokCells_snoc (ts : List TokR) (t : TokR) : tokCells (ts ++ [t]) = tokCells ts ++ t.cells := by simp [tokCells]
theorem tokFp_snoc (ts : List TokR) (t : TokR) : tokFp (ts ++ [t]) = tokFp ts ++ t.av.ownBlock.toList := by simp [tokFp]
theorem tokCells_get : ∀ (ts : List TokR) (i : Nat) (h : i < ts.length), (tokCells ts)[i * 4]? = some (.int .i64 ts[i].tk.1) ∧ (tokCells ts)[i * 4 + 1]? = some (.string ⟨ts[i].tk.2.1.toArray⟩) ∧ (tokCells ts)[i * 4 + 2]? = some ts[i].av ∧ (tokCells ts)[i * 4 + 3]? = some (.string ⟨ts[i].tk.2.2.2.toArray⟩)
  | [], i, h => by simp at h
  | t :: r, 0, _ => by simp [tokCells, TokR.cells]
  | t :: r, i + 1, h => by
    have ih := tokCells_get r i (by simpa using h)
    have e : tokCells (t :: r) = t.cells ++ tokCells r := by simp [tokCells]
    have hl : t.cells.length = 4 := rfl
    rw [e]
    refine ⟨?_, ?_, ?_, ?_⟩
    · rw [List.getElem?_append_right (by rw [hl]; omega), hl, show (i + 1) * 4 - 4 = i * 4 by omega]; exact ih.1
    · rw [List.getElem?_append_right (by rw [hl]; omega), hl, show (i + 1) * 4 + 1 - 4 = i * 4 + 1 by omega]; exact ih.2.1
    · rw [List.getElem?_append_right (by rw [hl]; omega), hl, show (i + 1) * 4 + 2 - 4 = i * 4 + 2 by omega]; exact ih.2.2.1
    · rw [List.getElem?_append_right (by rw [hl]; omega), hl, show (i + 1) * 4 + 3 - 4 = i * 4 + 3 by omega]; exact ih.2.2.2
theorem infoTok : (Tryz.prog.info? 131).map (fun i => (i.zero, i.size, i.bytes)) = some (some (.agg #[.int .i64 0, .string ⟨#[]⟩, .slice none 0 0, .string ⟨#[]⟩]), 4, 64) := by kernel_rfl
/-- A list of tokens, all of it made behind w, no two rows alike. -/
structure TList (w wr : World) (v : Value) (ts : List TokR) : Prop where
  row : wr.ownsRow 0 131 4 v ts.length (tokCells ts)
  own : ∀ t ∈ ts, AOwn wr t.av t.tk.2.2.1
  nd : (v.ownBlock.toList ++ tokFp ts).Nodup
  new : ∀ k, k ∈ v.ownBlock.toList ++ tokFp ts → w.heap.size ≤ k ∧ k < wr.heap.size
theorem mem_tokFp {t : TokR} {ts : List TokR} (h : t ∈ ts) {k : Nat} (hk : t.av.ownBlock = some k) : k ∈ tokFp ts := List.mem_flatMap.2 ⟨t, h, by rw [hk]; simp⟩
theorem TList.nil (w wr : World) : TList w wr (.slice none 0 0) [] := ⟨World.ownsRow_nil _ _ _ _, by simp, by simp [tokFp, Value.ownBlock], by simp [tokFp, Value.ownBlock]⟩
theorem TList.kept {w wr w' : World} {v : Value} {ts : List TokR} {S : List Nat} (h : TList w wr v ts) (hk : Kept S wr w') (hS : ∀ k, k ∈ v.ownBlock.toList ++ tokFp ts → k ∉ S) : TList w w' v ts := by
  refine ⟨ownsRow_kept h.row hk (fun k hk' => hS k (by rw [hk']; simp)), fun t ht => ownsRow_kept (h.own t ht) hk (fun k hk' => hS k (by have := mem_tokFp ht hk'; simp [this])), h.nd, fun k hk' => ⟨(h.new k hk').1, Nat.lt_of_lt_of_le (h.new k hk').2 hk.size⟩⟩
theorem TList.app {w wr w2 w' : World} {v v' : Value} {ts : List TokR} {x : TokR} (h : TList w wr v ts) (hk : Kept [] wr w2)
    (hx : AOwn w2 x.av x.tk.2.2.1) (hxf : ∀ k, x.av.ownBlock = some k → k ∉ v.ownBlock.toList ++ tokFp ts ∧ w.heap.size ≤ k)
    (hown : w'.ownsRow 0 131 4 v' (ts.length + 1) (tokCells ts ++ x.cells)) (hgr : w2.grownBy w' v.ownBlock) (hmv : Moved w2 v v') (hw : w.heap.size ≤ wr.heap.size) : TList w w' v' (ts ++ [x]) := by
  have hk2 := Kept.own hgr
  have h2 := h.kept hk (by simp)
  have hnd := h2.nd
  rw [List.nodup_append] at hnd
  have hdis : ∀ k, k ∈ tokFp ts → k ∉ v.ownBlock.toList := fun k hk' hc => hnd.2.2 k hc k hk' rfl
  have hxl : ∀ k, x.av.ownBlock = some k → k < w2.heap.size := fun k hk' => (World.ownsRow.lt hx k hk').2
  have hv' : ∀ k, v'.ownBlock = some k → v.ownBlock = some k ∨ w2.heap.size ≤ k := by
    intro k hk'
    rcases hmv with hm | ⟨k2, hm1, hm2⟩
    · exact .inl (by rw [← hm]; exact hk')
    · rw [hm1] at hk'
      injection hk' with e
      exact .inr (by omega)
  refine ⟨?_, ?_, ?_, ?_⟩
  · rw [tokCells_snoc, List.length_append]
    exact hown
  · intro t ht
    rcases List.mem_append.1 ht with ht | ht
    · exact ownsRow_kept (h2.own t ht) hk2 (fun k hk' => hdis k (mem_tokFp ht hk'))
    · simp at ht
      subst ht
      exact ownsRow_kept hx hk2 (fun k hk' hc => (hxf k hk').1 (List.mem_append.2 (.inl hc)))
  · rw [tokFp_snoc, List.nodup_append]
    refine ⟨by cases v'.ownBlock <;> simp, ?_, ?_⟩
    · rw [List.nodup_append]
      refine ⟨hnd.2.1, by cases x.av.ownBlock <;> simp, fun a ha b hb e => ?_⟩
      exact (hxf b (by simpa using hb)).1 (by rw [← e]; simp [ha])
    · intro a ha b hb e
      have ha' : v'.ownBlock = some a := by simpa using ha
      rcases hv' a ha' with h1 | h1
      · rcases List.mem_append.1 hb with hb | hb
        · exact hdis b hb (by rw [← e, h1]; simp)
        · exact (hxf b (by simpa using hb)).1 (by rw [← e, h1]; simp)
      · rcases List.mem_append.1 hb with hb | hb
        · have := (h2.new b (by simp [hb])).2
          omega
        · have := hxl b (by simpa using hb)
          omega
  · intro k hk'
    have hz := hk2.size
    have hz2 := hk.size
    rw [tokFp_snoc] at hk'
    rcases List.mem_append.1 hk' with hk' | hk'
    · have hb : v'.ownBlock = some k := by simpa using hk'
      have hlt := (World.ownsRow.lt hown k hb).2
      rcases hv' k hb with h1 | h1
      · exact ⟨(h2.new k (by rw [h1]; simp)).1, hlt⟩
      · exact ⟨by omega, hlt⟩
    · rcases List.mem_append.1 hk' with hk' | hk'
      · have := h2.new k (by simp [hk'])
        exact ⟨this.1, by omega⟩
      · have hb : x.av.ownBlock = some k := by simpa using hk'
        have := hxl k hb
        exact ⟨(hxf k hb).2, by omega⟩
/-- Does a comment, an end, a start begin at i? -/
def comB (l : List UInt8) (i : Nat) : Bool := List.isPrefixOf [60, 33, 45, 45] (l.drop i)
def endB (l : List UInt8) (i : Nat) : Bool := List.isPrefixOf [60, 47] (l.drop i) && (decide (i + 2 < l.length) && letB (l.getD (i + 2) 0))
def stB (l : List UInt8) (i : Nat) : Bool := decide ((l.getD i 0).toNat = 60) && (decide (i + 1 < l.length) && letB (l.getD (i + 1) 0))
theorem begins_at (l : List UInt8) (i : Nat) (hi : i < l.length) : beginsP (l.drop i) = if comB l i then -1 else if endB l i then 2 else if stB l i then 1 else 0 := by
  obtain ⟨r, hr⟩ : ∃ r, l.drop i = r := ⟨_, rfl⟩
  have hg : ∀ j, l.getD (i + j) 0 = r.getD j 0 := by
    intro j
    rw [← hr]
    simp [List.getD_eq_getElem?_getD]
  have hlen : ∀ j, decide (i + j < l.length) = decide (j < r.length) := by
    intro j
    rw [← hr, List.length_drop]
    congr 1
    rw [eq_iff_iff]
    omega
  have h0 := hg 0
  rw [Nat.add_zero] at h0
  unfold comB endB stB
  rw [hr, hg 2, hg 1, h0, hlen 2, hlen 1]
  unfold beginsP
  cases r with
  | nil =>
    have := congrArg List.length hr
    simp at this
    omega
  | cons a t =>
    clear hr hg hlen h0
    by_cases ha : a.toNat = 60
    · have ha' : a = 60 := UInt8.toNat_inj.1 ha
      subst ha'
      cases t with
      | nil => simp [List.isPrefixOf]
      | cons b u =>
        by_cases hb : b.toNat = 47
        · have hb' : b = 47 := UInt8.toNat_inj.1 hb
          subst hb'
          have hlb : letB 47 = false := by decide
          cases u with
          | nil => simp [List.isPrefixOf, hlb]
          | cons c x => simp [List.isPrefixOf, hlb]
        · have hb' : (47 == b) = false := by
            rw [beq_eq_false_iff_ne]
            intro e
            exact hb (by rw [← e]; rfl)
          simp [List.isPrefixOf, hb, hb']
    · have ha' : (60 == a) = false := by
        rw [beq_eq_false_iff_ne]
        intro e
        exact ha (by rw [← e]; rfl)
      simp [List.isPrefixOf, ha, ha']
/-- Bytes of text from f to i. -/
abbrev TextTo (l : List UInt8) (f i : Nat) : Prop := RunInv (fun x => beginsP x != 0) l f i
theorem text_toks {l : List UInt8} {f i : Nat} (h : TextTo l f i) (hfi : f < i) (hi : i ≤ l.length) (hs : l.length ≤ i ∨ (beginsP (l.drop i) != 0) = true) : toksP (l.drop f) = (0, [], [], signs ((l.drop f).take (i - f))) :: toksP (l.drop i) := by
  obtain ⟨h1, h2⟩ := RunInv.stop h hs
  have hne : l.drop f ≠ [] := fun e => by
    have := congrArg List.length e
    simp at this
    omega
  have hb : beginsP (l.drop f) = 0 := by
    cases hq : (beginsP (l.drop f) != 0) with
    | false => simpa using hq
    | true =>
      have e : runP (fun x => beginsP x != 0) (l.drop f) = ([], l.drop f) := by
        rw [List.drop_eq_getElem_cons (show f < l.length by omega)] at hq ⊢
        rw [runP, if_pos hq]
      rw [e] at h1
      have := congrArg List.length h1
      simp at this
      omega
  rw [toksP_text hne hb]
  unfold textP
  rw [h1, h2]
end Go.Proofs.YtlpmjpmefdpcmaaGreatDoor
/- The reference: all tokens. -/
namespace Go.Proofs.YtlpmjpmefdpcmaaGreatDoor
open Go.RowKit Scrub Go.Shelf
/-- What Tokens leaves. -/
def ToksPost (l : List UInt8) (w : World) (e : Ending) (w' : World) : Prop := ∃ v ts, e = .returned v ∧ ts.map TokR.tk = toksP l ∧ TList w w' v ts ∧ Kept [] w w' ∧ ts.length ≤ l.length
def TkInv (l : List UInt8) (w wr : World) (x3 : Value) (f i : Nat) : Prop :=
  ∃ ts : List TokR, f ≤ i ∧ i ≤ l.length ∧ toksP l = ts.map TokR.tk ++ toksP (l.drop f) ∧ TextTo l f i ∧ ts.length ≤ f ∧ Kept [] w wr ∧ TList w wr x3 ts
theorem TList.keepW {w wr w2 w' : World} {v : Value} {ts : List TokR} (h : TList w wr v ts) (hkw : Kept [] w wr) (hk : Kept [] wr w2) (hgr : w2.grownBy w' v.ownBlock) : Kept [] w w' :=
  (hkw.trans hk).trans_new (Kept.own hgr) (fun i hi => .inr (h.new i (by simp [hi])).1)
theorem raw_restR (name l : List UInt8) (k : Nat) : (rawP name (l.drop k)).2 = l.drop (k + (rawP name (l.drop k)).1.length) ∧ (rawP name (l.drop k)).1 = (l.drop k).take (rawP name (l.drop k)).1.length ∧ (rawP name (l.drop k)).1.length ≤ (l.drop k).length := by
  have h := runP_split (fun x => endsRawP x name) (l.drop k)
  have hl := congrArg List.length h
  rw [List.length_append] at hl
  unfold rawP
  rw [← List.drop_drop]
  generalize runP (fun x => endsRawP x name) (l.drop k) = p at *
  obtain ⟨a, b⟩ := p
  simp only at h hl ⊢
  rw [← h]
  refine ⟨by simp, by simp, by simp⟩
set_option maxRecDepth 100000 in
set_option maxHeartbeats 8000000 in
theorem rTokens (s : ByteArray) (w : World) (hs : s.size ≤ 1099511627776) :
    Calls Tryz.prog 87 #[.string s] w (ToksPost s.data.toList w) := by
  obtain ⟨i0, hi, hz0, hz1, hz2⟩ := info_parts infoTok
  have hll : s.data.toList.length = s.size := len_of s
  go_enter Tryz.func87, Tryz.ntmps87
  go_wp2_with fail
  go_loopg [3, 4, 5] s.size (fun g x3 x4 x5 wr => ∃ f i : Nat, g = s.size - i ∧ x4 = .int .i64 (f : Int) ∧ x5 = .int .i64 (i : Int) ∧ TkInv s.data.toList w wr x3 f i)
  case atStart => exact ⟨0, 0, by omega, rfl, rfl, [], by omega, by omega, by simp, RunInv.start _ _ _, by simp, Kept.refl _ _, TList.nil _ _⟩
  case round =>
    obtain ⟨f, i, hgk, rfl, rfl, ts, hfi, hil, htk, htx, htl, hkept, hT⟩ := hrel
    rw [hll] at hil
    have HG : Hid _ := hgk
    have HTK : Hid _ := htk
    have HTX : Hid _ := htx
    clear hgk htk htx
    obtain ⟨wo, hwo⟩ : ∃ x, x = wr := ⟨wr, rfl⟩
    subst hwo
    obtain ⟨va, vc, rfl⟩ := ownsRow_form hT.row
    by_cases hlt : i < s.size
    · have hlt' : (i : Int) < (s.size : Int) := by omega
      have hge : (0 : Int) ≤ (i : Int) := by omega
      have HBEG : Hid _ := begins_at s.data.toList i (by omega)
      go_wp2_with fail
      refine (rAt s ⟨#[60, 33, 45, 45]⟩ i _ hs (by decide) (by omega)).mono ?_
      rintro e w2 ⟨rfl, rfl⟩
      obtain ⟨c, hc⟩ : ∃ c, comB s.data.toList i = c := ⟨_, rfl⟩
      have hc' : List.isPrefixOf (⟨#[60, 33, 45, 45]⟩ : ByteArray).data.toList (s.data.toList.drop i) = c := hc
      rw [hc']
      have HC : Hid _ := hc
      clear hc hc'
      obtain ⟨eb, he⟩ : ∃ c, endB s.data.toList i = c := ⟨_, rfl⟩
      have HE : Hid _ := he
      obtain ⟨sb, hsb⟩ : ∃ c, stB s.data.toList i = c := ⟨_, rfl⟩
      have HSB : Hid _ := hsb
      clear he hsb
      go_upto_region 6 with fail
      go_cut [7] from 15 to 131 (fun x wx => x = .bool eb ∧ w2 = wx)
      case first =>
        go_wp2_with fail
        refine (rAt s ⟨#[60, 47]⟩ i _ hs (by decide) (by omega)).mono ?_
        rintro e w3 ⟨rfl, rfl⟩
        obtain ⟨p, hp⟩ : ∃ c, List.isPrefixOf [60, 47] (s.data.toList.drop i) = c := ⟨_, rfl⟩
        have hp' : List.isPrefixOf (⟨#[60, 47]⟩ : ByteArray).data.toList (s.data.toList.drop i) = p := hp
        rw [hp']
        have HP : Hid _ := hp
        clear hp hp'
        cases p with
        | true =>
          go_wp2_with fail
          rw [show ((i : Int) + 2) = ((i + 2 : Nat) : Int) by omega]
          refine (rLetter s (i + 2) _).mono ?_
          rintro e w4 ⟨rfl, rfl⟩
          generalize hq : (decide (i + 2 < s.size) && letB (s.data.toList.getD (i + 2) 0)) = q
          have HQ : Hid _ := hq
          clear hq
          go_wp2_with fail
          go_meet
          case rel =>
            refine ⟨?_, rfl⟩
            rw [← HE.out]
            unfold endB
            rw [HP.out, hll, HQ.out]
            rfl
        | false =>
          go_wp2_with fail
          go_meet
          case rel =>
            refine ⟨?_, rfl⟩
            rw [← HE.out]
            unfold endB
            rw [HP.out]
            rfl
      case rest =>
      obtain ⟨rfl, rfl⟩ := hcut
      go_upto_region 7 with fail
      go_cut [8] from 15 to 131 (fun x wx => x = .bool sb ∧ w2 = wx)
      case first =>
        have HGD : Hid (s.data.toList.getD i 0 = s[i]) := by
          show _ = _
          rw [List.getD_eq_getElem?_getD, List.getElem?_eq_getElem (by omega)]
          rfl
        cases hx : ((s[i].toNat : Int) == 60) with
        | true =>
          have HX : Hid (decide ((s.data.toList.getD i 0).toNat = 60) = true) := by
            show _ = _
            rw [HGD.out]
            simp at hx ⊢
            omega
          go_wp2_with fail
          rw [show ((i : Int) + 1) = ((i + 1 : Nat) : Int) by omega]
          refine (rLetter s (i + 1) _).mono ?_
          rintro e w4 ⟨rfl, rfl⟩
          generalize hq : (decide (i + 1 < s.size) && letB (s.data.toList.getD (i + 1) 0)) = q
          have HQ : Hid _ := hq
          clear hq
          go_wp2_with fail
          go_meet
          case rel =>
            refine ⟨?_, rfl⟩
            rw [← HSB.out]
            unfold stB
            rw [HX.out, hll, HQ.out]
            rfl
        | false =>
          have HX : Hid (decide ((s.data.toList.getD i 0).toNat = 60) = false) := by
            show _ = _
            rw [HGD.out]
            simp at hx ⊢
            omega
          go_wp2_with fail
          go_meet
          case rel =>
            refine ⟨?_, rfl⟩
            rw [← HSB.out]
            unfold stB
            rw [HX.out]
            rfl
      case rest =>
      obtain ⟨rfl, rfl⟩ := hcut
      rw [HC.out, HE.out, HSB.out] at HBEG
      obtain ⟨z, hz⟩ : ∃ z, (!c && !eb && !sb) = z := ⟨_, rfl⟩
      have HZ : Hid _ := hz
      clear hz
      go_upto_region 8 with fail
      go_cut [50] from 15 to 131 (fun x wx => x = .bool z ∧ w2 = wx)
      case first =>
        cases c <;> cases eb <;> cases sb
        all_goals
          go_wp2_with fail
          go_meet
          case rel => exact ⟨by rw [← HZ.out]; rfl, rfl⟩
      case rest =>
      obtain ⟨rfl, rfl⟩ := hcut
      cases z with
      | true =>
        have hb0 : beginsP (s.data.toList.drop i) = 0 := by
          rw [HBEG.out]
          have hz := HZ.out
          revert hz
          cases c <;> cases eb <;> cases sb <;> decide
        have HB0 : Hid _ := hb0
        clear hb0
        go_wp2_with fail
        go_roundg (s.size - (i + 1))
        case measure => rw [HG.out]; omega
        case rel => exact ⟨f, i + 1, rfl, rfl, by go_num, ts, by omega, by omega, HTK.out, RunInv.step HTX.out hfi (by omega) (by rw [HB0.out]; rfl), htl, hkept, hT⟩
      | false =>
      have hceb : (c || eb || sb) = true := by
        have hz := HZ.out
        revert hz
        cases c <;> cases eb <;> cases sb <;> decide
      have HCEB : Hid _ := hceb
      have HNZ : Hid ((beginsP (s.data.toList.drop i) != 0) = true) := by
        show _ = _
        rw [HBEG.out]
        revert hceb
        cases c <;> cases eb <;> cases sb <;> decide
      clear hceb
      go_upto_if 55 with fail
      go_cut [3] from 15 to 131 (fun x wx => ∃ ts' : List TokR, toksP s.data.toList = ts'.map TokR.tk ++ toksP (s.data.toList.drop i) ∧ ts'.length ≤ i ∧ Kept [] w wx ∧ TList w wx x ts')
      case first =>
        by_cases hfl : f < i
        · have hfl' : (f : Int) < (i : Int) := by omega
          have hf0 : (0 : Int) ≤ (f : Int) := by omega
          have hfle : (f : Int) ≤ (i : Int) := by omega
          have hile : (i : Int) ≤ (s.size : Int) := by omega
          have HTT : Hid _ := text_toks HTX.out hfl (by omega) (.inr HNZ.out)
          go_wp2_with fail
          refine (rSigns (s.extract f i) _ (by simp; omega)).mono ?_
          rintro e w3 ⟨rfl, hk3⟩
          have HV : Hid ((s.extract f i).data.toList = (s.data.toList.drop f).take (i - f)) := by
            show _ = _
            simp
          rw [HV.out]
          generalize signs ((s.data.toList.drop f).take (i - f)) = tx at *
          go_wp2_with (at_builtin; refine wpList_append_fp _ rfl _ _ 128 rfl 0 131 i0 _ 4 64 Tryz.underlying128 hi hz0 hz1 hz2 rfl (by decide) _ ts.length (tokCells ts) rfl ?own _ 1 1 [.int .i64 0, .string ⟨#[]⟩, .slice none 0 0, .string ⟨tx.toArray⟩] rfl rfl ?news ?one ?len ?bytes (Nat.zero_le _) ?_)
          case own => exact ownsRow_kept hT.row (hk3.alloc _) (by simp)
          case news => exact new_cells _ [.int .i64 0, .string ⟨#[]⟩, .slice none 0 0, .string ⟨tx.toArray⟩] 131
          case one => intro u hu; simp at hu; rcases hu with rfl | rfl | rfl | rfl <;> rfl
          case len => unfold maxLen; omega
          case bytes => omega
          intro v' w' hown hgr hmv
          have hT' := hT.app (x := ⟨(0, [], [], tx), .slice none 0 0⟩) (hk3.alloc _) (nilA _) (fun k hk => by cases hk) hown hgr hmv hkept.size
          have hK' := hT.keepW hkept (hk3.alloc _) hgr
          clear hown hgr hmv
          go_wp2_with fail
          go_meet
          case rel => exact ⟨ts ++ [⟨(0, [], [], tx), .slice none 0 0⟩], by rw [HTK.out, HTT.out]; simp, by simp; omega, hK', hT'⟩
        · have hfl' : ((f : Int) < (i : Int)) = False := eq_false (by omega)
          go_wp2_with fail
          go_meet
          case rel =>
            obtain rfl : f = i := by omega
            exact ⟨ts, HTK.out, htl, hkept, hT⟩
      case rest =>
      clear HTK HTX htl hkept hT
      obtain ⟨ts', htk, htl, hkept, hT⟩ := hcut
      have HTK : Hid _ := htk
      clear htk
      obtain ⟨va', vc', rfl⟩ := ownsRow_form hT.row
      have HNE : Hid (s.data.toList.drop i ≠ []) := fun e => by
        have := congrArg List.length e
        simp at this
        omega
      cases c with
      | true =>
        have hb1 : beginsP (s.data.toList.drop i) = -1 := by rw [HBEG.out]; rfl
        have hl4 := begins_comment_len hb1
        rw [List.length_drop] at hl4
        have HTC : Hid _ := toksP_comment HNE.out hb1
        clear hb1
        go_wp2_with fail
        rw [show ((i : Int) + 4) = ((i + 4 : Nat) : Int) by omega]
        refine (rFind s ⟨#[45, 45, 62]⟩ (i + 4) _ hs (by decide) (by decide) (by omega)).mono ?_
        rintro e w3 ⟨rfl, rfl⟩
        have HF : Hid _ := findP_cut s.data.toList [45, 45, 62] (i + 4) (by omega)
        obtain ⟨F, hF⟩ : ∃ F, findP s.data.toList [45, 45, 62] (i + 4) = F := ⟨_, rfl⟩
        have hF' : findP s.data.toList (⟨#[45, 45, 62]⟩ : ByteArray).data.toList (i + 4) = F := hF
        rw [hF']
        rw [hF] at HF
        clear hF hF'
        rcases HF.out with ⟨rfl, hcut⟩ | ⟨E, rfl, hE1, hE2, hcut⟩
        · have HTE : Hid (toksP s.data.toList = ts'.map TokR.tk ++ toksP (s.data.toList.drop s.size)) := by
            show _ = _
            rw [HTK.out, HTC.out, List.drop_drop, hcut, List.drop_eq_nil_of_le (show s.data.toList.length ≤ s.size by omega)]
          clear hcut HF HTC
          go_wp2_with fail
          go_roundg 0
          case measure => rw [HG.out]; omega
          case rel => exact ⟨s.size, s.size, by omega, rfl, rfl, ts', by omega, by omega, HTE.out, RunInv.start _ _ _, by omega, hkept, hT⟩
        · have HTE : Hid (toksP s.data.toList = ts'.map TokR.tk ++ toksP (s.data.toList.drop (E + 3))) := by
            show _ = _
            rw [HTK.out, HTC.out, List.drop_drop, hcut]
            rfl
          simp only [List.length_cons, List.length_nil] at hE2
          clear hcut HF HTC
          have hE3 : ((E : Int) < 0) = False := eq_false (by omega)
          go_wp2_with fail
          go_roundg (s.size - (E + 3))
          case measure => rw [HG.out]; omega
          case rel => exact ⟨E + 3, E + 3, by omega, by go_num, by go_num, ts', by omega, by omega, HTE.out, RunInv.start _ _ _, by omega, hkept, hT⟩
      | false =>
        cases eb with
        | true =>
          have hb1 : beginsP (s.data.toList.drop i) = 2 := by rw [HBEG.out]; rfl
          have hl2 := begins_end_len hb1
          rw [List.length_drop] at hl2
          have HTC : Hid _ := toksP_end HNE.out hb1
          clear hb1
          obtain ⟨k, hk⟩ : ∃ k, k = i + 2 + ((s.data.toList.drop (i + 2)).takeWhile nameB).length := ⟨_, rfl⟩
          have hkr := takeWhile_room nameB s.data.toList (i + 2) (by omega)
          rw [← hk] at hkr
          have HK : Hid _ := hk
          have HEP : Hid (endP (s.data.toList.drop i) = ((Lib.cut (s.data.toList.drop k) [62]).2.2, small ((s.data.toList.drop (i + 2)).takeWhile nameB), (Lib.cut (s.data.toList.drop k) [62]).2.1)) := by
            show _ = _
            unfold endP
            rw [List.drop_drop, drop_while, ← hk]
          have hik : i + 2 ≤ k := by omega
          clear hk
          go_wp2_with fail
          rw [show ((i : Int) + 2) = ((i + 2 : Nat) : Int) by omega]
          refine (rNameAt s (i + 2) _ hs (by omega)).mono ?_
          rintro e w3 ⟨rfl, hk3⟩
          rw [← HK.out]
          generalize small ((s.data.toList.drop (i + 2)).takeWhile nameB) = nm at *
          go_wp2_with fail
          refine (rFind s ⟨#[62]⟩ k _ hs (by decide) (by decide) (by omega)).mono ?_
          rintro e w4 ⟨rfl, rfl⟩
          have HF : Hid _ := findP_cut s.data.toList [62] k (by omega)
          obtain ⟨F, hF⟩ : ∃ F, findP s.data.toList [62] k = F := ⟨_, rfl⟩
          have hF' : findP s.data.toList (⟨#[62]⟩ : ByteArray).data.toList k = F := hF
          rw [hF']
          rw [hF] at HF
          clear hF hF'
          rcases HF.out with ⟨rfl, hcut⟩ | ⟨E, rfl, hE1, hE2, hcut⟩
          · have HTE : Hid (toksP s.data.toList = ts'.map TokR.tk ++ toksP (s.data.toList.drop s.size)) := by
              show _ = _
              rw [HTK.out, HTC.out, HEP.out, hcut, List.drop_eq_nil_of_le (show s.data.toList.length ≤ s.size by omega)]
              simp
            clear hcut HF HTC
            go_wp2_with fail
            go_roundg 0
            case measure => rw [HG.out]; omega
            case rel => exact ⟨s.size, s.size, by omega, rfl, rfl, ts', by omega, by omega, HTE.out, RunInv.start _ _ _, by omega, hkept.trans hk3, hT.kept hk3 (by simp)⟩
          · have HTE : Hid (toksP s.data.toList = (ts' ++ [(⟨(2, nm, [], []), .slice none 0 0⟩ : TokR)]).map TokR.tk ++ toksP (s.data.toList.drop (E + 1))) := by
              show _ = _
              rw [HTK.out, HTC.out, HEP.out, hcut]
              simp
            simp only [List.length_cons, List.length_nil] at hE2
            clear hcut HF HTC
            have hE3 : ((E : Int) < 0) = False := eq_false (by omega)
            go_wp2_with (at_builtin; refine wpList_append_fp _ rfl _ _ 128 rfl 0 131 i0 _ 4 64 Tryz.underlying128 hi hz0 hz1 hz2 rfl (by decide) _ ts'.length (tokCells ts') rfl ?own _ 1 1 [.int .i64 2, .string ⟨nm.toArray⟩, .slice none 0 0, .string ⟨#[]⟩] rfl rfl ?news ?one ?len ?bytes (Nat.zero_le _) ?_)
            case own => exact ownsRow_kept hT.row (hk3.alloc _) (by simp)
            case news => exact new_cells _ [.int .i64 2, .string ⟨nm.toArray⟩, .slice none 0 0, .string ⟨#[]⟩] 131
            case one => intro u hu; simp at hu; rcases hu with rfl | rfl | rfl | rfl <;> rfl
            case len => unfold maxLen; omega
            case bytes => omega
            intro v' w' hown hgr hmv
            have hT' := hT.app (x := ⟨(2, nm, [], []), .slice none 0 0⟩) (hk3.alloc _) (nilA _) (fun k hk => by cases hk) hown hgr hmv hkept.size
            have hK' := hT.keepW hkept (hk3.alloc _) hgr
            clear hown hgr hmv
            go_wp2_with fail
            go_roundg (s.size - (E + 1))
            case measure => rw [HG.out]; omega
            case rel => exact ⟨E + 1, E + 1, by omega, by go_num, by go_num, _, by omega, by omega, HTE.out, RunInv.start _ _ _, by simp; omega, hK', hT'⟩
        | false =>
          obtain rfl : sb = true := by have := HCEB.out; simpa using this
          have hb1 : beginsP (s.data.toList.drop i) = 1 := by rw [HBEG.out]; rfl
          have HB1 : Hid _ := hb1
          clear hb1
          go_wp2_with fail
          rw [show ((i : Int) + 1) = ((i + 1 : Nat) : Int) by omega]
          refine (rStart s (i + 1) _ hs (by omega)).mono ?_
          rintro e w3 ⟨hk3, hans⟩
          have HSP : Hid _ := startP_eq (s.data.toList.drop i)
          rw [List.drop_drop] at HSP
          have hnml : (small ((s.data.toList.drop (i + 1)).takeWhile nameB)).length ≤ s.size := by
            have := takeWhile_le nameB (s.data.toList.drop (i + 1))
            rw [List.length_drop] at this
            simp only [small, List.length_map]
            omega
          generalize small ((s.data.toList.drop (i + 1)).takeWhile nameB) = nm at *
          have hnms : (⟨nm.toArray⟩ : ByteArray).size ≤ 1099511627776 := by
            rw [← ByteArray.size_data]
            simp
            omega
          clear hnml
          cases hat : attrsP ((s.data.toList.drop (i + 1)).dropWhile nameB) [] with
          | none =>
            rw [hat] at hans
            obtain ⟨x0, x1, xa, xn, xc, x3, rfl⟩ := hans
            have hsp := HSP.out
            rw [hat] at hsp
            have HTE : Hid (toksP s.data.toList = ts'.map TokR.tk ++ toksP (s.data.toList.drop s.size)) := by
              show _ = _
              rw [HTK.out, toksP_cut HNE.out HB1.out hsp, List.drop_eq_nil_of_le (show s.data.toList.length ≤ s.size by omega), toksP_nil]
            clear hsp HSP hat HB1
            go_wp2_with fail
            go_roundg 0
            case measure => rw [HG.out]; omega
            case rel => exact ⟨s.size, s.size, by omega, rfl, rfl, ts', by omega, by omega, HTE.out, RunInv.start _ _ _, by omega, (hkept.trans hk3).alloc _, (hT.kept hk3 (by simp)).kept ((Kept.refl [] _).alloc _) (by simp)⟩
          | some p =>
            obtain ⟨al, r3⟩ := p
            rw [hat] at hans
            obtain ⟨av, E, rfl, hown3, hnew3, hEs, rfl, hals⟩ := hans
            obtain ⟨xa, xc, rfl⟩ := ownsRow_form hown3
            have hsp := HSP.out
            rw [hat] at hsp
            simp only at hsp
            have HSP2 : Hid _ := hsp
            clear hsp HSP hat
            have hE3 : ((E : Int) < 0) = False := eq_false (by omega)
            have hEs' : (E : Int) ≤ (s.size : Int) := by omega
            have htb : wc.heap.size ≤ w3.heap.size := hk3.size
            have hxlt : ∀ k, (Value.slice xa al.length xc).ownBlock = some k → k < w3.heap.size := fun k hk => (World.ownsRow.lt hown3 k hk).2
            have hxf : ∀ k, (Value.slice xa al.length xc).ownBlock = some k → k ∉ (Value.slice va' ts'.length vc').ownBlock.toList ++ tokFp ts' ∧ w.heap.size ≤ k := fun k hk => by
              have h1 := hnew3 k hk
              have h2 := hkept.size
              exact ⟨fun hc => by have := (hT.new k hc).2; omega, by omega⟩
            have hE0 : (0 : Int) ≤ (E : Int) := by omega
            have hiE : i < E := by
              have h1 := startP_len (nm := nm) (al := al) (tx := if kindP nm = 2 then (rawP nm (s.data.toList.drop E)).1 else []) (rest := if kindP nm = 2 then (rawP nm (s.data.toList.drop E)).2 else s.data.toList.drop E) (by rw [HSP2.out]; split <;> rfl)
              have h2 : (s.data.toList.drop E).length ≤ (if kindP nm = 2 then (rawP nm (s.data.toList.drop E)).1 else []).length + (if kindP nm = 2 then (rawP nm (s.data.toList.drop E)).2 else s.data.toList.drop E).length := by
                split
                · have := runP_len (fun x => endsRawP x nm) (s.data.toList.drop E)
                  unfold rawP
                  omega
                · simp
              simp only [List.length_drop] at h1 h2
              omega
            go_wp2_with fail
            refine (rIsRaw ⟨nm.toArray⟩ _).mono ?_
            rintro e w5 ⟨rfl, rfl⟩
            have hrw : decide (kindP (⟨nm.toArray⟩ : ByteArray).data.toList = 2) = decide (kindP nm = 2) := rfl
            rw [hrw]
            clear hrw
            have hF4 : Four (w3.alloc (.cells #[.int .i64 1, .string ⟨nm.toArray⟩, .slice xa al.length xc, .string ⟨#[]⟩] 131)) w3.heap.size 131 (.int .i64 1) (.string ⟨nm.toArray⟩) (.slice xa al.length xc) (.string ⟨#[]⟩) := heap_alloc_new w3 _
            have hk4 : Kept [] wc (w3.alloc (.cells #[.int .i64 1, .string ⟨nm.toArray⟩, .slice xa al.length xc, .string ⟨#[]⟩] 131)) := hk3.alloc _
            have hown4 : AOwn (w3.alloc (.cells #[.int .i64 1, .string ⟨nm.toArray⟩, .slice xa al.length xc, .string ⟨#[]⟩] 131)) (.slice xa al.length xc) al := ownsRow_kept hown3 ((Kept.refl [] _).alloc _) (by simp)
            generalize (w3.alloc (.cells #[.int .i64 1, .string ⟨nm.toArray⟩, .slice xa al.length xc, .string ⟨#[]⟩] 131)) = w4 at *
            clear hown3 hk3 hnew3
            generalize w3.heap.size = tb at *
            by_cases hraw : kindP nm = 2
            · have hrd : decide (kindP nm = 2) = true := by simpa using hraw
              rw [hrd]
              clear hrd
              have hsp := HSP2.out
              rw [if_pos hraw] at hsp
              obtain ⟨hr1, hr2, hr3⟩ := raw_restR nm s.data.toList E
              have HTS : Hid _ := toksP_start HNE.out HB1.out hsp
              rw [hr1] at HTS
              clear hsp HSP2 hraw hr1
              obtain ⟨⟨p0, p1, p2, p3⟩, ⟨g0, g1, g2, g3⟩⟩ := cells4 hF4
              go_wp2_with fail
              refine (rRawEnd s ⟨nm.toArray⟩ E _ hs hnms hEs).mono ?_
              rintro e w6 ⟨rfl, hk6⟩
              have hrw : (rawP (⟨nm.toArray⟩ : ByteArray).data.toList (s.data.toList.drop E)).1 = (rawP nm (s.data.toList.drop E)).1 := rfl
              rw [hrw]
              rw [List.length_drop] at hr3
              have HEX : Hid ((s.extract E (E + (rawP nm (s.data.toList.drop E)).1.length)).data.toList = (rawP nm (s.data.toList.drop E)).1) := by
                show _ = _
                rw [hr2]
                simp
              generalize (rawP nm (s.data.toList.drop E)).1 = tx at *
              clear hrw hr2
              clear p0 p1 p2 p3 g0 g1 g2 g3
              have hF6 := hF4.kept hk6 (by simp)
              obtain ⟨⟨p0, p1, p2, p3⟩, ⟨g0, g1, g2, g3⟩⟩ := cells4 hF6
              obtain ⟨R, hR⟩ : ∃ R, R = E + tx.length := ⟨_, rfl⟩
              rw [← hR] at HEX HTS ⊢
              have hER : (E : Int) ≤ (R : Int) := by omega
              have hRs : (R : Int) ≤ (s.size : Int) := by omega
              clear hR
              have HEXT : Hid (s.extract E R = ⟨tx.toArray⟩) := by
                show _ = _
                apply ByteArray.ext
                apply Array.toList_inj.1
                exact HEX.out
              have hK6 := (hk4.trans hk6).setCell (p := ⟨tb, 3, none⟩) (.inr htb) (.string ⟨tx.toArray⟩)
              have hO6 : AOwn (w6.setCell ⟨tb, 3, none⟩ (.string ⟨tx.toArray⟩)) (.slice xa al.length xc) al := ownsRow_kept (ownsRow_kept hown4 hk6 (by simp)) ((Kept.refl [tb] _).setCell (p := ⟨tb, 3, none⟩) (.inl (by simp)) _) (fun k hk => by have := hxlt k hk; simp; omega)
              go_upto_region 21 with fail
              rw [HEXT.out]
              go_wp2_with (at_builtin; refine wpList_append_fp _ rfl _ _ 128 rfl 0 131 i0 _ 4 64 Tryz.underlying128 hi hz0 hz1 hz2 rfl (by decide) _ ts'.length (tokCells ts') rfl ?own _ 1 1 [.int .i64 1, .string ⟨nm.toArray⟩, .slice xa al.length xc, .string ⟨tx.toArray⟩] rfl rfl ?news ?one ?len ?bytes (Nat.zero_le _) ?_)
              case own => exact ownsRow_kept hT.row (hK6.alloc _) (by simp)
              case news =>
                have h := new_cells (w6.setCell ⟨tb, 3, none⟩ (.string ⟨tx.toArray⟩)) [.int .i64 1, .string ⟨nm.toArray⟩, .slice xa al.length xc, .string ⟨tx.toArray⟩] 131
                have e : (w6.setCell ⟨tb, 3, none⟩ (.string ⟨tx.toArray⟩)).heap.size = w6.heap.size := by simp [World.setCell]
                rw [e] at h
                exact h
              case one => intro u hu; simp at hu; rcases hu with rfl | rfl | rfl | rfl <;> rfl
              case len => unfold maxLen; omega
              case bytes => omega
              intro v' w' hown hgr hmv
              have hT' := hT.app (x := ⟨(1, nm, al, tx), .slice xa al.length xc⟩) (hK6.alloc _) (ownsRow_kept hO6 ((Kept.refl [] _).alloc _) (by simp)) hxf hown hgr hmv hkept.size
              have hK' := hT.keepW hkept (hK6.alloc _) hgr
              clear hown hgr hmv
              go_wp2_with fail
              go_roundg (s.size - R)
              case measure => rw [HG.out]; omega
              case rel => exact ⟨R, R, by omega, rfl, rfl, _, by omega, by omega, by rw [HTK.out, HTS.out]; simp, RunInv.start _ _ _, by simp; omega, hK', hT'⟩
            · have hrd : decide (kindP nm = 2) = false := by simpa using hraw
              rw [hrd]
              clear hrd
              have hsp := HSP2.out
              rw [if_neg hraw] at hsp
              have HTS : Hid _ := toksP_start HNE.out HB1.out hsp
              clear hsp HSP2 hraw
              obtain ⟨⟨p0, p1, p2, p3⟩, ⟨g0, g1, g2, g3⟩⟩ := cells4 hF4
              go_wp2_with (at_builtin; refine wpList_append_fp _ rfl _ _ 128 rfl 0 131 i0 _ 4 64 Tryz.underlying128 hi hz0 hz1 hz2 rfl (by decide) _ ts'.length (tokCells ts') rfl ?own _ 1 1 [.int .i64 1, .string ⟨nm.toArray⟩, .slice xa al.length xc, .string ⟨#[]⟩] rfl rfl ?news ?one ?len ?bytes (Nat.zero_le _) ?_)
              case own => exact ownsRow_kept hT.row (hk4.alloc _) (by simp)
              case news => exact new_cells _ [.int .i64 1, .string ⟨nm.toArray⟩, .slice xa al.length xc, .string ⟨#[]⟩] 131
              case one => intro u hu; simp at hu; rcases hu with rfl | rfl | rfl | rfl <;> rfl
              case len => unfold maxLen; omega
              case bytes => omega
              intro v' w' hown hgr hmv
              have hT' := hT.app (x := ⟨(1, nm, al, []), .slice xa al.length xc⟩) (hk4.alloc _) (ownsRow_kept hown4 ((Kept.refl [] _).alloc _) (by simp)) hxf hown hgr hmv hkept.size
              have hK' := hT.keepW hkept (hk4.alloc _) hgr
              clear hown hgr hmv
              go_wp2_with fail
              go_roundg (s.size - E)
              case measure => rw [HG.out]; omega
              case rel => exact ⟨E, E, by omega, rfl, rfl, _, by omega, by omega, by rw [HTK.out, HTS.out]; simp, RunInv.start _ _ _, by simp; omega, hK', hT'⟩
    · have hlt' : ((i : Int) < (s.size : Int)) = False := eq_false (by omega)
      obtain rfl : i = s.size := by omega
      have HEN : Hid (toksP (s.data.toList.drop s.size) = []) := by
        show _ = _
        rw [List.drop_eq_nil_of_le (by omega), toksP_nil]
      by_cases hfl : f < s.size
      · have hfl' : (f : Int) < (s.size : Int) := by omega
        have hf0 : (0 : Int) ≤ (f : Int) := by omega
        have hfle : (f : Int) ≤ (s.size : Int) := by omega
        have HTT : Hid _ := text_toks HTX.out hfl (by omega) (.inl (by omega))
        go_wp2_with fail
        refine (rSigns (s.extract f s.size) _ (by simp; omega)).mono ?_
        rintro e w3 ⟨rfl, hk3⟩
        have HV : Hid ((s.extract f s.size).data.toList = (s.data.toList.drop f).take (s.size - f)) := by
          show _ = _
          simp
        rw [HV.out]
        generalize signs ((s.data.toList.drop f).take (s.size - f)) = tx at *
        go_wp2_with (at_builtin; refine wpList_append_fp _ rfl _ _ 128 rfl 0 131 i0 _ 4 64 Tryz.underlying128 hi hz0 hz1 hz2 rfl (by decide) _ ts.length (tokCells ts) rfl ?own _ 1 1 [.int .i64 0, .string ⟨#[]⟩, .slice none 0 0, .string ⟨tx.toArray⟩] rfl rfl ?news ?one ?len ?bytes (Nat.zero_le _) ?_)
        case own => exact ownsRow_kept hT.row (hk3.alloc _) (by simp)
        case news => exact new_cells _ [.int .i64 0, .string ⟨#[]⟩, .slice none 0 0, .string ⟨tx.toArray⟩] 131
        case one => intro u hu; simp at hu; rcases hu with rfl | rfl | rfl | rfl <;> rfl
        case len => unfold maxLen; omega
        case bytes => omega
        intro v' w' hown hgr hmv
        have hT' := hT.app (x := ⟨(0, [], [], tx), .slice none 0 0⟩) (hk3.alloc _) (nilA _) (fun k hk => by cases hk) hown hgr hmv hkept.size
        have hK' := hT.keepW hkept (hk3.alloc _) hgr
        clear hown hgr hmv
        go_wp2_with fail
        go_ret
        exact ⟨v', ts ++ [(⟨(0, [], [], tx), .slice none 0 0⟩ : TokR)], rfl, by rw [HTK.out, HTT.out, HEN.out]; simp, hT', hK', by simp; omega⟩
      · have hfl' : ((f : Int) < (s.size : Int)) = False := eq_false (by omega)
        obtain rfl : f = s.size := by omega
        go_wp2_with fail
        go_ret
        exact ⟨_, ts, rfl, by rw [HTK.out, HEN.out]; simp, hT, hkept, by omega⟩
end Go.Proofs.YtlpmjpmefdpcmaaGreatDoor
