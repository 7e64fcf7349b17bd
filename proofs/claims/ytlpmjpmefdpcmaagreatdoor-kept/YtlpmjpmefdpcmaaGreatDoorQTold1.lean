import Derived.Test.YtlpmjpmefdpcmaaGreatDoorQTold0
import Derived.Deep.DeepCutAuto
/- scrubkeep.told: the names in a tree, each once, behind others. -/
namespace Go.Proofs.YtlpmjpmefdpcmaaGreatDoor
open Go.RowKit Scrub Go.Shelf
/-- Two lists of names of the call's own, made since w0. -/
def TInv (w0 : World) (nv av : Value) (N A : List (List UInt8)) (w : World) : Prop :=
  Kept [] w0 w ∧ (SOwn w nv N ∧ SOwn w av A) ∧ (∀ k, nv.ownBlock = some k → w0.heap.size ≤ k) ∧ (∀ k, av.ownBlock = some k → w0.heap.size ≤ k) ∧ ∀ k, nv.ownBlock = some k → av.ownBlock ≠ some k
theorem TInv.keep {w0 : World} {nv av : Value} {N A : List (List UInt8)} {w w' : World} (h : TInv w0 nv av N A w) (hk : Kept [] w w') : TInv w0 nv av N A w' :=
  ⟨h.1.trans hk, ⟨ownsRow_kept h.2.1.1 hk (by simp), ownsRow_kept h.2.1.2 hk (by simp)⟩, h.2.2⟩
theorem TInv.name {w0 : World} {nv av v' : Value} {N A : List (List UInt8)} {w W0 w' : World} {x : List UInt8} (h : TInv w0 nv av N A w) (hk : Kept [] w W0) (hown : w'.ownsRow 0 9 1 v' (N.length + 1) (strCells N ++ [.string ⟨x.toArray⟩]))
    (hgr : W0.grownBy w' nv.ownBlock) (hmv : Moved W0 nv v') : TInv w0 v' av (N ++ [x]) A w' ∧ (∀ b, b < W0.heap.size → nv.ownBlock ≠ some b → w'.heap[b]? = W0.heap[b]?) ∧ ∀ k, v'.ownBlock = some k → nv.ownBlock = some k ∨ W0.heap.size ≤ k := by
  obtain ⟨h1, ⟨h3, h4⟩, h5, h6, h7⟩ := h
  have hk2 := Kept.own hgr
  have hz := hk.size
  have hz0 := h1.size
  have hmv' : ∀ k, v'.ownBlock = some k → nv.ownBlock = some k ∨ W0.heap.size ≤ k := by
    intro k hk'
    rcases hmv with hm | ⟨j, hm, hj⟩
    · exact .inl (hm ▸ hk')
    · rw [hm] at hk'
      have : j = k := by simpa using hk'
      exact .inr (by omega)
  have hav : SOwn w' av A := by
    have h4' : SOwn W0 av A := ownsRow_kept h4 hk (by simp)
    exact ownsRow_kept h4' hk2 (fun k hk' hc => h7 k (Option.mem_toList.1 hc) hk')
  refine ⟨⟨(h1.trans hk).trans_new hk2 (fun k hk' => .inr (h5 k (Option.mem_toList.1 hk'))), ⟨?_, hav⟩, ?_, h6, ?_⟩, ?_, hmv'⟩
  · have e : (N ++ [x]).length = N.length + 1 := by simp
    unfold SOwn
    rw [e, strCells_snoc]
    exact hown
  · intro k hk'
    rcases hmv' k hk' with h | h
    · exact h5 k h
    · omega
  · intro k hk' hc
    rcases hmv' k hk' with h | h
    · exact h7 k h hc
    · have := own_lt h4 hc
      omega
  · intro b hb hn
    exact hk2.block b hb (fun hc => hn (Option.mem_toList.1 hc))
theorem TInv.swap {w0 : World} {nv av : Value} {N A : List (List UInt8)} {w : World} (h : TInv w0 nv av N A w) : TInv w0 av nv A N w :=
  ⟨h.1, ⟨h.2.1.2, h.2.1.1⟩, h.2.2.2.1, h.2.2.1, fun k h1 h2 => h.2.2.2.2 k h2 h1⟩
theorem TInv.lt {w0 : World} {nv av : Value} {N A : List (List UInt8)} {w : World} (h : TInv w0 nv av N A w) : ∀ k, nv.ownBlock = some k → k < w.heap.size := fun _ hk => own_lt h.2.1.1 hk
/-- told, to a depth. -/
def ToldPost (w0 : World) (s : Pol) (e : Ending) (w' : World) : Prop := ∃ nv av, e = .returned (.tuple #[nv, av]) ∧ TInv w0 nv av s.1 s.2 w'
def ToldOk (d : Nat) : Prop := ∀ (f : GF d) (v : Value) (w0 : World), Lies d w0 v f → ∀ (w : World) (nv av : Value) (s : Pol), TInv w0 nv av s.1 s.2 w → s.1.length + s.2.length + bulkF d f ≤ 1099511627776 →
  Calls Tryz.prog 25 #[v, nv, av] w (ToldPost w0 (toldF d f s))
set_option maxRecDepth 100000 in
set_option maxHeartbeats 1000000 in
theorem told_zero : ToldOk 0 := by
  intro f v w0 hL w nv av s hT _
  obtain ⟨a, c, rfl⟩ := hL
  have HT : Hid (TInv _ _ _ _ _ _) := hT
  obtain ⟨a1, c1, rfl⟩ := ownsRow_form hT.2.1.1
  obtain ⟨a2, c2, rfl⟩ := ownsRow_form hT.2.1.2
  clear hT
  have e : toldF 0 f s = s := rfl
  rw [e]
  go_enter Tryz.func25, Tryz.ntmps25
  go_wp2_with fail
  go_loopg [1, 2, 8] 0 (fun g nx ax x wr => g = 0 ∧ x = .int .i64 0 ∧ nx = .slice a1 s.1.length c1 ∧ ax = .slice a2 s.2.length c2 ∧ wr = w)
  case atStart => exact ⟨rfl, rfl, rfl, rfl, rfl⟩
  case round =>
    obtain ⟨rfl, rfl, rfl, rfl, rfl⟩ := hrel
    go_wp2_with fail
    refine bodyPost_ret (v := .tuple #[.slice a1 s.1.length c1, .slice a2 s.2.length c2]) (by simp [results, Tryz.results25, go_sem]) rfl ?_
    exact ⟨_, _, rfl, HT.out⟩
theorem fold_take {d : Nat} {l : List (GN d)} {s : Pol} {k : Nat} (h : k < l.length) : (l.take (k + 1)).foldl (toldN (toldF d)) s = toldN (toldF d) ((l.take k).foldl (toldN (toldF d)) s) l[k] := by
  rw [List.take_succ_eq_append_getElem h, List.foldl_append]
  rfl
theorem fold_len {d : Nat} (l : List (GN d)) (s : Pol) : (l.foldl (toldN (toldF d)) s).1.length + (l.foldl (toldN (toldF d)) s).2.length ≤ s.1.length + s.2.length + l.foldr (fun n m => bulkN (bulkF d) n + m) 0 := told_len (d + 1) l s
theorem bulk_take {d : Nat} : ∀ {l : List (GN d)} {k : Nat} (h : k < l.length), (l.take k).foldr (fun n m => bulkN (bulkF d) n + m) 0 + bulkN (bulkF d) l[k] ≤ l.foldr (fun n m => bulkN (bulkF d) n + m) 0
  | [], _, h => by simp at h
  | n :: t, 0, _ => by
    show 0 + bulkN (bulkF d) n ≤ bulkN (bulkF d) n + t.foldr (fun n m => bulkN (bulkF d) n + m) 0
    omega
  | n :: t, k + 1, h => by
    have ih := bulk_take (l := t) (k := k) (by simpa using h)
    show bulkN (bulkF d) n + (t.take k).foldr (fun n m => bulkN (bulkF d) n + m) 0 + bulkN (bulkF d) (t[k]'(by simpa using h)) ≤ bulkN (bulkF d) n + t.foldr (fun n m => bulkN (bulkF d) n + m) 0
    omega
theorem adds_take {al : List (List UInt8 × List UInt8)} {A : List (List UInt8)} {j : Nat} (h : j < al.length) : (al.take (j + 1)).foldl (fun A a => addN A a.1) A = addN ((al.take j).foldl (fun A a => addN A a.1) A) (al[j]).1 := by
  rw [List.take_succ_eq_append_getElem h, List.foldl_append]
  rfl
theorem addN_yes {l : List (List UInt8)} {x : List UInt8} (h : l.contains x = true) : addN l x = l := by simp only [addN, h, if_true]
theorem addN_no {l : List (List UInt8)} {x : List UInt8} (h : l.contains x = false) : addN l x = l ++ [x] := by simp only [addN, h, Bool.false_eq_true, if_false]
set_option maxRecDepth 100000 in
set_option maxHeartbeats 4000000 in
theorem told_succ (d : Nat) (ih : ToldOk d) : ToldOk (d + 1) := by
  intro f v w0 hL w nv av s hT hb
  obtain ⟨i0, hi, hz0, hz1, hz2⟩ := info_parts infoStr
  have HT : Hid (TInv _ _ _ _ _ _) := hT
  obtain ⟨a1, c1, rfl⟩ := ownsRow_form hT.2.1.1
  obtain ⟨a2, c2, rfl⟩ := ownsRow_form hT.2.1.2
  clear hT
  obtain ⟨a, c, hv, hc⟩ := hL
  subst hv
  have HC : Hid (∀ i (h : i < (gnodes d f).length), ∃ g o, a = some ⟨g, o, none⟩ ∧ LiesN (Lies d w0) w0 g (o + i * 4) (gnodes d f)[i]) := hc
  have hbl := bulkF_len f
  have HBL : Hid (∀ k (h : k < (gnodes d f).length), (((gnodes d f).take k).foldl (toldN (toldF d)) s).1.length + (((gnodes d f).take k).foldl (toldN (toldF d)) s).2.length + bulkN (bulkF d) (gnodes d f)[k] ≤ 1099511627776) := fun k h => by
    have h1 := fold_len ((gnodes d f).take k) s
    have h2 := bulk_take h
    have h3 : bulkF (d + 1) f = (gnodes d f).foldr (fun n m => bulkN (bulkF d) n + m) 0 := rfl
    omega
  have e : toldF (d + 1) f s = (gnodes d f).foldl (toldN (toldF d)) s := rfl
  rw [e]
  clear hc e
  generalize bulkF (d + 1) f = B at *
  generalize gnodes d f = l at *
  go_enter Tryz.func25, Tryz.ntmps25
  go_wp2_with fail
  go_loopg [1, 2, 8] l.length (fun g nx ax x wr => ∃ k : Nat, k ≤ l.length ∧ g = l.length - k ∧ x = .int .i64 (k : Int) ∧ TInv w0 nx ax ((l.take k).foldl (toldN (toldF d)) s).1 ((l.take k).foldl (toldN (toldF d)) s).2 wr)
  case atStart => exact ⟨0, by omega, rfl, rfl, HT.out⟩
  case round =>
    obtain ⟨wo, rfl⟩ : ∃ x, x = wr := ⟨wr, rfl⟩
    obtain ⟨k, hk, hgk, rfl, hI⟩ := hrel
    have HG : Hid _ := hgk
    have HI : Hid (TInv _ _ _ _ _ _) := hI
    have hkept := hI.1
    obtain ⟨a5, c5, hn5⟩ := ownsRow_form hI.2.1.1
    obtain ⟨a6, c6, hn6⟩ := ownsRow_form hI.2.1.2
    subst hn5 hn6
    clear hgk hI
    by_cases hlt : k < l.length
    · have hlt' : (k : Int) < (l.length : Int) := by omega
      have hge : (0 : Int) ≤ (k : Int) := by omega
      obtain ⟨g, o, rfl, hn⟩ := HC.out k hlt
      obtain ⟨na, nk, e0, e1, e2, e3, hA, hK⟩ := hn
      have c0 := cell_kept hkept e0
      have c1' := cell_kept hkept e1
      have c2' := cell_kept hkept e2
      have c3 := cell_kept hkept e3
      have hft := fold_take (s := s) hlt
      have hbd := HBL.out k hlt
      have HFT : Hid _ := hft
      clear hft
      generalize (l.take k).foldl (toldN (toldF d)) s = S at *
      obtain ⟨a3, c3', rfl⟩ := hA.form
      obtain ⟨a4, c4, rfl⟩ := hK.form
      by_cases hnm : (l[k]).1 = []
      · have HS : Hid (toldN (toldF d) S l[k] = S) := by show _ = _; simp [toldN, hnm]
        rw [hnm] at c0
        clear hA hK e0 e1 e2 e3 hnm
        generalize (l[k]).2.1.length = l3 at *
        generalize glen d (l[k]).2.2.1 = l4 at *
        generalize (l[k]).2.2.2 = tx at *
        have c0' : wo.cell? ⟨g, o + k * 4, none⟩ = some (.string ⟨#[]⟩) := c0
        clear c0
        go_wp2_with fail
        go_roundg (l.length - (k + 1))
        case measure => rw [HG.out]; omega
        case rel =>
          refine ⟨k + 1, by omega, rfl, by go_num, ?_⟩
          rw [HFT.out, HS.out]
          exact HI.out.keep ((Kept.refl [] wo).alloc _)
      · have hne := notEmpty hnm
        have HS : Hid (toldN (toldF d) S l[k] = toldF d (l[k]).2.2.1 (addN S.1 (l[k]).1, (l[k]).2.1.foldl (fun A a => addN A a.1) S.2)) := by show _ = _; simp [toldN, hnm]
        have HIH : Hid (∀ w' nv' av' s', TInv w0 nv' av' s'.1 s'.2 w' → s'.1.length + s'.2.length + bulkF d (l[k]).2.2.1 ≤ 1099511627776 → Calls Tryz.prog 25 #[.slice a4 (glen d (l[k]).2.2.1) c4, nv', av'] w' (ToldPost w0 (toldF d (l[k]).2.2.1 s'))) := fun w' nv' av' s' h1 h2 => ih (l[k]).2.2.1 _ w0 hK w' nv' av' s' h1 h2
        have HAL : Hid (∀ w', Kept [] w0 w' → LiesA w' (.slice a3 (l[k]).2.1.length c3') (l[k]).2.1) := fun w' hkk => hA.kept hkk
        have hb1 : S.1.length + 1 + S.2.length + (l[k]).2.1.length + bulkF d (l[k]).2.2.1 ≤ 1099511627776 := by
          have := bulkA_len (l[k]).2.1
          unfold bulkN at hbd
          omega
        clear hA hK e0 e1 e2 e3 hnm hbd
        generalize (l[k]).2.2.1 = kf at *
        generalize glen d kf = l4 at *
        generalize (l[k]).2.2.2 = tx at *
        generalize (l[k]).2.1 = al at *
        generalize (l[k]).1 = nm at *
        have hka : Kept [] wo (wo.alloc (.cells #[.string ⟨nm.toArray⟩, .slice a3 al.length c3', .slice a4 l4 c4, .string ⟨tx.toArray⟩] 42)) := (Kept.refl [] wo).alloc _
        have hgx : (wo.alloc (.cells #[.string ⟨nm.toArray⟩, .slice a3 al.length c3', .slice a4 l4 c4, .string ⟨tx.toArray⟩] 42)).heap[wo.heap.size]? = some (.cells #[.string ⟨nm.toArray⟩, .slice a3 al.length c3', .slice a4 l4 c4, .string ⟨tx.toArray⟩] 42 (0, 0)) := heap_alloc_new wo _
        have hgz : wo.heap.size < (wo.alloc (.cells #[.string ⟨nm.toArray⟩, .slice a3 al.length c3', .slice a4 l4 c4, .string ⟨tx.toArray⟩] 42)).heap.size := by simp
        go_wp2_with fail
        generalize wo.alloc (.cells #[.string ⟨nm.toArray⟩, .slice a3 al.length c3', .slice a4 l4 c4, .string ⟨tx.toArray⟩] 42) = w1 at *
        have hI1 := HI.out.keep hka
        have hnb : ∀ k, (Value.slice a5 S.1.length c5).ownBlock = some k → k ≠ wo.heap.size := fun k hk' => by have := HI.out.lt k hk'; omega
        have hab : ∀ k, (Value.slice a6 S.2.length c6).ownBlock = some k → k ≠ wo.heap.size := fun k hk' => by have := HI.out.swap.lt k hk'; omega
        have HI1 : Hid (TInv _ _ _ _ _ _) := hI1
        have HNB : Hid _ := hnb
        have HAB : Hid _ := hab
        obtain ⟨cn, hcn⟩ : ∃ cn, S.1.contains nm = cn := ⟨_, rfl⟩
        have HCN : Hid (S.1.contains nm = cn) := hcn
        have HHS : Hid _ := has_any _ S.1 nm w1 hI1.2.1.1.strs (by omega)
        rw [hcn] at HHS
        clear hcn
        have HGX : Hid _ := hgx
        have hk1 := hkept.trans hka
        clear hI1 hnb hab c0 c1' c2' c3
        refine Calls.mono HHS.out ?_
        rintro e w2 ⟨rfl, rfl⟩
        have q0 : w2.cell? ⟨wo.heap.size, 0, none⟩ = some (.string ⟨nm.toArray⟩) := by unfold World.cell?; rw [hgx]; rfl
        clear hgx
        go_upto_if 31 with fail
        go_cut [1] (fun nx wx => TInv w0 nx (.slice a6 S.2.length c6) (addN S.1 nm) S.2 wx ∧ wx.heap[wo.heap.size]? = some (.cells #[.string ⟨nm.toArray⟩, .slice a3 al.length c3', .slice a4 l4 c4, .string ⟨tx.toArray⟩] 42 (0, 0)) ∧ ∀ k, nx.ownBlock = some k → k ≠ wo.heap.size)
        case first =>
          cases cn with
          | true =>
            go_wp2_with fail
            go_meet
            case rel =>
              rw [addN_yes HCN.out]
              exact ⟨HI1.out, HGX.out, HNB.out⟩
          | false =>
            go_wp2_with (at_builtin; refine wpList_append_fp _ rfl _ _ 22 rfl 0 9 i0 _ 1 16 Tryz.underlying22 hi hz0 hz1 hz2 rfl (by decide) _ S.1.length (strCells S.1) rfl ?own _ 1 1 [.string ⟨nm.toArray⟩] rfl rfl ?news ?one ?len ?bytes (Nat.zero_le _) ?_)
            case own => exact ownsRow_kept HI1.out.2.1.1 ((Kept.refl [] _).alloc _) (by simp)
            case news => exact new_cells w2 [.string ⟨nm.toArray⟩] 9
            case one => intro u hu; simp at hu; rw [hu]; rfl
            case len => unfold maxLen; omega
            case bytes => omega
            intro v' w' hown3 hgr hmv
            obtain ⟨hT2, hB2, hM2⟩ := HI1.out.name ((Kept.refl [] w2).alloc _) hown3 hgr hmv
            have hX2 : w'.heap[wo.heap.size]? = some (.cells #[.string ⟨nm.toArray⟩, .slice a3 al.length c3', .slice a4 l4 c4, .string ⟨tx.toArray⟩] 42 (0, 0)) := (hB2 wo.heap.size (by simp; omega) (fun h => HNB.out _ h rfl)).trans ((((Kept.refl [] w2).alloc _).block _ hgz (by simp)).trans HGX.out)
            have hN2 : ∀ k, v'.ownBlock = some k → k ≠ wo.heap.size := fun k hk' => by
              rcases hM2 k hk' with h | h
              · exact HNB.out k h
              · simp at h
                omega
            have HT2 : Hid (TInv _ _ _ _ _ _) := hT2
            have HX2 : Hid _ := hX2
            have HN2 : Hid _ := hN2
            obtain ⟨va, vc, hv'⟩ := ownsRow_form hown3
            subst hv'
            clear hown3 hgr hmv hT2 hB2 hM2 hX2 hN2
            go_wp2_with fail
            go_meet
            case rel =>
              rw [addN_no HCN.out]
              exact ⟨HT2.out, HX2.out, HN2.out⟩
        case rest =>
          obtain ⟨hT3, hX3, hN3⟩ := hcut
          have HT3 : Hid (TInv _ _ _ _ _ _) := hT3
          have HX3 : Hid _ := hX3
          have HN3 : Hid _ := hN3
          have hNl := addN_len S.1 nm
          obtain ⟨b1, e1', hv1⟩ := ownsRow_form hT3.2.1.1
          clear hT3 hX3 hN3 q0 HI1 HI HNB HGX hgz HCN
          generalize addN S.1 nm = N1 at *
          subst hv1
          go_wp2_with fail
          go_loopg [2, 11] al.length (fun g ax x wi => ∃ j : Nat, j ≤ al.length ∧ g = al.length - j ∧ x = .int .i64 (j : Int) ∧ TInv w0 (.slice b1 N1.length e1') ax N1 ((al.take j).foldl (fun A a => addN A a.1) S.2) wi ∧ wi.heap[wo.heap.size]? = some (.cells #[.string ⟨nm.toArray⟩, .slice a3 al.length c3', .slice a4 l4 c4, .string ⟨tx.toArray⟩] 42 (0, 0)) ∧ ∀ k, ax.ownBlock = some k → k ≠ wo.heap.size)
          case atStart => exact ⟨0, by omega, rfl, rfl, HT3.out, HX3.out, HAB.out⟩
          case round =>
            obtain ⟨wi, rfl⟩ : ∃ x, x = wr := ⟨wr, rfl⟩
            obtain ⟨j, hj, hgj, rfl, hTj, hXj, hNj⟩ := hrel
            have HGJ : Hid _ := hgj
            have HTJ : Hid (TInv _ _ _ _ _ _) := hTj
            have HXJ : Hid _ := hXj
            have HNJ : Hid _ := hNj
            have hk4 := hTj.1
            have hAl := addsN_len (al.take j) S.2
            have htl : (al.take j).length ≤ al.length := by simp; omega
            obtain ⟨b2, e2', hv2⟩ := ownsRow_form hTj.2.1.2
            have z1 : wi.cell? ⟨wo.heap.size, 1, none⟩ = some (.slice a3 al.length c3') := by unfold World.cell?; rw [hXj]; rfl
            have z2 : wi.cell? ⟨wo.heap.size, 2, none⟩ = some (.slice a4 l4 c4) := by unfold World.cell?; rw [hXj]; rfl
            have hgz2 : wo.heap.size < wi.heap.size := (Array.getElem?_eq_some_iff.1 hXj).1
            clear hgj hTj hXj hNj
            by_cases hjl : j < al.length
            · have hjl' : (j : Int) < (al.length : Int) := by omega
              have hjg : (0 : Int) ≤ (j : Int) := by omega
              obtain ⟨la, lc, hv, hcs⟩ := HAL.out wi hk4
              obtain ⟨g3, o3, hg3, y0, y1⟩ := hcs j hjl
              injection hv with hv1 hv3 hv4
              subst hv1 hv4 hg3
              have hadt := adds_take (A := S.2) hjl
              have HADT : Hid _ := hadt
              clear hcs hadt
              generalize (al.take j).foldl (fun A a => addN A a.1) S.2 = A1 at *
              subst hv2
              generalize (al[j]).1 = an at *
              obtain ⟨cn2, hcn⟩ : ∃ cn, A1.contains an = cn := ⟨_, rfl⟩
              have HCN : Hid (A1.contains an = cn2) := hcn
              have HHS : Hid _ := has_any _ A1 an wi HTJ.out.2.1.2.strs (by omega)
              rw [hcn] at HHS
              clear hcn
              go_wp2_with fail
              refine Calls.mono HHS.out ?_
              rintro e w5 ⟨rfl, rfl⟩
              cases cn2 with
              | true =>
                go_wp2_with fail
                go_roundg (al.length - (j + 1))
                case measure => rw [HGJ.out]; omega
                case rel =>
                  refine ⟨j + 1, by omega, rfl, by go_num, ?_, HXJ.out, HNJ.out⟩
                  rw [HADT.out, addN_yes HCN.out]
                  exact HTJ.out
              | false =>
                go_wp2_with (at_builtin; refine wpList_append_fp _ rfl _ _ 22 rfl 0 9 i0 _ 1 16 Tryz.underlying22 hi hz0 hz1 hz2 rfl (by decide) _ A1.length (strCells A1) rfl ?own _ 1 1 [.string ⟨an.toArray⟩] rfl rfl ?news ?one ?len ?bytes (Nat.zero_le _) ?_)
                case own => exact ownsRow_kept HTJ.out.2.1.2 ((Kept.refl [] _).alloc _) (by simp)
                case news => exact new_cells w5 [.string ⟨an.toArray⟩] 9
                case one => intro u hu; simp at hu; rw [hu]; rfl
                case len => unfold maxLen; omega
                case bytes => omega
                intro v' w' hown3 hgr hmv
                obtain ⟨hT2, hB2, hM2⟩ := HTJ.out.swap.name ((Kept.refl [] w5).alloc _) hown3 hgr hmv
                have hX2 : w'.heap[wo.heap.size]? = some (.cells #[.string ⟨nm.toArray⟩, .slice (some ⟨g3, o3, none⟩) al.length c3', .slice a4 l4 c4, .string ⟨tx.toArray⟩] 42 (0, 0)) := (hB2 wo.heap.size (by simp; omega) (fun h => HNJ.out _ h rfl)).trans ((((Kept.refl [] w5).alloc _).block _ hgz2 (by simp)).trans HXJ.out)
                have hN2 : ∀ k, v'.ownBlock = some k → k ≠ wo.heap.size := fun k hk' => by
                  rcases hM2 k hk' with h | h
                  · exact HNJ.out k h
                  · simp at h
                    omega
                have HT2 : Hid (TInv _ _ _ _ _ _) := hT2.swap
                have HX2 : Hid _ := hX2
                have HN2 : Hid _ := hN2
                obtain ⟨va, vc, hv'⟩ := ownsRow_form hown3
                subst hv'
                clear hown3 hgr hmv hT2 hB2 hM2 hX2 hN2
                go_wp2_with fail
                go_roundg (al.length - (j + 1))
                case measure => rw [HGJ.out]; omega
                case rel =>
                  refine ⟨j + 1, by omega, rfl, by go_num, ?_, HX2.out, HN2.out⟩
                  rw [HADT.out, addN_no HCN.out]
                  exact HT2.out
            · have hjl' : ((j : Int) < (al.length : Int)) = False := by simp; omega
              have et : al.take j = al := List.take_of_length_le (by omega)
              rw [et] at HTJ hAl hv2
              clear et
              generalize al.foldl (fun A a => addN A a.1) S.2 = A1 at *
              subst hv2
              have HRC : Hid (Calls Tryz.prog 25 #[.slice a4 l4 c4, .slice b1 N1.length e1', .slice b2 A1.length e2'] wi (ToldPost w0 (toldF d kf (N1, A1)))) := HIH.out wi _ _ (N1, A1) HTJ.out (by show N1.length + A1.length + bulkF d kf ≤ _; omega)
              go_wp2_with fail
              refine Calls.mono HRC.out ?_
              rintro e w6 ⟨nv', av', rfl, hT6⟩
              have HT6 : Hid (TInv _ _ _ _ _ _) := hT6
              obtain ⟨b5, e5, hv5⟩ := ownsRow_form hT6.2.1.1
              obtain ⟨b6, e6, hv6⟩ := ownsRow_form hT6.2.1.2
              clear hT6
              generalize (toldF d kf (N1, A1)) = R at *
              subst hv5 hv6
              go_wp2_with fail
              go_roundg (l.length - (k + 1))
              case measure => rw [HG.out]; omega
              case rel =>
                refine ⟨k + 1, by omega, rfl, by go_num, ?_⟩
                rw [HFT.out, HS.out]
                exact HT6.out
    · have hlt' : ((k : Int) < (l.length : Int)) = False := by simp; omega
      have et : l.take k = l := List.take_of_length_le (by omega)
      rw [et] at HI
      go_wp2_with fail
      refine bodyPost_ret (v := .tuple #[.slice a5 _ c5, .slice a6 _ c6]) (by simp [results, Tryz.results25, go_sem]; exact ⟨rfl, rfl⟩) rfl ?_
      rw [et]
      exact ⟨_, _, rfl, HI.out⟩
theorem told_any : ∀ d, ToldOk d
  | 0 => told_zero
  | d + 1 => told_succ d (told_any d)
end Go.Proofs.YtlpmjpmefdpcmaaGreatDoor
