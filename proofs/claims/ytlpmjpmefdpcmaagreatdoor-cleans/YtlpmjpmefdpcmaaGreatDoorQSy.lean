import Derived.Test.YtlpmjpmefdpcmaaGreatDoorQSx
import Derived.Deep.RegionHeld3
import Derived.Test.YtlpmjpmefdpcmaaGreatDoorQText1
/- The reference's filter: the walk. -/
namespace Go.Proofs.YtlpmjpmefdpcmaaGreatDoor
open Go.RowKit Scrub Go.Shelf
theorem bulkA_lenX : ∀ al : List (List UInt8 × List UInt8), al.length ≤ bulkA al
  | [] => by simp
  | a :: t => by
    have h := bulkA_lenX t
    have e : bulkA (a :: t) = a.1.length + a.2.length + 1 + bulkA t := rfl
    rw [e, List.length_cons]
    omega
theorem bulkA_in : ∀ (al : List (List UInt8 × List UInt8)) (a : List UInt8 × List UInt8), a ∈ al → a.2.length ≤ bulkA al
  | [], _, h => by cases h
  | b :: t, a, h => by
    have e : bulkA (b :: t) = b.1.length + b.2.length + 1 + bulkA t := rfl
    rcases List.mem_cons.1 h with rfl | h1
    · omega
    · have := bulkA_in t a h1
      omega
theorem rawN_bulk (p : Pol) (d : Nat) (n : GN d) (h : niceN (niceF d) n) : evBulk (rawN p (rawF p d) n) ≤ bulkN (bulkF d) n := by
  have h1 := rawF_bulk p (d + 1) ([n] : List (GN d)) (fun m hm => by
    have : m ∈ [n] := hm
    simp at this
    subst this
    exact h)
  have e1 : rawF p (d + 1) ([n] : List (GN d)) = rawN p (rawF p d) n ++ [] := rfl
  have e2 : bulkF (d + 1) ([n] : List (GN d)) = bulkN (bulkF d) n + 0 := rfl
  rw [e1, e2, List.append_nil] at h1
  omega
theorem evBulk_take (p : Pol) (d : Nat) : ∀ (l : List (GN d)) (k : Nat) (_ : ∀ n ∈ l, niceN (niceF d) n) (h : k < l.length), evBulk ((l.take k).flatMap (rawN p (rawF p d))) + bulkN (bulkF d) l[k] ≤ l.foldr (fun n m => bulkN (bulkF d) n + m) 0
  | [], k, _, h => by simp at h
  | a :: t, 0, _, _ => by simp [evBulk]
  | a :: t, k + 1, hn, h => by
    have ih := evBulk_take p d t k (fun n hn' => hn n (List.mem_cons_of_mem _ hn')) (by simpa using h)
    have h1 := rawN_bulk p d a (hn a List.mem_cons_self)
    rw [List.take_succ_cons, List.flatMap_cons, evBulk_append, List.foldr_cons]
    simp only [List.getElem_cons_succ]
    omega
theorem bulk_many {d : Nat} (B : GF d → Nat) : ∀ q : List (GN d), q.length ≤ q.foldr (fun n m => bulkN B n + m) 0
  | [] => by simp
  | a :: t => by
    have := bulk_many B t
    have h1 : 1 ≤ bulkN B a := by unfold bulkN; omega
    rw [List.foldr_cons, List.length_cons]
    omega
theorem bulk_mem {d : Nat} (B : GF d → Nat) : ∀ (q : List (GN d)) (n : GN d), n ∈ q → bulkN B n ≤ q.foldr (fun n m => bulkN B n + m) 0
  | [], _, h => by cases h
  | a :: t, n, h => by
    rw [List.foldr_cons]
    rcases List.mem_cons.1 h with rfl | h1
    · omega
    · have := bulk_mem B t n h1
      omega
/-- The kids that were left, made behind W. -/
def KidsX (w4 W w' : World) (v : Value) (R : List Ev) : Prop := ∃ kns : List NodeR, v = .slice (match v with | .slice a _ _ => a | _ => none) kns.length (match v with | .slice _ _ c => c | _ => 0) ∧ LeftX W.heap.size w' v kns ∧ evsOf kns = mergeE R ∧ Kept [] w4 W ∧ Kept [] W w'
theorem KidsX.kept {w4 W w' : World} {v : Value} {R : List Ev} (h : KidsX w4 W w' v R) : Kept [] w4 w' := by
  obtain ⟨kns, _, _, _, h1, h2⟩ := h
  exact h1.trans h2
/-- The new element as it is begun: its kids hold what was left. -/
structure YI (w4 : World) (nm : List UInt8) (R : List Ev) (wx : World) (yb : Nat) (kv : Value) (fpk : List Nat) : Prop where
  node : Four wx yb 42 (.string ⟨nm.toArray⟩) (.slice none 0 0) kv (.string ⟨#[]⟩)
  tree : TreeX wx kv (mergeE R) fpk
  fp : ∀ k, k ∈ fpk → w4.heap.size ≤ k ∧ k < wx.heap.size ∧ k ≠ yb
  kept : Kept [] w4 wx
  lt : w4.heap.size ≤ yb
theorem KidsX.tree {w4 W w' : World} {v : Value} {R : List Ev} (h : KidsX w4 W w' v R) : ∃ fpk, TreeX w' v (mergeE R) fpk ∧ ∀ k, k ∈ fpk → W.heap.size ≤ k ∧ k < w'.heap.size := by
  obtain ⟨kns, _, h1, h2, _, _⟩ := h
  refine ⟨_, by rw [← h2]; exact h1.tree, fun k hk => ?_⟩
  rcases List.mem_append.1 hk with h3 | h3
  · have h4 : v.ownBlock = some k := by simpa using h3
    exact ⟨h1.2.2.1 k h4, own_lt h1.1 h4⟩
  · obtain ⟨n, hn, hkn⟩ := List.mem_flatMap.1 h3
    exact (h1.2.2.2 n hn k hkn).1
theorem YI.late {w4 w5 : World} {nm : List UInt8} {R : List Ev} {kv : Value} (h : KidsX w4 w4.drew w5 kv R) : ∃ fpk, YI w4 nm R (w5.alloc (.cells #[.string ⟨nm.toArray⟩, .slice none 0 0, kv, .string ⟨#[]⟩] 42)) w5.heap.size kv fpk := by
  obtain ⟨fpk, h1, h2⟩ := h.tree
  have hk := h.kept
  have hz := hk.size
  refine ⟨fpk, heap_alloc_new w5 _, h1.same (fun k hk' => Below.heap_alloc _ _ _ (h2 k hk').2), fun k hk' => ⟨(h2 k hk').1, ?_, ?_⟩, hk.alloc _, hz⟩
  · have := (h2 k hk').2
    have h4 := ((Kept.refl [] w5).alloc (.cells #[.string ⟨nm.toArray⟩, .slice none 0 0, kv, .string ⟨#[]⟩] 42)).size
    omega
  · have := (h2 k hk').2
    omega
theorem YI.early {w4 w5 : World} {nm : List UInt8} {R : List Ev} {kv : Value} (h : KidsX w4 (w4.alloc (.cells #[.string ⟨#[]⟩, .slice none 0 0, .slice none 0 0, .string ⟨#[]⟩] 42)).drew w5 kv R) (hy : Four w5 w4.heap.size 42 (.string ⟨#[]⟩) (.slice none 0 0) (.slice none 0 0) (.string ⟨#[]⟩)) :
    ∃ fpk, YI w4 nm R ((((w5.setCell ⟨w4.heap.size, 0, none⟩ (.string ⟨nm.toArray⟩)).setCell ⟨w4.heap.size, 1, none⟩ (.slice none 0 0)).setCell ⟨w4.heap.size, 2, none⟩ kv).setCell ⟨w4.heap.size, 3, none⟩ (.string ⟨#[]⟩)) w4.heap.size kv fpk := by
  obtain ⟨fpk, h1, h2⟩ := h.tree
  have hk := h.kept
  have hW : (w4.alloc (.cells #[.string ⟨#[]⟩, .slice none 0 0, .slice none 0 0, .string ⟨#[]⟩] 42)).drew.heap.size = w4.heap.size + 1 := by
    show (w4.alloc _).heap.size = _
    simp
  have hne : ∀ k, k ∈ fpk → w4.heap.size < k ∧ k < w5.heap.size := fun k hk' => by have := h2 k hk'; rw [hW] at this; omega
  have hK : Kept [w4.heap.size] w5 ((((w5.setCell ⟨w4.heap.size, 0, none⟩ (.string ⟨nm.toArray⟩)).setCell ⟨w4.heap.size, 1, none⟩ (.slice none 0 0)).setCell ⟨w4.heap.size, 2, none⟩ kv).setCell ⟨w4.heap.size, 3, none⟩ (.string ⟨#[]⟩)) := (Kept.refl [w4.heap.size] w5).set4 (.inl (by simp)) _ _ _ _
  refine ⟨fpk, set4_at hy _ _ _ _, h1.same (fun k hk' => hK.block k (hne k hk').2 (by have := (hne k hk').1; simp; omega)), fun k hk' => ⟨by have := (hne k hk').1; omega, by have := (hne k hk').2; have := hK.size; omega, by have := (hne k hk').1; omega⟩, hk.set4 (.inr (Nat.le_refl _)) _ _ _ _, Nat.le_refl _⟩
set_option maxRecDepth 100000 in
set_option maxHeartbeats 2000000 in
theorem rFilter_zero (ev av : Value) (p : Pol) : RFilterOk ev av p 0 := by
  intro f v out ns A w0 w hp hl hn hk0 hL he hb
  obtain ⟨a, c, rfl⟩ := hl
  obtain ⟨⟨⟨a1, c1, rfl, _⟩, ⟨a2, c2, rfl, _⟩⟩, _⟩ := hp
  obtain ⟨oa, oc, rfl⟩ := ownsRow_form hL.1
  have hfin : ∀ ob, FPostX w0.heap.size p 0 f A (.slice oa ns.length oc) w (.returned (.slice oa ns.length oc)) (w.alloc ob) := fun ob => ⟨_, ns, rfl, ⟨hL.kept ((Kept.refl [] w).alloc _), by rw [he]; show _ = mergeE (A ++ []); rw [List.append_nil], ((Kept.refl [] w).alloc _).mono (by simp), .inl rfl⟩⟩
  have HFIN : Hid _ := hfin
  clear hfin hL he hk0
  go_enter Tryz.func99, Tryz.ntmps99
  go_wp2_with fail
  go_loopg [2, 7] 0 (fun _ x2 x7 wr => x2 = .slice oa ns.length oc ∧ x7 = .int .i64 0 ∧ wr = w.alloc (.cells #[.slice a1 p.1.length c1, .slice a2 p.2.length c2] 33))
  case atStart => exact ⟨rfl, rfl, rfl⟩
  case round =>
    obtain ⟨rfl, rfl, rfl⟩ := hrel
    go_wp2_with fail
    go_ret
    exact HFIN.out _
set_option maxRecDepth 100000 in
set_option maxHeartbeats 64000000 in
theorem rFilter_succ (ev av : Value) (p : Pol) (d : Nat) (ih : RFilterOk ev av p d) : RFilterOk ev av p (d + 1) := by
  intro f v out ns0 A w0 w hp hl hn hk0 hL he hb
  obtain ⟨va, vc, rfl, hcells⟩ := hl
  obtain ⟨l, hl⟩ : ∃ l, gnodes d f = l := ⟨_, rfl⟩
  have hfr : rawF p (d + 1) f = l.flatMap (rawN p (rawF p d)) := by rw [← hl]; rfl
  have hbk : ∀ n ∈ l, bulkN (bulkF d) n ≤ bulkF (d + 1) f := fun n hn' => bulk_mem (bulkF d) (gnodes d f) n (by rw [hl]; exact hn')
  have hlb : l.foldr (fun n m => bulkN (bulkF d) n + m) 0 = bulkF (d + 1) f := by rw [← hl]; rfl
  have hll : l.length < 1099511627776 := by
    have h1 := bulk_many (bulkF d) l
    omega
  have HLB : Hid _ := hlb
  clear hlb
  have hnice : ∀ n ∈ l, niceN (niceF d) n := fun n hn' => hn n (by rw [hl]; exact hn')
  have hrb : evBulk (l.flatMap (rawN p (rawF p d))) ≤ bulkF (d + 1) f := by rw [← hfr]; exact rawF_bulk p (d + 1) f hn
  rw [hl] at hcells ⊢
  obtain ⟨⟨⟨a1, c1, rfl, hs1⟩, ⟨a2, c2, rfl, hs2⟩⟩, hp1, hp2⟩ := hp
  have hlo : w0.heap.size ≤ w.heap.size := hk0.size
  have hK01 : Kept [] w0 (w.alloc (.cells #[.slice a1 p.1.length c1, .slice a2 p.2.length c2] 33)) := hk0.alloc _
  have hpb : (w.alloc (.cells #[.slice a1 p.1.length c1, .slice a2 p.2.length c2] 33)).heap[w.heap.size]? = some (.cells #[.slice a1 p.1.length c1, .slice a2 p.2.length c2] 33 (0, 0)) := heap_alloc_new w _
  have hpbo : w.heap.size ∉ out.ownBlock.toList := fun hc => by have := own_lt hL.1 (by simpa using hc : out.ownBlock = some w.heap.size); omega
  have hout0 : ∀ k, k ∈ out.ownBlock.toList → w0.heap.size ≤ k := fun k hk => hL.2.2.1 k (by simpa using hk)
  have hfx0 : FX w0.heap.size out (w.alloc (.cells #[.slice a1 p.1.length c1, .slice a2 p.2.length c2] 33)) A out (w.alloc (.cells #[.slice a1 p.1.length c1, .slice a2 p.2.length c2] 33)) ns0 := ⟨hL.kept ((Kept.refl [] w).alloc _), he, Kept.refl _ _, .inl rfl⟩
  have HPOST : Hid (∀ lv wr ns, FX w0.heap.size out (w.alloc (.cells #[.slice a1 p.1.length c1, .slice a2 p.2.length c2] 33)) (A ++ l.flatMap (rawN p (rawF p d))) lv wr ns → FPostX w0.heap.size p (d + 1) f A out w (.returned lv) wr) := fun lv wr ns h => ⟨lv, ns, rfl, by
    rw [hfr]
    refine ⟨h.left, h.evs, ((((Kept.refl [] w).alloc _).mono (by simp)).trans h.kept), ?_⟩
    rcases h.moved with h1 | ⟨k, h1, h2⟩
    · exact .inl h1
    · exact .inr ⟨k, h1, by have := ((Kept.refl [] w).alloc (.cells #[.slice a1 p.1.length c1, .slice a2 p.2.length c2] 33)).size; omega⟩⟩
  have HCELLS : Hid _ := hcells
  have HBK : Hid _ := hbk
  have HNICE : Hid _ := hnice
  have HRB : Hid _ := hrb
  have HP : Hid (PreR (.slice a1 p.1.length c1) (.slice a2 p.2.length c2) p w0) := ⟨⟨⟨a1, c1, rfl, hs1⟩, ⟨a2, c2, rfl, hs2⟩⟩, hp1, hp2⟩
  have HIH : Hid (RFilterOk (.slice a1 p.1.length c1) (.slice a2 p.2.length c2) p d) := ih
  obtain ⟨oa, oc, rfl⟩ := ownsRow_form hL.1
  clear hcells hbk hnice hrb hs1 hs2 ih hL he hn hfr hk0
  go_enter Tryz.func99, Tryz.ntmps99
  go_wp2_with fail
  generalize hw1 : (w.alloc (.cells #[.slice a1 p.1.length c1, .slice a2 p.2.length c2] 33)) = w1 at *
  have hpbl : w.heap.size < w1.heap.size := (Array.getElem?_eq_some_iff.1 hpb).1
  clear hw1
  generalize hpbe : w.heap.size = pb at *
  generalize hlz : w0.heap.size = lo at *
  obtain ⟨i0, hi, hz0, hz1, hz2⟩ := info_parts infoNode
  go_loopg [2, 7] l.length (fun g x2 x7 wr => ∃ (k : Nat) (ns : List NodeR), k ≤ l.length ∧ g = l.length - k ∧ x7 = .int .i64 (k : Int) ∧ FX lo (.slice oa ns0.length oc) w1 (A ++ (l.take k).flatMap (rawN p (rawF p d))) x2 wr ns)
  case atStart => exact ⟨0, ns0, by omega, rfl, rfl, by simpa using hfx0⟩
  case round =>
    clear hfx0
    obtain ⟨k, ns, hkl, hgk, rfl, hfx⟩ := hrel
    have HG : Hid _ := hgk
    clear hgk
    obtain ⟨wo, hwo⟩ : ∃ x, x = wr := ⟨wr, rfl⟩
    subst hwo
    obtain ⟨la, lc, rfl⟩ := ownsRow_form hfx.left.1
    by_cases hlt : k < l.length
    · have hlt' : (k : Int) < (l.length : Int) := by omega
      have hge : (0 : Int) ≤ (k : Int) := by omega
      have hK0 : Kept [] w0 wo := hK01.trans_new hfx.kept (fun i hi => .inr (by rw [hlz]; exact hout0 i hi))
      obtain ⟨g, o, rfl, xav, xkv, e0, e1, e2, e3, hla, hlk⟩ := HCELLS.out k hlt
      have r0 := cell_kept hK0 e0
      have r1 := cell_kept hK0 e1
      have r2 := cell_kept hK0 e2
      have r3 := cell_kept hK0 e3
      obtain ⟨aa, ac, rfl⟩ := hla.form
      obtain ⟨ka, kc, rfl⟩ := hlk.form
      have hni := HNICE.out l[k] (List.getElem_mem hlt)
      have hbn := HBK.out l[k] (List.getElem_mem hlt)
      have htake : (l.take (k + 1)).flatMap (rawN p (rawF p d)) = (l.take k).flatMap (rawN p (rawF p d)) ++ rawN p (rawF p d) l[k] := by
        rw [List.take_succ_eq_append_getElem hlt, List.flatMap_append]
        simp
      have hbA : evBulk (A ++ (l.take k).flatMap (rawN p (rawF p d))) + evBulk (rawN p (rawF p d) l[k]) < 1099511627776 := by
        have h1 := HRB.out
        have h2 : evBulk ((l.take (k + 1)).flatMap (rawN p (rawF p d))) ≤ evBulk (l.flatMap (rawN p (rawF p d))) := by
          have e : l.flatMap (rawN p (rawF p d)) = (l.take (k + 1)).flatMap (rawN p (rawF p d)) ++ (l.drop (k + 1)).flatMap (rawN p (rawF p d)) := by
            rw [← List.flatMap_append, List.take_append_drop]
          rw [e, evBulk_append]
          omega
        rw [htake, evBulk_append] at h2
        rw [evBulk_append]
        omega
      obtain ⟨hnl, hnt⟩ := hfx.lt (by omega)
      have hbP : evBulk (A ++ (l.take k).flatMap (rawN p (rawF p d))) + bulkF d (l[k]).2.2.1 < 1099511627776 := by
        have h1 := evBulk_take p d l k HNICE.out hlt
        rw [HLB.out] at h1
        have h2 : bulkF d (l[k]).2.2.1 ≤ bulkN (bulkF d) l[k] := by unfold bulkN; omega
        rw [evBulk_append]
        omega
      have HNX : Hid (∀ lv wr ns, FX lo (.slice oa ns0.length oc) w1 (A ++ (l.take k).flatMap (rawN p (rawF p d)) ++ rawN p (rawF p d) l[k]) lv wr ns → FX lo (.slice oa ns0.length oc) w1 (A ++ (l.take (k + 1)).flatMap (rawN p (rawF p d))) lv wr ns) := fun lv wr ns h => by rw [htake, ← List.append_assoc]; exact h
      clear htake
      have hloz : lo ≤ wo.heap.size := by have := hK0.size; omega
      have hkx := (Kept.refl [] wo).alloc (.cells #[.string ⟨(l[k]).1.toArray⟩, .slice aa (l[k]).2.1.length ac, .slice ka (glen d (l[k]).2.2.1) kc, .string ⟨(l[k]).2.2.2.toArray⟩] 42)
      have hnx : Four (wo.alloc (.cells #[.string ⟨(l[k]).1.toArray⟩, .slice aa (l[k]).2.1.length ac, .slice ka (glen d (l[k]).2.2.1) kc, .string ⟨(l[k]).2.2.2.toArray⟩] 42)) wo.heap.size 42 (.string ⟨(l[k]).1.toArray⟩) (.slice aa (l[k]).2.1.length ac) (.slice ka (glen d (l[k]).2.2.1) kc) (.string ⟨(l[k]).2.2.2.toArray⟩) := heap_alloc_new wo _
      generalize A ++ (l.take k).flatMap (rawN p (rawF p d)) = P at *
      generalize l[k] = n at *
      obtain ⟨nm, al, kf, tx⟩ := n
      simp only at r0 r1 r2 r3 hla hlk hbn hkx hnx
      have hlkW := hlk.kept d (hK0.trans hkx)
      have hlaW := hla.kept (hK0.trans hkx)
      obtain ⟨n1, n2, n3⟩ := hni
      simp only at n1 n2 n3
      have hbkf : bulkF d kf ≤ bulkF (d + 1) f := by unfold bulkN at hbn; simp only at hbn; omega
      have hbal : bulkA al ≤ bulkF (d + 1) f := by unfold bulkN at hbn; simp only at hbn; omega
      have hbtx : tx.length ≤ bulkF (d + 1) f := by unfold bulkN at hbn; simp only at hbn; omega
      clear e0 e1 e2 e3 hbn
      generalize hGL : glen d kf = gl at *
      have hpbW : wo.heap[pb]? = some (.cells #[.slice a1 p.1.length c1, .slice a2 p.2.length c2] 33 (0, 0)) := (hfx.kept.block pb hpbl hpbo).trans hpb
      go_upto_region 5 with fail
      generalize hwx : (wo.alloc (.cells #[.string ⟨nm.toArray⟩, .slice aa al.length ac, .slice ka gl kc, .string ⟨tx.toArray⟩] 42)) = w2 at *
      have hxl := hnx.lt
      have hpb2 : w2.heap[pb]? = some (.cells #[.slice a1 p.1.length c1, .slice a2 p.2.length c2] 33 (0, 0)) := (hkx.block pb (Array.getElem?_eq_some_iff.1 hpbW).1 (by simp)).trans hpbW
      clear hwx r0 r1 r2 r3
      generalize hxb : wo.heap.size = xb at *
      obtain ⟨⟨q0, q1, q2, q3⟩, _⟩ := cells4 hnx
      have p0 : w2.cell? ⟨pb, 0, none⟩ = some (.slice a1 p.1.length c1) := by simp [World.cell?, hpb2]
      have p1 : w2.cell? ⟨pb, 1, none⟩ = some (.slice a2 p.2.length c2) := by simp [World.cell?, hpb2]
      by_cases hnm : nm = []
      · subst hnm
        obtain ⟨t1, t2, t3⟩ := n1 rfl
        subst t2
        have hgl0 : gl = 0 := by omega
        subst hgl0
        have hrn : rawN p (rawF p d) ([], [], kf, tx) = [evText tx] := by unfold rawN; rw [if_pos rfl]
        rw [hrn] at HNX
        have hst : ∀ lv' w', w'.ownsRow 0 42 4 lv' (joinR ns (textR tx (.slice aa 0 ac) (.slice ka 0 kc))).length (cellsOf (joinR ns (textR tx (.slice aa 0 ac) (.slice ka 0 kc)))) → Kept (Value.slice la ns.length lc).ownBlock.toList w2 w' → Moved w2 (.slice la ns.length lc) lv' → FX lo (.slice oa ns0.length oc) w1 (A ++ (l.take (k + 1)).flatMap (rawN p (rawF p d))) lv' w' (joinR ns (textR tx (.slice aa 0 ac) (.slice ka 0 kc))) := fun lv' w' h1 h2 h3 => HNX.out _ _ _ (hfx.text (by rw [hxb]; exact hloz) hkx tx t1 aa ka ac kc h1 h2 h3)
        have HST : Hid _ := hst
        clear hst
        have hrow := ownsRow_kept hfx.left.1 hkx (by simp)
        have hxo : (Value.slice la ns.length lc).ownBlock ≠ some xb := fun hc => by have := own_lt hfx.left.1 hc; omega
        rcases List.eq_nil_or_concat ns with hn0 | ⟨ns1, z, hn0⟩
        · subst hn0
          simp only [List.length_nil] at *
          rw [joinR_nil] at HST
          have ej : cellsOf [textR tx (.slice aa 0 ac) (.slice ka 0 kc)] = cellsOf [] ++ [.string ⟨#[]⟩, .slice aa 0 ac, .slice ka 0 kc, .string ⟨tx.toArray⟩] := rfl
          rw [ej] at HST
          clear ej
          go_wp2_with (at_builtin; refine wpList_append_fp _ rfl _ _ 31 rfl 0 42 i0 _ 4 80 Tryz.underlying31 hi hz0 hz1 hz2 rfl (by decide) _ 0 (cellsOf []) rfl ?own _ 1 1 [.string ⟨#[]⟩, .slice aa 0 ac, .slice ka 0 kc, .string ⟨tx.toArray⟩] rfl rfl ?news ?one ?len ?bytes (Nat.zero_le _) ?_)
          case own => exact ownsRow_kept hrow ((Kept.refl [] _).alloc _) (by simp)
          case news => exact new_cells _ [.string ⟨#[]⟩, .slice aa 0 ac, .slice ka 0 kc, .string ⟨tx.toArray⟩] 42
          case one => intro u hu; simp at hu; rcases hu with rfl | rfl | rfl | rfl <;> rfl
          case len => unfold maxLen; omega
          case bytes => omega
          intro v' w' hown hgr hmv
          have hst := HST.out v' w' hown ((((Kept.refl [] w2).alloc _).mono (by simp)).trans (Kept.own hgr)) (hmv.kept ((Kept.refl [] w2).alloc _).size)
          clear hown hgr hmv
          go_wp2_with fail
          go_roundg (l.length - (k + 1))
          case measure => rw [HG.out]; omega
          case rel => exact ⟨k + 1, _, by omega, rfl, by go_num, hst⟩
        · have hn0' : ns = ns1 ++ [z] := by simpa using hn0
          subst hn0'
          clear hn0
          have hl1 : (ns1 ++ [z]).length = ns1.length + 1 := by simp
          rw [hl1] at hrow hxo
          obtain ⟨zg, zc, hzf⟩ := form_pos hrow
          injection hzf with z1 z2 z3
          subst z1 z3
          have hzg := cellsOf_get (ns1 ++ [z]) ns1.length (by simp)
          have hzge : (ns1 ++ [z])[ns1.length]'(by simp) = z := by simp
          rw [hzge] at hzg
          have s0 := row_cell hrow hzg.1
          have s3 := row_cell hrow hzg.2.2.2
          have sf := row_free hrow (ns1.length * 4 + 3)
          have hzi : (ns1.length : Int) < (ns1.length : Int) + 1 := by omega
          have hz0' : (0 : Int) ≤ (ns1.length : Int) := by omega
          have hnb1 : ns1.length < 1099511627776 := by rw [hl1] at hnl; omega
          have hztl := hnt z (by simp)
          by_cases hzn : z.name = []
          · have hzx : ¬ xb = zg := fun e => hxo (by rw [e]; rfl)
            rw [joinR_text ns1 z _ rfl hzn] at HST
            have hl2 : (ns1 ++ [z.withText tx]).length = ns1.length + 1 := by simp
            have hst := HST.out (.slice (some ⟨zg, 0, none⟩) (ns1.length + 1) lc) (w2.setCell ⟨zg, ns1.length * 4 + 3, none⟩ (.string ⟨(z.text ++ tx).toArray⟩)) (by
              show (w2.setCell _ _).ownsRow _ _ _ _ (ns1 ++ [z.withText tx]).length (cellsOf (ns1 ++ [z.withText tx]))
              rw [hl2, ← cellsOf_setText]
              exact own_setCell hrow _ (by rw [cellsOf_length]; simp; omega) _) ((Kept.refl _ _).setCell (.inl (by rw [hl1]; simp [Value.ownBlock])) _) (.inl (by rw [hl1]))
            have hst2 : ∀ m, FX lo (.slice oa ns0.length oc) w1 (A ++ (l.take (k + 1)).flatMap (rawN p (rawF p d))) (.slice (some ⟨zg, 0, none⟩) (ns1.length + 1) lc) ((w2.setCell ⟨zg, ns1.length * 4 + 3, none⟩ (.string ⟨(z.text ++ tx).toArray⟩)).drewN m) (ns1 ++ [z.withText tx]) := fun m => ⟨hst.left.kept ((Kept.refl [] _).drewN _), hst.evs, hst.kept.drewN _, hst.moved⟩
            have HS2 : Hid _ := hst2
            clear hst hst2 hrow hzg hzge
            rw [hl1]
            rw [hzn] at s0
            go_wp2_with fail
            go_region
            go_wp2_with fail
            have eba : (⟨z.text.toArray⟩ : ByteArray) ++ ⟨tx.toArray⟩ = ⟨(z.text ++ tx).toArray⟩ := by rw [ba_append]
            rw [eba]
            go_roundg (l.length - (k + 1))
            case measure => rw [HG.out]; omega
            case rel => exact ⟨k + 1, ns1 ++ [z.withText tx], by omega, rfl, by go_num, by rw [hl2] at *; exact HS2.out 1⟩
          · have hzb : (z.name == []) = false := by simpa using hzn
            rw [joinR_elem ns1 z _ hzn] at HST
            have ej : cellsOf (ns1 ++ [z] ++ [textR tx (.slice aa 0 ac) (.slice ka 0 kc)]) = cellsOf (ns1 ++ [z]) ++ [.string ⟨#[]⟩, .slice aa 0 ac, .slice ka 0 kc, .string ⟨tx.toArray⟩] := by rw [cellsOf_append]; rfl
            have ej2 : (ns1 ++ [z] ++ [textR tx (.slice aa 0 ac) (.slice ka 0 kc)]).length = ns1.length + 1 + 1 := by simp
            have HST2 : Hid (∀ lv' w', w'.ownsRow 0 42 4 lv' (ns1.length + 1 + 1) (cellsOf (ns1 ++ [z]) ++ [.string ⟨#[]⟩, .slice aa 0 ac, .slice ka 0 kc, .string ⟨tx.toArray⟩]) → Kept (Value.slice (some ⟨zg, 0, none⟩) (ns1.length + 1) lc).ownBlock.toList w2 w' → Moved w2 (.slice (some ⟨zg, 0, none⟩) (ns1.length + 1) lc) lv' → FX lo (.slice oa ns0.length oc) w1 (A ++ (l.take (k + 1)).flatMap (rawN p (rawF p d))) lv' w' (ns1 ++ [z] ++ [textR tx (.slice aa 0 ac) (.slice ka 0 kc)])) := fun lv' w' h1 h2 h3 => HST.out lv' w' (by rw [ej, ej2]; exact h1) (by rw [hl1]; exact h2) (by rw [hl1]; exact h3)
            clear HST ej ej2 hzg hzge
            rw [hl1]
            go_wp2_with (at_builtin; refine wpList_append_fp _ rfl _ _ 31 rfl 0 42 i0 _ 4 80 Tryz.underlying31 hi hz0 hz1 hz2 rfl (by decide) _ (ns1.length + 1) (cellsOf (ns1 ++ [z])) rfl ?own _ 1 1 [.string ⟨#[]⟩, .slice aa 0 ac, .slice ka 0 kc, .string ⟨tx.toArray⟩] rfl rfl ?news ?one ?len ?bytes (Nat.zero_le _) ?_)
            case own => exact ownsRow_kept hrow ((Kept.refl [] _).alloc _) (by simp)
            case one => exact ⟨rfl, rfl, rfl, rfl⟩
            case len => unfold maxLen; omega
            case bytes => omega
            intro v' w' hown hgr hmv
            have hst := HST2.out v' w' hown ((((Kept.refl [] w2).alloc _).mono (by simp)).trans (Kept.own hgr)) (hmv.kept ((Kept.refl [] w2).alloc _).size)
            clear hown hgr hmv
            go_wp2_with fail
            go_roundg (l.length - (k + 1))
            case measure => rw [HG.out]; omega
            case rel => exact ⟨k + 1, _, by omega, rfl, by go_num, hst⟩
      · have hnb : (nm == []) = false := by simpa using hnm
        go_wp2_with fail
        refine (rHas _ p.1 nm _ ((HP.out.1.kept (hK0.trans hkx)).1) hp1).mono ?_
        rintro e w3 ⟨rfl, rfl⟩
        generalize hhe : p.1.contains nm = he
        have HHE : Hid _ := hhe
        clear hhe
        go_wp2_with fail
        refine (rIsRaw ⟨nm.toArray⟩ _).mono ?_
        rintro e w4 ⟨rfl, rfl⟩
        obtain ⟨hr, hhr⟩ : ∃ b, decide (kindP nm = 2) = b := ⟨_, rfl⟩
        have hhr' : decide (kindP (⟨nm.toArray⟩ : ByteArray).data.toList = 2) = hr := hhr
        rw [hhr']
        have HHR : Hid _ := hhr
        clear hhr hhr'
        cases he with
        | false =>
          cases hr with
          | true =>
            have hrn : rawN p (rawF p d) (nm, al, kf, tx) = [] := by
              unfold rawN
              rw [if_neg hnm, if_neg (by simp only; rw [HHE.out]; decide), if_pos (by simpa using HHR.out)]
            have hst := HNX.out _ _ _ (by rw [hrn, List.append_nil]; exact ⟨hfx.left.kept hkx, hfx.evs, hfx.kept.trans (hkx.mono (by simp)), hfx.moved⟩)
            have HST : Hid _ := hst
            clear hst
            go_wp2_with fail
            go_roundg (l.length - (k + 1))
            case measure => rw [HG.out]; omega
            case rel => exact ⟨k + 1, ns, by omega, rfl, by go_num, HST.out⟩
          | false =>
            have hrn : rawN p (rawF p d) (nm, al, kf, tx) = rawF p d kf := by
              unfold rawN
              rw [if_neg hnm, if_neg (by simp only; rw [HHE.out]; decide), if_neg (by simpa using HHR.out)]
            have hcall := HIH.out kf (.slice ka gl kc) (.slice la ns.length lc) ns P w0 w4 HP.out hlk n3 (hK0.trans hkx) (by rw [hlz]; exact hfx.left.kept hkx) hfx.evs hbP
            rw [hlz] at hcall
            have hst : ∀ lv' w' ns', FX lo (.slice la ns.length lc) w4 (P ++ rawF p d kf) lv' w' ns' → FX lo (.slice oa ns0.length oc) w1 (A ++ (l.take (k + 1)).flatMap (rawN p (rawF p d))) lv' w' ns' := fun lv' w' ns' hf => HNX.out _ _ _ (by rw [hrn]; exact hfx.step hkx hf.left hf.evs hf.kept hf.moved)
            have HST : Hid _ := hst
            clear hst
            go_wp2_with fail
            refine hcall.mono ?_
            rintro e w5 ⟨lv', ns', rfl, hf5⟩
            obtain ⟨la', lc', rfl⟩ := ownsRow_form hf5.left.1
            have hst := HST.out _ _ _ hf5
            clear hf5
            go_wp2_with fail
            go_roundg (l.length - (k + 1))
            case measure => rw [HG.out]; omega
            case rel => exact ⟨k + 1, ns', by omega, rfl, by go_num, hst⟩
        | true =>
          have hrn : rawN p (rawF p d) (nm, al, kf, tx) = evOpen nm (al.filter (letsAP p)) :: (rawF p d kf ++ [none]) := by
            unfold rawN
            rw [if_neg hnm, if_pos (by simp only; exact HHE.out)]
          have hbk : bulkF d kf < 1099511627776 := by omega
          have HQ : Hid (∀ W, Kept [] w4 W → W.cell? ⟨xb, 0, none⟩ = some (.string ⟨nm.toArray⟩) ∧ W.cell? ⟨xb, 2, none⟩ = some (.slice ka gl kc) ∧ W.cell? ⟨pb, 0, none⟩ = some (.slice a1 p.1.length c1) ∧ W.cell? ⟨pb, 1, none⟩ = some (.slice a2 p.2.length c2)) := fun W hW => ⟨cell_kept hW q0, cell_kept hW q2, cell_kept hW p0, cell_kept hW p1⟩
          have HCALL : Hid (∀ W, Kept [] w4 W → Calls Tryz.prog 99 #[.agg #[.slice a1 p.1.length c1, .slice a2 p.2.length c2], .slice ka gl kc, .slice none 0 0] W fun e w' => ∃ (ya : Option Addr) (yn yc : Nat), e = .returned (.slice ya yn yc) ∧ KidsX w4 W w' (.slice ya yn yc) (rawF p d kf)) := fun W hW => by
            have h1 := HIH.out kf (.slice ka gl kc) (.slice none 0 0) [] [] W W (HP.out.kept ((hK0.trans hkx).trans hW)) (hlkW.kept d hW) n3 (Kept.refl _ _) (LeftX.nil _ _) rfl (by show 0 + _ < _; omega)
            refine h1.mono ?_
            rintro e w' ⟨kv, kns, rfl, hf⟩
            obtain ⟨ya, yc, rfl⟩ := ownsRow_form hf.left.1
            exact ⟨ya, _, yc, rfl, kns, rfl, hf.left, by simpa using hf.evs, hW, hf.kept⟩
          have HY : Hid (∀ w5 v R, KidsX w4 (w4.alloc (.cells #[.string ⟨#[]⟩, .slice none 0 0, .slice none 0 0, .string ⟨#[]⟩] 42)).drew w5 v R → Four w5 w4.heap.size 42 (.string ⟨#[]⟩) (.slice none 0 0) (.slice none 0 0) (.string ⟨#[]⟩)) := fun w5 v R h => by
            obtain ⟨_, _, _, _, _, h2⟩ := h
            exact Four.kept (S := []) (w := (w4.alloc (.cells #[.string ⟨#[]⟩, .slice none 0 0, .slice none 0 0, .string ⟨#[]⟩] 42)).drew) (heap_alloc_new w4 _) h2 (by simp)
          clear hpb2
          go_upto_region 15 with fail
          go_cut [12] from 16 to 121 (fun y wx => ∃ (yb : Nat) (ya : Option Addr) (yn yc : Nat) (fpk : List Nat), y = .pointer (some ⟨yb, 0, none⟩) ∧ YI w4 nm (rawF p d kf) wx yb (.slice ya yn yc) fpk)
          case first =>
           go_region_held3 (fun w' => w'.cell? ⟨xb, 0, none⟩ = some (.string ⟨nm.toArray⟩) ∧ w'.cell? ⟨xb, 2, none⟩ = some (.slice ka gl kc) ∧ w'.cell? ⟨pb, 0, none⟩ = some (.slice a1 p.1.length c1) ∧ w'.cell? ⟨pb, 1, none⟩ = some (.slice a2 p.2.length c2)) (first | exact ⟨s0, s1, s2, s3⟩ | exact HQ.out w4.drew (Kept.refl _ _).drew | exact HQ.out _ ((Kept.refl [] _).alloc _).drew | exact HQ.out _ (hk5.alloc _) | exact HQ.out _ ((((hk5.setCell (.inr (Nat.le_refl _)) _).setCell (.inr (Nat.le_refl _)) _).setCell (.inr (Nat.le_refl _)) _).setCell (.inr (Nat.le_refl _)) _) | fail)
            (first
            | (go_at_call 99; refine (HCALL.out w4.drew (Kept.refl [] _).drew).mono ?_; rintro e w5 ⟨ya, yn, yc, rfl, hkids⟩; have hk5 := hkids.kept; obtain ⟨s0, s1, s2, s3⟩ := HQ.out w5 hk5)
            | (go_at_call 99; refine (HCALL.out (w4.alloc (.cells #[.string ⟨#[]⟩, .slice none 0 0, .slice none 0 0, .string ⟨#[]⟩] 42)).drew ((Kept.refl [] _).alloc _).drew).mono ?_; rintro e w5 ⟨ya, yn, yc, rfl, hkids⟩; have hk5 := hkids.kept; obtain ⟨s0, s1, s2, s3⟩ := HQ.out w5 hk5; have hy5 := HY.out w5 _ _ hkids; obtain ⟨⟨y0, y1, y2, y3⟩, ⟨z0, z1, z2, z3⟩⟩ := cells4 hy5)
            | fail)
           all_goals
            go_wp2_with fail
            go_meet
            case rel =>
              first
                | (obtain ⟨fpk, h⟩ := YI.late (nm := nm) hkids
                   exact ⟨_, _, _, _, fpk, rfl, h⟩)
                | (obtain ⟨fpk, h⟩ := YI.early (nm := nm) hkids hy5
                   exact ⟨_, _, _, _, fpk, rfl, h⟩)
          case rest =>
          obtain ⟨yb, ya, yn, yc, fpk, rfl, hyi⟩ := hcut
          obtain ⟨j0, hj0, jz0, jz1, jz2⟩ := info_parts infoAttr
          have hK4c := hyi.kept
          have hxb4 : xb < w4.heap.size := hxl
          have hpb4 : pb < w4.heap.size := cell_lt p0
          have hlt4 := hyi.lt
          have hybl := hyi.node.lt
          have hwcz := hK4c.size
          have hall : al.length < 1099511627776 := by have := bulkA_lenX al; omega
          have hbx : ∀ a ∈ al, a.2.length < 1099511627776 := fun a ha => by have := bulkA_in al a ha; omega
          have HBX : Hid _ := hbx
          have HLA : Hid _ := hlaW
          have hto : ∀ wi, Kept [yb] wc wi → ∀ (b o : Nat) (u : Value), w4.cell? ⟨b, o, none⟩ = some u → wi.cell? ⟨b, o, none⟩ = some u := fun wi hki b o u hu => by
            have h1 : b < w4.heap.size := cell_lt hu
            exact (hki.cell (p := ⟨b, o, none⟩) (by show b < _; omega) (by simp; omega)).trans (cell_kept hK4c hu)
          have HTO : Hid _ := hto
          have hstr : ∀ wi, Kept [yb] wc wi → StrsAt wi (.slice a2 p.2.length c2) p.2 := fun wi hki => by
            obtain ⟨sa, sc, e, hs⟩ := (HP.out.1.kept (hK0.trans hkx)).2
            refine ⟨sa, sc, e, fun i hi => ?_⟩
            obtain ⟨sg, so, e2, hc⟩ := hs i hi
            exact ⟨sg, so, e2, HTO.out wi hki _ _ _ hc⟩
          have HSTR : Hid _ := hstr
          clear hbx hstr hto
          go_wp2_with fail
          go_loopg [13] al.length (fun gg x13 wi => ∃ (j : Nat) (yv : Value), j ≤ al.length ∧ gg = al.length - j ∧ x13 = .int .i64 (j : Int) ∧ Kept [yb] wc wi ∧ Four wi yb 42 (.string ⟨nm.toArray⟩) yv (.slice ya yn yc) (.string ⟨#[]⟩) ∧ AOwn wi yv ((al.take j).filter (letsAP p)) ∧ ∀ k, yv.ownBlock = some k → wc.heap.size ≤ k)
          case atStart => exact ⟨0, .slice none 0 0, by omega, rfl, rfl, Kept.refl _ _, hyi.node, by simpa using nilA wc, fun k hk => by cases hk⟩
          case round =>
            obtain ⟨j, yv, hjl, hgj, rfl, hki, hfi, hoi, hyn⟩ := hrel
            have HGJ : Hid _ := hgj
            clear hgj
            obtain ⟨yva, yvc, rfl⟩ := ownsRow_form hoi
            have qi1 := HTO.out wr hki _ _ _ q1
            have pi1 := HTO.out wr hki _ _ _ p1
            by_cases hlj : j < al.length
            · have hlj' : (j : Int) < (al.length : Int) := by omega
              have hgej : (0 : Int) ≤ (j : Int) := by omega
              obtain ⟨aa', ac', haE, haC⟩ := HLA.out
              injection haE with ae1 ae2 ae3
              subst ae1 ae3
              obtain ⟨ag, ao, rfl, t0, t1⟩ := haC j hlj
              have ti0 := HTO.out wr hki _ _ _ t0
              have ti1 := HTO.out wr hki _ _ _ t1
              have hax := HBX.out al[j] (List.getElem_mem hlj)
              have htf : (al.take (j + 1)).filter (letsAP p) = (al.take j).filter (letsAP p) ++ [al[j]].filter (letsAP p) := by
                rw [List.take_succ_eq_append_getElem hlj, List.filter_append]
              have hfl : ((al.take j).filter (letsAP p)).length < 1099511627776 := by
                have h1 := List.length_filter_le (letsAP p) (al.take j)
                have h2 : (al.take j).length ≤ al.length := by simp; omega
                omega
              have HTF : Hid _ := htf
              generalize (al.take j).filter (letsAP p) = acc at *
              generalize al[j] = at1 at *
              obtain ⟨an, ax⟩ := at1
              simp only at ti0 ti1 hax
              have HHAS : Hid (∀ m, Calls Tryz.prog 159 #[.slice a2 p.2.length c2, .string ⟨an.toArray⟩] (wr.drewN m) fun e w' => e = .returned (.bool (p.2.contains an)) ∧ w' = wr.drewN m) := fun m => rHas _ p.2 an _ (HSTR.out _ (hki.drewN m)) hp2
              have HAC0 : Hid _ := t0
              have HAC1 : Hid _ := t1
              clear htf t0 t1 haC
              obtain ⟨ha, hha⟩ : ∃ b, p.2.contains an = b := ⟨_, rfl⟩
              rw [hha] at HHAS
              have HHA : Hid _ := hha
              clear hha
              go_wp2_with fail
              go_quiet ((go_at_call 159; exact Calls.quiet_of_same (HHAS.out _)))
              go_wp2_with fail
              refine (rSafe an ax _ (by omega)).mono ?_
              rintro e w7 ⟨rfl, hk7⟩
              obtain ⟨hs, hhs⟩ : ∃ b, (!leadsP an || beginsWellP ax) = b := ⟨_, rfl⟩
              rw [hhs]
              have HHS : Hid _ := hhs
              clear hhs
              have hK7 : Kept [yb] wc w7 := (hki.drewN _).trans (hk7.mono (by simp))
              have hf7 := hfi.kept ((Kept.refl [] wr).drewN nq |>.trans hk7) (by simp)
              have ho7 : AOwn w7 (.slice yva acc.length yvc) acc := ownsRow_kept hoi ((Kept.refl [] wr).drewN nq |>.trans hk7) (by simp)
              clear hk7
              by_cases hb2 : (ha && hs) = true
              · obtain ⟨rfl, rfl⟩ : ha = true ∧ hs = true := by simpa using hb2
                have hfe : [(an, ax)].filter (letsAP p) = [(an, ax)] := by
                  have h1 : letsAP p (an, ax) = true := by
                    unfold letsAP
                    simp only
                    rw [HHA.out, HHS.out]
                    rfl
                  simp [h1]
                rw [hfe] at HTF
                have q7 := HTO.out w7 hK7 _ _ _ q1
                have u0 := HTO.out w7 hK7 _ _ _ (by exact HAC0.out)
                have u1 := HTO.out w7 hK7 _ _ _ (by exact HAC1.out)
                obtain ⟨⟨y0, y1, y2, y3⟩, ⟨z0, z1, z2, z3⟩⟩ := cells4 hf7
                have hyl7 := hf7.lt
                have hybo : yb ∉ (Value.slice yva acc.length yvc).ownBlock.toList := fun hc => by have := hyn yb (by simpa using hc); omega
                have hk8 : Kept [] w7 (w7.alloc (.cells #[.string ⟨an.toArray⟩, .string ⟨ax.toArray⟩] 63)) := (Kept.refl [] w7).alloc _
                have hown8 := ownsRow_kept ho7 hk8 (by simp)
                have hnews := new_cells w7 [.string ⟨an.toArray⟩, .string ⟨ax.toArray⟩] 63
                have hfar' : ∀ w' : World, (w7.alloc (.cells #[.string ⟨an.toArray⟩, .string ⟨ax.toArray⟩] 63)).drew.grownBy w' (Value.slice yva acc.length yvc).ownBlock → Four w' yb 42 (.string ⟨nm.toArray⟩) (.slice yva acc.length yvc) (.slice ya yn yc) (.string ⟨#[]⟩) := fun w' hgr => hf7.kept (hk8.drew.mono (S' := (Value.slice yva acc.length yvc).ownBlock.toList) (by simp) |>.trans (Kept.own hgr)) hybo
                have HFAR : Hid _ := hfar'
                have HF7 : Hid _ := hf7
                have HO7 : Hid _ := ho7
                clear hfar' hf7 ho7 hfi hoi
                go_wp2_with fail
                go_region_law (refine step_append_fp rfl (.tmp 109) (.tmp 115) 40 rfl 0 63 j0 _ 2 32 Tryz.underlying40 hj0 jz0 jz1 jz2 rfl (by decide) (.slice yva acc.length yvc) acc.length (attrCells acc) (by simp [Act.eval]) (by exact hown8) _ 1 1 [.string ⟨an.toArray⟩, .string ⟨ax.toArray⟩] (by simp [Act.eval]; rfl) rfl (by exact hnews) (by simp [Value.oneCell']) (by unfold maxLen; omega) (by omega) (Nat.zero_le _) ?_; intro v' w' hown' hgr' hmv'; obtain ⟨g', cap', rfl⟩ := form_pos hown'; obtain ⟨⟨b0, b1, b2, b3⟩, ⟨d0, d1, d2, d3⟩⟩ := cells4 (HFAR.out w' hgr'))
                all_goals
                  go_wp2_with fail
                  go_roundg (al.length - (j + 1))
                  case measure => rw [HGJ.out]; omega
                  case rel =>
                    have hf9 := HFAR.out w' hgr'
                    have hk9 : Kept [yb] wc w' := hK7.trans_new (hk8.drew.mono (S' := (Value.slice yva acc.length yvc).ownBlock.toList) (by simp) |>.trans (Kept.own hgr')) (fun i hi => .inr (hyn i (by simpa using hi)))
                    have hge' : ∀ k, (Value.slice (some ⟨g', 0, none⟩) (acc.length + 1) cap').ownBlock = some k → wc.heap.size ≤ k := fun k hk => by
                      rcases hmv' with h1 | ⟨k2, h1, h2⟩
                      · exact hyn k (by rw [← h1]; exact hk)
                      · rw [h1] at hk
                        injection hk with e
                        have h3 := hk8.drew.size
                        have h4 := hK7.size
                        omega
                    refine ⟨j + 1, .slice (some ⟨g', 0, none⟩) (acc.length + 1) cap', by omega, rfl, by go_num, hk9.setCell (.inl (by simp)) _, ?_, ?_, hge'⟩
                    · unfold Four at hf9 ⊢
                      simp [World.setCell, Array.getElem?_modify, hf9]
                    · rw [HTF.out]
                      have e2 : (acc ++ [(an, ax)]).length = acc.length + 1 := by simp
                      show World.ownsRow _ _ _ _ _ (acc ++ [(an, ax)]).length _
                      rw [e2, ← attrCells_snoc]
                      refine ownsRow_kept hown' ((Kept.refl [yb] _).setCell (.inl (by simp)) _) (fun k hk => ?_)
                      have := hge' k hk
                      simp
                      omega
              · have hfe : [(an, ax)].filter (letsAP p) = [] := by
                  have h1 : letsAP p (an, ax) = false := by
                    unfold letsAP
                    simp only
                    rw [HHA.out, HHS.out]
                    simpa using hb2
                  simp [h1]
                rw [hfe, List.append_nil] at HTF
                have hcase : ha = false ∨ (ha = true ∧ hs = false) := by
                  cases ha with
                  | false => exact .inl rfl
                  | true =>
                    cases hs with
                    | false => exact .inr ⟨rfl, rfl⟩
                    | true => exact absurd rfl hb2
                clear hb2 hfi hoi
                rcases hcase with rfl | ⟨rfl, rfl⟩
                all_goals
                  go_wp2_with fail
                  go_roundg (al.length - (j + 1))
                  case measure => rw [HGJ.out]; omega
                  case rel => exact ⟨j + 1, .slice yva acc.length yvc, by omega, rfl, by go_num, hK7, hf7, by rw [HTF.out]; exact ho7, hyn⟩
            · have hlj' : ((j : Int) < (al.length : Int)) = False := eq_false (by omega)
              obtain ⟨⟨y0, y1, y2, y3⟩, _⟩ := cells4 hfi
              obtain rfl : j = al.length := by omega
              rw [List.take_length] at hoi
              have hfll : (al.filter (letsAP p)).length ≤ al.length := List.length_filter_le _ _
              have hlenE : (List.filter (letsAP p) (List.take al.length al)).length = (al.filter (letsAP p)).length := by rw [List.take_length]
              rw [hlenE] at *
              have hkW : Kept [] wo wr := (hkx.trans hK4c).trans_new hki (fun i hi => .inr (by simp at hi; rw [hi]; omega))
              have hyok : OkX TreeX wr { name := nm, text := [], av := .slice yva (al.filter (letsAP p)).length yvc, kv := .slice ya yn yc, al := al.filter (letsAP p), ev := mergeE (rawF p d kf), fp := (Value.slice yva (al.filter (letsAP p)).length yvc).ownBlock.toList ++ fpk } :=
                .inr ⟨hnm, rfl, fpk, hoi, hyi.tree.same (fun k hk => hki.block k (hyi.fp k hk).2.1 (by have := (hyi.fp k hk).2.2; simpa using this)), rfl⟩
              have hkz := hki.size
              have hst : ∀ lv' w', w'.ownsRow 0 42 4 lv' (ns.length + 1) (cellsOf ns ++ [.string ⟨nm.toArray⟩, .slice yva (al.filter (letsAP p)).length yvc, .slice ya yn yc, .string ⟨#[]⟩]) → Kept (Value.slice la ns.length lc).ownBlock.toList wr w' → Moved wr (.slice la ns.length lc) lv' → ∃ ns', FX lo (.slice oa ns0.length oc) w1 (A ++ (l.take (k + 1)).flatMap (rawN p (rawF p d))) lv' w' ns' := fun lv' w' h1 h2 h3 => by
                have he := hfx.elem (K := rawF p d kf) (by omega) hkW hyok hnm (fun x hx => by
                  rcases List.mem_append.1 hx with h4 | h4
                  · have h5 : (Value.slice yva (al.filter (letsAP p)).length yvc).ownBlock = some x := by simpa using h4
                    have h6 := hyn x (by rw [List.take_length]; exact h5)
                    exact ⟨by omega, own_lt hoi h5⟩
                  · have h6 := hyi.fp x h4
                    exact ⟨by omega, by omega⟩) rfl (by rw [joinR_name _ _ hnm, cellsOf_append, List.length_append]; exact h1) h2 h3
                rw [joinR_name _ _ hnm] at he
                exact ⟨_, HNX.out _ _ _ (by rw [hrn]; exact he)⟩
              have HST : Hid _ := hst
              have hrow := ownsRow_kept hfx.left.1 hkW (by simp)
              clear hst hyok hfi
              go_wp2_with (at_builtin; refine wpList_append_fp _ rfl _ _ 31 rfl 0 42 i0 _ 4 80 Tryz.underlying31 hi hz0 hz1 hz2 rfl (by decide) _ ns.length (cellsOf ns) rfl ?ownY _ 1 1 [.string ⟨nm.toArray⟩, .slice yva (al.filter (letsAP p)).length yvc, .slice ya yn yc, .string ⟨#[]⟩] rfl rfl ?newsY ?oneY ?lenY ?bytesY (Nat.zero_le _) ?_)
              case ownY => exact ownsRow_kept hrow ((Kept.refl [] _).alloc _) (by simp)
              case oneY => exact ⟨rfl, rfl, rfl, rfl⟩
              case lenY => unfold maxLen; omega
              case bytesY => omega
              intro v' w' hown hgr hmv
              obtain ⟨ns', hst⟩ := HST.out v' w' hown ((((Kept.refl [] wr).alloc _).mono (by simp)).trans (Kept.own hgr)) (hmv.kept ((Kept.refl [] wr).alloc _).size)
              clear hown hgr hmv
              go_wp2_with fail
              go_roundg (l.length - (k + 1))
              case measure => rw [HG.out]; omega
              case rel => exact ⟨k + 1, ns', by omega, rfl, by go_num, hst⟩
    · have hlt' : ((k : Int) < (l.length : Int)) = False := eq_false (by omega)
      have htk : l.take k = l := List.take_of_length_le (by omega)
      rw [htk] at hfx
      have hfin := HPOST.out _ _ _ hfx
      have HFIN : Hid _ := hfin
      clear hfin hfx
      go_wp2_with fail
      go_ret
      exact HFIN.out
theorem rFilter_any (ev av : Value) (p : Pol) : ∀ d, RFilterOk ev av p d
  | 0 => rFilter_zero ev av p
  | d + 1 => rFilter_succ ev av p d (rFilter_any ev av p d)
end Go.Proofs.YtlpmjpmefdpcmaaGreatDoor
