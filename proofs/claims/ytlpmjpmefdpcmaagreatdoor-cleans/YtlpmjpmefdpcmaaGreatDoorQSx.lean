import Derived.Test.YtlpmjpmefdpcmaaGreatDoorQCl3
import Derived.Test.YtlpmjpmefdpcmaaGreatDoorQLies
import Derived.Test.YtlpmjpmefdpcmaaGreatDoorQCln
import Derived.Test.YtlpmjpmefdpcmaaGreatDoorQSd
import Derived.Test.YtlpmjpmefdpcmaaGreatDoorQSf
import Derived.Test.YtlpmjpmefdpcmaaGreatDoorQCl7
/- Trees whose texts hold whatever empty lists: what the reference's filter makes. No function of the program in it. -/
namespace Go.Proofs.YtlpmjpmefdpcmaaGreatDoor
open Go.RowKit Scrub Go.Shelf
/-- Is it what it stands for, its kids by R? A text's own lists are empty, wherever they point. -/
def OkX (R : World → Value → List Ev → List Nat → Prop) (w : World) (n : NodeR) : Prop :=
  (n.name = [] ∧ n.text ≠ [] ∧ n.al = [] ∧ n.ev = [] ∧ n.fp = [] ∧ (∃ a c, n.av = .slice a 0 c) ∧ ∃ a c, n.kv = .slice a 0 c) ∨
  (n.name ≠ [] ∧ n.text = [] ∧ ∃ kfp, AOwn w n.av n.al ∧ R w n.kv n.ev kfp ∧ n.fp = n.av.ownBlock.toList ++ kfp)
def RepX : Nat → World → Value → List Ev → List Nat → Prop
  | 0, _, v, ev, fp => v = .slice none 0 0 ∧ ev = [] ∧ fp = []
  | d + 1, w, v, ev, fp => ∃ ns : List NodeR, w.ownsRow 0 42 4 v ns.length (cellsOf ns) ∧ (∀ n ∈ ns, OkX (RepX d) w n) ∧ ev = evsOf ns ∧ fp = v.ownBlock.toList ++ fpOf ns
theorem OkX.same {R : World → Value → List Ev → List Nat → Prop} {w w' : World} (hR : ∀ v ev fp, R w v ev fp → (∀ k, k ∈ fp → w'.heap[k]? = w.heap[k]?) → R w' v ev fp) {n : NodeR} (h : OkX R w n) (hs : ∀ k, k ∈ n.fp → w'.heap[k]? = w.heap[k]?) : OkX R w' n := by
  rcases h with h | ⟨a, b, kfp, h1, h2, h3⟩
  · exact .inl h
  · exact .inr ⟨a, b, kfp, ownsRow_same h1 (fun k hk => hs k (by rw [h3, hk]; simp)), hR _ _ _ h2 (fun k hk => hs k (by rw [h3]; simp [hk])), h3⟩
theorem RepX.same : ∀ (d : Nat) {w w' : World} (v : Value) (ev : List Ev) (fp : List Nat), RepX d w v ev fp → (∀ k, k ∈ fp → w'.heap[k]? = w.heap[k]?) → RepX d w' v ev fp
  | 0, _, _, _, _, _, h, _ => h
  | d + 1, w, w', v, ev, fp, h, hs => by
    obtain ⟨ns, h1, h2, h3, h4⟩ := h
    refine ⟨ns, ownsRow_same h1 (fun k hk => hs k (by rw [h4, hk]; simp)), fun n hn => ?_, h3, h4⟩
    exact (h2 n hn).same (fun v ev fp hr hs' => RepX.same d v ev fp hr hs') (fun k hk => hs k (by rw [h4]; exact List.mem_append.2 (.inr (mem_fpOf hn hk))))
theorem OkX.mono {R R' : World → Value → List Ev → List Nat → Prop} {w : World} (hR : ∀ v ev fp, R w v ev fp → R' w v ev fp) {n : NodeR} (h : OkX R w n) : OkX R' w n := by
  rcases h with h | ⟨a, b, kfp, h1, h2, h3⟩
  · exact .inl h
  · exact .inr ⟨a, b, kfp, h1, hR _ _ _ h2, h3⟩
theorem RepX.succ : ∀ (d : Nat) {w : World} (v : Value) (ev : List Ev) (fp : List Nat), RepX d w v ev fp → RepX (d + 1) w v ev fp
  | 0, w, v, ev, fp, h => by
    obtain ⟨rfl, rfl, rfl⟩ := h
    exact ⟨[], World.ownsRow_nil _ _ _ _, by simp, rfl, rfl⟩
  | d + 1, w, v, ev, fp, h => by
    obtain ⟨ns, h1, h2, h3, h4⟩ := h
    exact ⟨ns, h1, fun n hn => (h2 n hn).mono (fun v ev fp hr => RepX.succ d v ev fp hr), h3, h4⟩
theorem RepX.le {d d' : Nat} (hd : d ≤ d') {w : World} {v : Value} {ev : List Ev} {fp : List Nat} (h : RepX d w v ev fp) : RepX d' w v ev fp := by
  induction hd with
  | refl => exact h
  | step _ ih => exact RepX.succ _ _ _ _ ih
def TreeX (w : World) (v : Value) (ev : List Ev) (fp : List Nat) : Prop := ∃ d, RepX d w v ev fp
theorem TreeX.same {w w' : World} {v : Value} {ev : List Ev} {fp : List Nat} (h : TreeX w v ev fp) (hs : ∀ k, k ∈ fp → w'.heap[k]? = w.heap[k]?) : TreeX w' v ev fp := by
  obtain ⟨d, h⟩ := h
  exact ⟨d, RepX.same d _ _ _ h hs⟩
theorem TreeX.nil (w : World) : TreeX w (.slice none 0 0) [] [] := ⟨0, rfl, rfl, rfl⟩
theorem TreeX.mk {w : World} {v : Value} {ns : List NodeR} (h1 : w.ownsRow 0 42 4 v ns.length (cellsOf ns)) (h2 : ∀ n ∈ ns, OkX TreeX w n) : TreeX w v (evsOf ns) (v.ownBlock.toList ++ fpOf ns) := by
  have hd : ∀ l : List NodeR, (∀ n ∈ l, OkX TreeX w n) → ∃ d, ∀ n ∈ l, OkX (RepX d) w n := by
    intro l
    induction l with
    | nil => intro _; exact ⟨0, by simp⟩
    | cons a t ih =>
      intro h
      obtain ⟨d1, hd1⟩ := ih (fun n hn => h n (List.mem_cons_of_mem _ hn))
      rcases h a List.mem_cons_self with ha | ⟨b1, b2, kfp, a1, ⟨d2, a2⟩, a3⟩
      · refine ⟨d1, fun n hn => ?_⟩
        rcases List.mem_cons.1 hn with rfl | hn
        · exact .inl ha
        · exact hd1 n hn
      · refine ⟨max d1 d2, fun n hn => ?_⟩
        rcases List.mem_cons.1 hn with rfl | hn
        · exact .inr ⟨b1, b2, kfp, a1, a2.le (Nat.le_max_right _ _), a3⟩
        · exact (hd1 n hn).mono (fun v ev fp hr => hr.le (Nat.le_max_left _ _))
  obtain ⟨d, hd⟩ := hd ns h2
  exact ⟨d + 1, ns, h1, hd, rfl, rfl⟩
theorem OkX.keep {w w' : World} {n : NodeR} (h : OkX TreeX w n) (hs : ∀ k, k ∈ n.fp → w'.heap[k]? = w.heap[k]?) : OkX TreeX w' n := h.same (fun _ _ _ hr hs' => hr.same hs') hs
theorem OkX.text {w : World} {z : NodeR} (h : OkX TreeX w z) (hz : z.name = []) (t : List UInt8) : OkX TreeX w (z.withText t) := by
  rcases h with ⟨h1, h2, h3⟩ | ⟨h1, _⟩
  · refine .inl ⟨h1, fun hc => ?_, h3⟩
    simp [NodeR.withText] at hc
    exact h2 hc.1
  · exact absurd hz h1
def LeftX (lo : Nat) (w : World) (v : Value) (ns : List NodeR) : Prop :=
  w.ownsRow 0 42 4 v ns.length (cellsOf ns) ∧ (∀ n ∈ ns, OkX TreeX w n) ∧ (∀ k, v.ownBlock = some k → lo ≤ k) ∧ ∀ n ∈ ns, ∀ k ∈ n.fp, (lo ≤ k ∧ k < w.heap.size) ∧ v.ownBlock ≠ some k
theorem LeftX.nil (lo : Nat) (w : World) : LeftX lo w (.slice none 0 0) [] := ⟨World.ownsRow_nil _ _ _ _, by simp, by simp [Value.ownBlock], by simp⟩
theorem LeftX.same {lo : Nat} {w w' : World} {v : Value} {ns : List NodeR} (h : LeftX lo w v ns) (hz : w.heap.size ≤ w'.heap.size) (hs : ∀ k, lo ≤ k → k < w.heap.size → w'.heap[k]? = w.heap[k]?) : LeftX lo w' v ns := by
  obtain ⟨h1, h2, h3, h4⟩ := h
  refine ⟨ownsRow_same h1 (fun k hk => hs k (h3 k hk) (own_lt h1 hk)), fun n hn => (h2 n hn).keep (fun k hk => hs k (h4 n hn k hk).1.1 (h4 n hn k hk).1.2), h3, fun n hn k hk => ⟨⟨(h4 n hn k hk).1.1, Nat.lt_of_lt_of_le (h4 n hn k hk).1.2 hz⟩, (h4 n hn k hk).2⟩⟩
theorem LeftX.kept {lo : Nat} {w w' : World} {v : Value} {ns : List NodeR} (h : LeftX lo w v ns) (hk : Kept [] w w') : LeftX lo w' v ns := h.same hk.size (fun k _ hl => hk.block k hl (by simp))
theorem LeftX.tree {lo : Nat} {w : World} {v : Value} {ns : List NodeR} (h : LeftX lo w v ns) : TreeX w v (evsOf ns) (v.ownBlock.toList ++ fpOf ns) := TreeX.mk h.1 h.2.1
/-- A node more. -/
theorem LeftX.join {lo : Nat} {w w' : World} {v v' : Value} {ns : List NodeR} {x : NodeR} (h : LeftX lo w v ns) (hlo : lo ≤ w.heap.size) (hx : OkX TreeX w x) (hf : ∀ k ∈ x.fp, (lo ≤ k ∧ k < w.heap.size) ∧ v.ownBlock ≠ some k)
    (hr : w'.ownsRow 0 42 4 v' (joinR ns x).length (cellsOf (joinR ns x))) (hm : Moved w v v') (hk : Kept v.ownBlock.toList w w') : LeftX lo w' v' (joinR ns x) := by
  obtain ⟨h1, h2, h3, h4⟩ := h
  have hmem : ∀ n ∈ joinR ns x, (OkX TreeX w n) ∧ ∀ k ∈ n.fp, (lo ≤ k ∧ k < w.heap.size) ∧ v.ownBlock ≠ some k := by
    intro n hn
    rcases List.eq_nil_or_concat ns with h0 | ⟨l, z, h0⟩
    · subst h0
      rw [joinR_nil] at hn
      simp at hn
      subst hn
      exact ⟨hx, hf⟩
    · have h0' : ns = l ++ [z] := by simpa using h0
      subst h0'
      by_cases hz : x.name = [] ∧ z.name = []
      · rw [joinR_text l z x hz.1 hz.2] at hn
        rcases List.mem_append.1 hn with hn | hn
        · exact ⟨h2 n (by simp [hn]), h4 n (by simp [hn])⟩
        · simp at hn
          subst hn
          exact ⟨(h2 z (by simp)).text hz.2 _, h4 z (by simp)⟩
      · have e : joinR (l ++ [z]) x = l ++ [z] ++ [x] := by
          by_cases h5 : z.name = []
          · exact joinR_name _ _ (fun e => hz ⟨e, h5⟩)
          · exact joinR_elem l z x h5
        rw [e] at hn
        rcases List.mem_append.1 hn with hn | hn
        · exact ⟨h2 n hn, h4 n hn⟩
        · simp at hn
          subst hn
          exact ⟨hx, hf⟩
  have hsz := hk.size
  refine ⟨hr, fun n hn => (hmem n hn).1.keep (fun k hkf => hk.block k ((hmem n hn).2 k hkf).1.2 ?_), fun k hk' => ?_, fun n hn k hkf => ?_⟩
  · intro hc
    have := ((hmem n hn).2 k hkf).2
    cases ho : v.ownBlock with
    | none => rw [ho] at hc; simp at hc
    | some b =>
      rw [ho] at hc this
      simp at hc
      exact this (by rw [hc])
  · rcases hm with hm | ⟨b, hm, hb⟩
    · exact h3 k (hm ▸ hk')
    · rw [hm] at hk'
      have : b = k := by simpa using hk'
      omega
  · obtain ⟨⟨g1, g2⟩, g3⟩ := (hmem n hn).2 k hkf
    refine ⟨⟨g1, by omega⟩, ?_⟩
    rcases hm with hm | ⟨b, hm, hb⟩
    · rw [hm]
      exact g3
    · rw [hm]
      intro hc
      have : b = k := by simpa using hc
      omega
/-- Such a tree lies there, to be read. -/
theorem RepX.lies : ∀ (d : Nat) {w : World} {v : Value} {ev : List Ev} {fp : List Nat}, RepX d w v ev fp → ∃ f : GF d, Lies d w v f ∧ evF d f = ev ∧ niceF d f
  | 0, _, _, _, _, h => by
    obtain ⟨rfl, rfl, rfl⟩ := h
    exact ⟨(), ⟨none, 0, rfl⟩, rfl, trivial⟩
  | d + 1, w, v, ev, fp, h => by
    obtain ⟨ns, h1, h2, h3, h4⟩ := h
    have hk : ∀ n : NodeR, OkX (RepX d) w n → ∃ k : GF d, Lies d w n.kv k ∧ evF d k = n.ev ∧ niceF d k ∧ (n.name = [] → glen d k = 0) := by
      intro n hn
      rcases hn with ⟨_, _, _, e, _, _, a, c, hkv⟩ | ⟨b0, _, kfp, _, b, _⟩
      · cases d with
        | zero => exact ⟨(), ⟨a, c, hkv⟩, e.symm, trivial, fun _ => rfl⟩
        | succ d => exact ⟨([] : List (GN d)), ⟨a, c, hkv, fun i hi => absurd hi (by simp [gnodes])⟩, e.symm, (fun n hn => absurd hn (by simp [gnodes])), fun _ => rfl⟩
      · obtain ⟨k, k1, k2, k3⟩ := RepX.lies d b
        exact ⟨k, k1, k2, k3, fun hc => absurd hc b0⟩
    have hA : ∀ n : NodeR, OkX (RepX d) w n → LiesA w n.av n.al := by
      intro n hn
      rcases hn with ⟨_, _, e, _, _, ⟨a, c, hav⟩, _⟩ | ⟨_, _, kfp, b, _, _⟩
      · rw [hav, e]
        exact ⟨a, c, rfl, fun i hi => absurd hi (by simp)⟩
      · exact AOwn.lies b
    have hall : ∀ l : List NodeR, (∀ n ∈ l, OkX (RepX d) w n) → ∃ gl : List (GN d), gl.length = l.length ∧ (∀ i (h : i < l.length) (h' : i < gl.length), (gl[i]).1 = (l[i]).name ∧ (gl[i]).2.1 = (l[i]).al ∧ (gl[i]).2.2.2 = (l[i]).text ∧ Lies d w (l[i]).kv (gl[i]).2.2.1) ∧ gl.flatMap (evN (evF d)) = evsOf l ∧ ∀ n ∈ gl, niceN (niceF d) n := by
      intro l
      induction l with
      | nil => intro _; exact ⟨[], rfl, by simp, rfl, by simp⟩
      | cons a t ih =>
        intro hl
        obtain ⟨gl, g1, g2, g3, g4⟩ := ih (fun n hn => hl n (List.mem_cons_of_mem _ hn))
        obtain ⟨k, k1, k2, k3, k4⟩ := hk a (hl a List.mem_cons_self)
        have hoa := hl a List.mem_cons_self
        refine ⟨(a.name, a.al, k, a.text) :: gl, by simp [g1], ?_, ?_, ?_⟩
        · intro i h h'
          cases i with
          | zero => exact ⟨rfl, rfl, rfl, k1⟩
          | succ i => exact g2 i (by simpa using h) (by simpa using h')
        · have e : evsOf (a :: t) = a.evs ++ evsOf t := by simp [evsOf]
          rw [e, List.flatMap_cons, g3]
          congr 1
          simp [evN, NodeR.evs, k2]
        · intro n hn
          rcases List.mem_cons.1 hn with rfl | hn
          · refine ⟨fun h0 => ?_, fun h0 => ?_, k3⟩
            · rcases hoa with ⟨_, c1, c2, _⟩ | ⟨c0, _⟩
              · exact ⟨c1, c2, k4 h0⟩
              · exact absurd h0 c0
            · rcases hoa with ⟨c0, _⟩ | ⟨_, c1, _⟩
              · exact absurd c0 h0
              · exact c1
          · exact g4 n hn
    obtain ⟨gl, g1, g2, g3, g4⟩ := hall ns h2
    refine ⟨gl, ?_, by rw [h3]; exact g3, g4⟩
    obtain ⟨a, c, rfl⟩ := ownsRow_form h1
    refine ⟨a, c, ?_, fun i hi => ?_⟩
    · show _ = Value.slice a gl.length c
      rw [g1]
    · have hi' : i < ns.length := by rw [← g1]; exact hi
      rcases h1.2 with ⟨_, h0⟩ | ⟨g, cap, cur, hv, _⟩
      · omega
      · injection hv with e1 e2 e3
        subst e1 e3
        obtain ⟨q1, q2, q3, q4⟩ := g2 i hi' hi
        obtain ⟨c0, c1, c2, c3⟩ := cellsOf_get ns i hi'
        refine ⟨g, 0, rfl, ns[i].av, ns[i].kv, ?_, ?_, ?_, ?_, ?_, ?_⟩
        · show w.cell? _ = some (.string ⟨(gl[i]).1.toArray⟩)
          rw [q1, Nat.zero_add]
          exact row_cell h1 c0
        · rw [Nat.zero_add]
          exact row_cell h1 c1
        · rw [Nat.zero_add]
          exact row_cell h1 c2
        · show w.cell? _ = some (.string ⟨(gl[i]).2.2.2.toArray⟩)
          rw [q3, Nat.zero_add]
          exact row_cell h1 c3
        · show LiesA w _ (gl[i]).2.1
          rw [q2]
          exact hA _ (h2 ns[i] (List.getElem_mem hi'))
        · exact q4
end Go.Proofs.YtlpmjpmefdpcmaaGreatDoor
/- The reference: what a policy lets by. -/
namespace Go.Proofs.YtlpmjpmefdpcmaaGreatDoor
open Go.RowKit Scrub Go.Shelf
set_option maxHeartbeats 1000000 in
theorem rHas (v : Value) (l : List (List UInt8)) (s : List UInt8) (w : World) (h : StrsAt w v l) (hl : l.length ≤ 1099511627776) :
    Calls Tryz.prog 159 #[v, .string ⟨s.toArray⟩] w fun e w' => e = .returned (.bool (l.contains s)) ∧ w' = w := by
  obtain ⟨a, c, rfl, hc⟩ := h
  have HC : Hid _ := hc
  clear hc
  go_enter Tryz.func159, Tryz.ntmps159
  go_wp2_with fail
  go_loopg [5] l.length (fun g x wr => ∃ k : Nat, k ≤ l.length ∧ g = l.length - k ∧ x = .int .i64 (k : Int) ∧ wr = w ∧ s ∉ l.take k)
  case atStart => exact ⟨0, by omega, rfl, rfl, rfl, by simp⟩
  case round =>
    obtain ⟨k, hk, hgk, rfl, rfl, hno⟩ := hrel
    have HG : Hid _ := hgk
    have HNO : Hid _ := hno
    clear hgk hno
    by_cases hlt : k < l.length
    · have hlt' : (k : Int) < (l.length : Int) := by omega
      have hge : (0 : Int) ≤ (k : Int) := by omega
      obtain ⟨g, o, rfl, c0⟩ := HC.out k hlt
      by_cases heq : s = l[k]
      · have hmem : s ∈ l := heq ▸ List.getElem_mem hlt
        rw [← heq] at c0
        go_wp2_with fail
        go_ret
        exact ⟨by simp [hmem], rfl⟩
      · have hstep := not_mem_take hlt HNO.out heq
        have HST : Hid _ := hstep
        clear hstep
        go_wp2_with fail
        · rename_i h
          exact absurd (by simpa using h : l[k] = s).symm heq
        · go_roundg (l.length - (k + 1))
          case measure => rw [HG.out]; omega
          case rel => exact ⟨k + 1, by omega, rfl, rfl, rfl, HST.out⟩
    · have hlt' : ((k : Int) < (l.length : Int)) = False := by simp; omega
      go_wp2_with fail
      go_ret
      have e : l.take k = l := List.take_of_length_le (by omega)
      have h := HNO.out
      rw [e] at h
      exact ⟨by simp; exact h, rfl⟩
def begP (k : Nat) : List UInt8 := [[104, 116, 116, 112, 58], [104, 116, 116, 112, 115, 58], [47], [35]].getD k []
theorem begP_size : ∀ k, k < 4 → (begP k).length ≤ 6 := by decide
theorem begWell_iff (v : List UInt8) : beginsWellP v = true ↔ ∃ k, k < 4 ∧ List.isPrefixOf (begP k) v = true := by
  unfold beginsWellP
  constructor
  · intro h
    simp only [List.any_cons, List.any_nil, Bool.or_false, Bool.or_eq_true] at h
    rcases h with h | h | h | h
    · exact ⟨0, by omega, h⟩
    · exact ⟨1, by omega, h⟩
    · exact ⟨2, by omega, h⟩
    · exact ⟨3, by omega, h⟩
  · rintro ⟨k, hk, h⟩
    simp only [List.any_cons, List.any_nil, Bool.or_false, Bool.or_eq_true]
    have hc : k = 0 ∨ k = 1 ∨ k = 2 ∨ k = 3 := by omega
    rcases hc with rfl | rfl | rfl | rfl
    · exact .inl h
    · exact .inr (.inl h)
    · exact .inr (.inr (.inl h))
    · exact .inr (.inr (.inr h))
set_option maxRecDepth 100000 in
set_option maxHeartbeats 4000000 in
theorem rSafe (n x : List UInt8) (w : World) (hx : x.length ≤ 1099511627776) :
    Calls Tryz.prog 160 #[.agg #[.string ⟨n.toArray⟩, .string ⟨x.toArray⟩]] w fun e w' => e = .returned (.bool (!leadsP n || beginsWellP x)) ∧ Kept [] w w' := by
  obtain ⟨R, hR⟩ : ∃ R, (!leadsP n || beginsWellP x) = R := ⟨_, rfl⟩
  rw [hR]
  obtain ⟨b1, hb1⟩ : ∃ b, (n == [104, 114, 101, 102]) = b := ⟨_, rfl⟩
  obtain ⟨b2, hb2⟩ : ∃ b, (n == [115, 114, 99]) = b := ⟨_, rfl⟩
  have hl : leadsP n = (b1 || b2) := by unfold leadsP; rw [hb1, hb2]
  rw [hl] at hR
  have HR : Hid _ := hR
  clear hR hl
  have hxs : (⟨x.toArray⟩ : ByteArray).size = x.length := by rw [← ByteArray.size_data]; simp
  have hd1 : (n != [104, 114, 101, 102]) = !b1 := by show (!(n == _)) = _; rw [hb1]
  have hd2 : (n != [115, 114, 99]) = !b2 := by show (!(n == _)) = _; rw [hb2]
  by_cases hb : (b1 || b2) = true
  · have HR2 : Hid (beginsWellP x = R) := by show _ = _; rw [← HR.out, hb]; rfl
    clear HR
    have hgo : (b1 = true ∨ (b1 = false ∧ b2 = true)) := by cases b1 <;> cases b2 <;> simp_all
    clear hb
    rcases hgo with rfl | ⟨rfl, rfl⟩
    all_goals
      go_enter Tryz.func160, Tryz.ntmps160
      go_wp2_with fail
      go_loopg [4] 4 (fun g i wr => ∃ k : Nat, k ≤ 4 ∧ g = 4 - k ∧ i = .int .i64 (k : Int) ∧ Kept [] w wr ∧ Two wr w.heap.size (.string ⟨n.toArray⟩) (.string ⟨x.toArray⟩) ∧ wr.heap[w.heap.size + 1]? = some (.cells #[.string ⟨(begP 0).toArray⟩, .string ⟨(begP 1).toArray⟩, .string ⟨(begP 2).toArray⟩, .string ⟨(begP 3).toArray⟩] 9 (0, 0)) ∧ ∀ j, j < k → List.isPrefixOf (begP j) x = false)
      case atStart =>
        have e : (w.alloc (.cells #[.string ⟨n.toArray⟩, .string ⟨x.toArray⟩] 63)).heap.size = w.heap.size + 1 := by simp
        have h2 := heap_alloc_new (w.alloc (.cells #[.string ⟨n.toArray⟩, .string ⟨x.toArray⟩] 63)) (.cells #[.string ⟨(begP 0).toArray⟩, .string ⟨(begP 1).toArray⟩, .string ⟨(begP 2).toArray⟩, .string ⟨(begP 3).toArray⟩] 9)
        rw [e] at h2
        exact ⟨0, by omega, by omega, rfl, ((Kept.refl _ _).alloc _).alloc _, Two.kept (heap_alloc_new w _) ((Kept.refl [] _).alloc _) (by simp), h2, fun j hj => by omega⟩
      case round =>
        obtain ⟨k, hk4, hgk, rfl, hkept, htwo, hbg, hno⟩ := hrel
        have HG : Hid _ := hgk
        have HNO : Hid _ := hno
        have HBG : Hid _ := hbg
        clear hgk hno
        by_cases hlk : k < 4
        · have hlk' : (k : Int) < 4 := by omega
          have hge : (0 : Int) ≤ (k : Int) := by omega
          have hcell : wr.cell? ⟨w.heap.size + 1, k, none⟩ = some (.string ⟨(begP k).toArray⟩) := by
            have hc : k = 0 ∨ k = 1 ∨ k = 2 ∨ k = 3 := by omega
            rcases hc with rfl | rfl | rfl | rfl <;> simp [World.cell?, hbg]
          obtain ⟨q0, q1, _, _⟩ := htwo.cells
          have hbs : (⟨(begP k).toArray⟩ : ByteArray).size ≤ 1099511627776 := by
            have h1 := begP_size k hlk
            rw [← ByteArray.size_data]
            simp
            omega
          obtain ⟨b, hb⟩ : ∃ b, List.isPrefixOf (begP k) x = b := ⟨_, rfl⟩
          have HAT : Hid (∀ W, Calls Tryz.prog 142 #[.string ⟨x.toArray⟩, .int .i64 0, .string ⟨(begP k).toArray⟩] W fun e w' => e = .returned (.bool b) ∧ w' = W) := fun W => by
            have := rAt ⟨x.toArray⟩ ⟨(begP k).toArray⟩ 0 W (by rw [hxs]; exact hx) hbs (Nat.zero_le _)
            have e : List.isPrefixOf (⟨(begP k).toArray⟩ : ByteArray).data.toList ((⟨x.toArray⟩ : ByteArray).data.toList.drop 0) = b := by simpa using hb
            rw [e] at this
            exact this
          have HB : Hid _ := hb
          clear hbg hb
          go_wp2_with fail
          go_quiet ((go_at_call 142; exact Calls.quiet_of_same (HAT.out _)))
          cases b with
          | true =>
            go_wp2_with fail
            go_ret
            exact ⟨ret_b (by rw [← HR2.out]; exact ((begWell_iff x).2 ⟨k, hlk, HB.out⟩).symm), hkept.drewN _⟩
          | false =>
            go_wp2_with fail
            go_roundg (4 - (k + 1))
            case measure => rw [HG.out]; omega
            case rel =>
              refine ⟨k + 1, by omega, rfl, by go_num, hkept.drewN _, htwo, HBG.out, fun j hj => ?_⟩
              by_cases e : j = k
              · rw [e]; exact HB.out
              · exact HNO.out j (by omega)
        · have hlk' : ((k : Int) < 4) = False := eq_false (by omega)
          go_wp2_with fail
          go_ret
          refine ⟨ret_b ?_, hkept⟩
          rw [← HR2.out]
          cases hh : beginsWellP x with
          | false => rfl
          | true =>
            obtain ⟨j, hj, h1⟩ := (begWell_iff x).1 hh
            rw [HNO.out j (by omega)] at h1
            cases h1
  · obtain ⟨rfl, rfl⟩ : b1 = false ∧ b2 = false := by
      revert hb
      cases b1 <;> cases b2 <;> decide
    go_enter Tryz.func160, Tryz.ntmps160
    go_wp2_with fail
    go_ret
    exact ⟨ret_b (by rw [← HR.out]; rfl), (Kept.refl _ _).alloc _⟩
end Go.Proofs.YtlpmjpmefdpcmaaGreatDoor
/- The reference's filter: what it leaves, in memory. No function of the program in it. -/
namespace Go.Proofs.YtlpmjpmefdpcmaaGreatDoor
open Go.RowKit Scrub Go.Shelf
/-- What a policy must be for the filter. -/
def PreR (ev av : Value) (p : Pol) (w : World) : Prop := PolAt w ev av p ∧ p.1.length ≤ 1099511627776 ∧ p.2.length ≤ 1099511627776
theorem PreR.kept {ev av : Value} {p : Pol} {w w' : World} (h : PreR ev av p w) (hk : Kept [] w w') : PreR ev av p w' := ⟨h.1.kept hk, h.2⟩
/-- The list so far: all of its own made behind lo; the events A of it. -/
structure FX (lo : Nat) (out0 : Value) (w1 : World) (A : List Ev) (lv : Value) (wr : World) (ns : List NodeR) : Prop where
  left : LeftX lo wr lv ns
  evs : evsOf ns = mergeE A
  kept : Kept out0.ownBlock.toList w1 wr
  moved : Moved w1 out0 lv
theorem moved_trans {w w1 : World} {a b c : Value} (h : Moved w a b) (hz : w.heap.size ≤ w1.heap.size) (h' : Moved w1 b c) : Moved w a c := by
  rcases h' with h1 | ⟨k, h1, h2⟩
  · rcases h with h3 | ⟨j, h3, h4⟩
    · exact .inl (h1.trans h3)
    · exact .inr ⟨j, h1.trans h3, h4⟩
  · exact .inr ⟨k, h1, by omega⟩
/-- What the filter answers. -/
def FPostX (lo : Nat) (p : Pol) (d : Nat) (f : GF d) (A : List Ev) (out : Value) (w : World) (e : Ending) (w' : World) : Prop :=
  ∃ out' ns', e = .returned out' ∧ FX lo out w (A ++ rawF p d f) out' w' ns'
def RFilterOk (ev av : Value) (p : Pol) (d : Nat) : Prop := ∀ (f : GF d) (v out : Value) (ns : List NodeR) (A : List Ev) (w0 w : World), PreR ev av p w0 → Lies d w0 v f → niceF d f → Kept [] w0 w → LeftX w0.heap.size w out ns → evsOf ns = mergeE A → evBulk A + bulkF d f < 1099511627776 →
  Calls Tryz.prog 99 #[.agg #[ev, av], v, out] w (FPostX w0.heap.size p d f A out w)
/-- One step of the list: its own row alone is written. -/
theorem FX.step {lo : Nat} {out0 : Value} {w1 : World} {A B : List Ev} {lv lv' : Value} {wr wr1 w' : World} {ns ns' : List NodeR} (h : FX lo out0 w1 A lv wr ns) (hk1 : Kept [] wr wr1) (hl : LeftX lo w' lv' ns') (he : evsOf ns' = mergeE B) (hk : Kept lv.ownBlock.toList wr1 w') (hm : Moved wr1 lv lv') : FX lo out0 w1 B lv' w' ns' := by
  have hz := h.kept.size
  have hz1 := hk1.size
  refine ⟨hl, he, ?_, moved_trans h.moved (by omega) hm⟩
  refine (h.kept.trans (hk1.mono (by simp))).trans_new hk (fun i hi => ?_)
  have hi' : lv.ownBlock = some i := by simpa using hi
  rcases h.moved with h1 | ⟨k, h1, h2⟩
  · exact .inl (by rw [← h1, hi']; simp)
  · rw [hi'] at h1
    injection h1 with e
    exact .inr (by omega)
theorem FX.lt {lo : Nat} {out0 : Value} {w1 : World} {A : List Ev} {lv : Value} {wr : World} {ns : List NodeR} (h : FX lo out0 w1 A lv wr ns) (hb : evBulk A < 1099511627776) : ns.length < 1099511627776 ∧ ∀ n ∈ ns, n.text.length < 1099511627776 := by
  have h1 := evBulk_evs ns
  have h2 := evBulk_merge A
  rw [← h.evs] at h2
  refine ⟨by omega, fun n hn => ?_⟩
  have h3 := evBulk_mem hn
  have h4 : n.text.length ≤ evBulk n.evs ∨ n.text = [] := by
    rcases h.left.2.1 n hn with ⟨a, _⟩ | ⟨_, b, _⟩
    · left
      rw [evs_text a]
      simp [evBulk]
    · exact .inr b
  rcases h4 with h4 | h4
  · omega
  · rw [h4]; simp
/-- A text more. -/
def textR (t : List UInt8) (av kv : Value) : NodeR := { name := [], text := t, av := av, kv := kv, al := [], ev := [], fp := [] }
theorem textR_ok (w : World) (t : List UInt8) (ht : t ≠ []) (a b : Option Addr) (c d : Nat) : OkX TreeX w (textR t (.slice a 0 c) (.slice b 0 d)) := .inl ⟨rfl, ht, rfl, rfl, rfl, ⟨a, c, rfl⟩, ⟨b, d, rfl⟩⟩
theorem FX.text {lo : Nat} {out0 : Value} {w1 : World} {A : List Ev} {lv lv' : Value} {wr wr1 w' : World} {ns : List NodeR} (h : FX lo out0 w1 A lv wr ns) (hlo : lo ≤ wr.heap.size) (hk1 : Kept [] wr wr1) (t : List UInt8) (ht : t ≠ []) (a b : Option Addr) (c d : Nat)
    (hr : w'.ownsRow 0 42 4 lv' (joinR ns (textR t (.slice a 0 c) (.slice b 0 d))).length (cellsOf (joinR ns (textR t (.slice a 0 c) (.slice b 0 d))))) (hk : Kept lv.ownBlock.toList wr1 w') (hm : Moved wr1 lv lv') : FX lo out0 w1 (A ++ [evText t]) lv' w' (joinR ns (textR t (.slice a 0 c) (.slice b 0 d))) := by
  refine h.step hk1 ((h.left.kept hk1).join (by have := hk1.size; omega) (textR_ok _ t ht a b c d) (by simp [textR]) hr hm hk) ?_ hk hm
  have := joinR_merge (x := textR t (.slice a 0 c) (.slice b 0 d)) h.evs (by rw [evs_text rfl]; simp [noAdj, startsText])
  rw [this, evs_text rfl]
  rfl
/-- An element more. -/
theorem FX.elem {lo : Nat} {out0 : Value} {w1 : World} {A K : List Ev} {lv lv' : Value} {wr wr1 w' : World} {ns : List NodeR} {y : NodeR} (h : FX lo out0 w1 A lv wr ns) (hlo : lo ≤ wr.heap.size) (hk1 : Kept [] wr wr1) (hy : OkX TreeX wr1 y) (hn : y.name ≠ []) (hyf : ∀ k ∈ y.fp, wr.heap.size ≤ k ∧ k < wr1.heap.size) (hev : y.ev = mergeE K)
    (hr : w'.ownsRow 0 42 4 lv' (joinR ns y).length (cellsOf (joinR ns y))) (hk : Kept lv.ownBlock.toList wr1 w') (hm : Moved wr1 lv lv') : FX lo out0 w1 (A ++ evOpen y.name y.al :: (K ++ [none])) lv' w' (joinR ns y) := by
  refine h.step hk1 ((h.left.kept hk1).join (by have := hk1.size; omega) hy (fun k hkf => ⟨⟨by have := (hyf k hkf).1; omega, (hyf k hkf).2⟩, fun hc => ?_⟩) hr hm hk) ?_ hk hm
  · have h1 := own_lt h.left.1 hc
    have h2 := (hyf k hkf).1
    omega
  · rw [joinR_evs, if_neg hn, h.evs, merge_append, push_elem, evs_elem hn, hev]
end Go.Proofs.YtlpmjpmefdpcmaaGreatDoor
