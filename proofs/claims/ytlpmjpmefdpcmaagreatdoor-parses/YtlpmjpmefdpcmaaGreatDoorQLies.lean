import Derived.Test.YtlpmjpmefdpcmaaGreatDoorQPure5
import Derived.Test.YtlpmjpmefdpcmaaGreatDoorQBld2
/- Trees as plain data, to any depth; what writing asks of them, and what is written. No program in it. -/
namespace Scrub
open Go
/-- A forest that is at most d deep: nodes with a name, attributes, kids, a text. -/
def GF : Nat → Type
  | 0 => Unit
  | d + 1 => List (List UInt8 × List (List UInt8 × List UInt8) × GF d × List UInt8)
abbrev GN (d : Nat) : Type := List UInt8 × List (List UInt8 × List UInt8) × GF d × List UInt8
def gnodes : (d : Nat) → GF (d + 1) → List (GN d) := fun _ f => f
def glen : (d : Nat) → GF d → Nat
  | 0, _ => 0
  | d + 1, f => (gnodes d f).length
def isNameP (s : List UInt8) : Bool := decide (s ≠ []) && letB (s.headD 0) && (small s == s) && s.all nameB
def isAttrNameP (s : List UInt8) : Bool := decide (s ≠ []) && !endsRawB (s.headD 0) && (small s == s) && (s.drop 1).all (fun c => !endsAttrB c)
def holdsEndP (name : List UInt8) : List UInt8 → Bool
  | [] => false
  | c :: t => endsRawP (c :: t) name || holdsEndP name t
def attrsOkP (al : List (List UInt8 × List UInt8)) : Bool := al.all (fun a => isAttrNameP a.1) && decide (al.map Prod.fst).Nodup
def textG {d : Nat} (n : GN d) : Bool := decide (n.1 = []) && decide (n.2.2.2 ≠ []) && decide (n.2.1 = []) && decide (glen d n.2.2.1 = 0)
def rawOk : (d : Nat) → GF d → List UInt8 → Bool
  | 0, _, _ => true
  | d + 1, f, nm => match gnodes d f with
    | [] => true
    | [k] => textG k && !holdsEndP nm k.2.2.2
    | _ => false
def kidsOk {d : Nat} (K : GF d → Bool) (n : GN d) : Bool :=
  if kindP n.1 = 1 then decide (glen d n.2.2.1 = 0) else if kindP n.1 = 2 then rawOk d n.2.2.1 n.1 else K n.2.2.1
def elemG {d : Nat} (K : GF d → Bool) (n : GN d) : Bool := isNameP n.1 && decide (n.2.2.2 = []) && attrsOkP n.2.1 && kidsOk K n
/-- Are they nodes, however deep? -/
def soundF : (d : Nat) → GF d → Bool
  | 0, _ => true
  | d + 1, f => (gnodes d f).all (fun n => textG n || elemG (soundF d) n)
/-- How deep elements stand within one another. -/
def depthF : (d : Nat) → GF d → Nat
  | 0, _ => 0
  | d + 1, f => (gnodes d f).foldr (fun n m => max (depthF d n.2.2.1 + (if n.1 = [] then 0 else 1)) m) 0
/-- How many nodes. -/
def sizeF : (d : Nat) → GF d → Nat
  | 0, _ => 0
  | d + 1, f => (gnodes d f).foldr (fun n m => sizeF d n.2.2.1 + 1 + m) 0
def signOfP (c : UInt8) : List UInt8 :=
  if c = 38 then [38, 97, 109, 112, 59] else if c = 60 then [38, 108, 116, 59] else if c = 62 then [38, 103, 116, 59] else if c = 34 then [38, 113, 117, 111, 116, 59] else [c]
/-- With some bytes as signs. -/
def escP (these : List UInt8) (s : List UInt8) : List UInt8 := s.flatMap (fun c => if these.contains c then signOfP c else [c])
def attrW (a : List UInt8 × List UInt8) : List UInt8 := 32 :: (a.1 ++ (61 :: 34 :: (escP [38, 60, 34] a.2 ++ [34])))
def startW (n : List UInt8) (al : List (List UInt8 × List UInt8)) : List UInt8 := 60 :: (n ++ (al.flatMap attrW ++ [62]))
def endW (n : List UInt8) : List UInt8 := 60 :: 47 :: (n ++ [62])
def rawW : (d : Nat) → GF d → List UInt8
  | 0, _ => []
  | d + 1, f => (gnodes d f).flatMap (fun n => n.2.2.2)
def nodeW {d : Nat} (W : GF d → List UInt8) (n : GN d) : List UInt8 :=
  if n.1 = [] then escP [38, 60, 62] n.2.2.2
  else startW n.1 n.2.1 ++ (if kindP n.1 = 1 then [] else (if kindP n.1 = 2 then rawW d n.2.2.1 else W n.2.2.1) ++ endW n.1)
/-- What is written. -/
def writeF : (d : Nat) → GF d → List UInt8
  | 0, _ => []
  | d + 1, f => (gnodes d f).flatMap (nodeW (writeF d))
/-- Write's answer: 0, or the error. -/
def checkF (d : Nat) (f : GF d) : Int := if 12 < depthF d f then 3 else if soundF d f then 0 else 2
/-- How much there is in it. -/
def bulkA (al : List (List UInt8 × List UInt8)) : Nat := al.foldr (fun a m => a.1.length + a.2.length + 1 + m) 0
def bulkN {d : Nat} (B : GF d → Nat) (n : GN d) : Nat := n.1.length + bulkA n.2.1 + B n.2.2.1 + n.2.2.2.length + 1
def bulkF : (d : Nat) → GF d → Nat
  | 0, _ => 0
  | d + 1, f => (gnodes d f).foldr (fun n m => bulkN (bulkF d) n + m) 0
theorem bulkA_len (al : List (List UInt8 × List UInt8)) : al.length ≤ bulkA al := by
  induction al with
  | nil => exact Nat.le_refl _
  | cons a t ih =>
    show t.length + 1 ≤ a.1.length + a.2.length + 1 + bulkA t
    omega
theorem bulkA_mem {al : List (List UInt8 × List UInt8)} {a : List UInt8 × List UInt8} (h : a ∈ al) : a.1.length + a.2.length ≤ bulkA al := by
  induction al with
  | nil => simp at h
  | cons b t ih =>
    show _ ≤ b.1.length + b.2.length + 1 + bulkA t
    rcases List.mem_cons.1 h with rfl | h
    · omega
    · have := ih h
      omega
theorem bulkF_mem {d : Nat} {f : GF (d + 1)} {n : GN d} (h : n ∈ gnodes d f) : bulkN (bulkF d) n ≤ bulkF (d + 1) f := by
  show _ ≤ (gnodes d f).foldr (fun n m => bulkN (bulkF d) n + m) 0
  generalize gnodes d f = l at h
  induction l with
  | nil => simp at h
  | cons b t ih =>
    show _ ≤ bulkN (bulkF d) b + t.foldr (fun n m => bulkN (bulkF d) n + m) 0
    rcases List.mem_cons.1 h with rfl | h
    · omega
    · have := ih h
      omega
theorem bulkF_len {d : Nat} (f : GF (d + 1)) : (gnodes d f).length ≤ bulkF (d + 1) f := by
  show _ ≤ (gnodes d f).foldr (fun n m => bulkN (bulkF d) n + m) 0
  generalize gnodes d f = l
  induction l with
  | nil => exact Nat.le_refl _
  | cons b t ih =>
    show t.length + 1 ≤ bulkN (bulkF d) b + t.foldr (fun n m => bulkN (bulkF d) n + m) 0
    have : 1 ≤ bulkN (bulkF d) b := by unfold bulkN; omega
    omega
theorem glen_le : ∀ (d : Nat) (f : GF d), glen d f ≤ bulkF d f
  | 0, _ => Nat.le_refl _
  | _ + 1, f => bulkF_len f
end Scrub
/- Trees that lie in memory, to be read. No function of the program in it. -/
namespace Go.Proofs.YtlpmjpmefdpcmaaGreatDoor
open Go.RowKit Scrub Go.Shelf
/-- A list of attributes lies there. -/
def LiesA (w : World) (v : Value) (al : List (List UInt8 × List UInt8)) : Prop :=
  ∃ a c, v = .slice a al.length c ∧ ∀ i (h : i < al.length), ∃ g o, a = some ⟨g, o, none⟩ ∧ w.cell? ⟨g, o + i * 2, none⟩ = some (.string ⟨(al[i]).1.toArray⟩) ∧ w.cell? ⟨g, o + i * 2 + 1, none⟩ = some (.string ⟨(al[i]).2.toArray⟩)
/-- A node's four cells, its kids by R. -/
def LiesN {d : Nat} (R : Value → GF d → Prop) (w : World) (g o : Nat) (n : GN d) : Prop :=
  ∃ av kv, w.cell? ⟨g, o, none⟩ = some (.string ⟨n.1.toArray⟩) ∧ w.cell? ⟨g, o + 1, none⟩ = some av ∧ w.cell? ⟨g, o + 2, none⟩ = some kv ∧ w.cell? ⟨g, o + 3, none⟩ = some (.string ⟨n.2.2.2.toArray⟩) ∧ LiesA w av n.2.1 ∧ R kv n.2.2.1
def Lies : (d : Nat) → World → Value → GF d → Prop
  | 0, _, v, _ => ∃ a c, v = .slice a 0 c
  | d + 1, w, v, f => ∃ a c, v = .slice a (gnodes d f).length c ∧ ∀ i (h : i < (gnodes d f).length), ∃ g o, a = some ⟨g, o, none⟩ ∧ LiesN (Lies d w) w g (o + i * 4) (gnodes d f)[i]
theorem cell_lt {w : World} {p : Addr} {v : Value} (h : w.cell? p = some v) : p.block < w.heap.size := by
  unfold World.cell? at h
  by_cases hl : p.block < w.heap.size
  · exact hl
  · rw [Array.getElem?_eq_none (by omega)] at h
    simp at h
theorem cell_kept {w w' : World} (hk : Kept [] w w') {p : Addr} {v : Value} (h : w.cell? p = some v) : w'.cell? p = some v := (hk.cell (cell_lt h) (by simp)).trans h
theorem LiesA.kept {w w' : World} {v : Value} {al : List (List UInt8 × List UInt8)} (h : LiesA w v al) (hk : Kept [] w w') : LiesA w' v al := by
  obtain ⟨a, c, h1, h2⟩ := h
  refine ⟨a, c, h1, fun i hi => ?_⟩
  obtain ⟨g, o, e, c1, c2⟩ := h2 i hi
  exact ⟨g, o, e, cell_kept hk c1, cell_kept hk c2⟩
theorem LiesN.kept {d : Nat} {R R' : Value → GF d → Prop} {w w' : World} (hR : ∀ v f, R v f → R' v f) {g o : Nat} {n : GN d} (h : LiesN R w g o n) (hk : Kept [] w w') : LiesN R' w' g o n := by
  obtain ⟨av, kv, h1, h2, h3, h4, h5, h6⟩ := h
  exact ⟨av, kv, cell_kept hk h1, cell_kept hk h2, cell_kept hk h3, cell_kept hk h4, h5.kept hk, hR _ _ h6⟩
theorem Lies.kept : ∀ (d : Nat) {w w' : World} {v : Value} {f : GF d}, Lies d w v f → Kept [] w w' → Lies d w' v f
  | 0, _, _, _, _, h, _ => h
  | d + 1, w, w', v, f, h, hk => by
    obtain ⟨a, c, h1, h2⟩ := h
    refine ⟨a, c, h1, fun i hi => ?_⟩
    obtain ⟨g, o, e, hn⟩ := h2 i hi
    exact ⟨g, o, e, hn.kept (fun v f h => Lies.kept d h hk) hk⟩
theorem Lies.form : ∀ (d : Nat) {w : World} {v : Value} {f : GF d}, Lies d w v f → ∃ a c, v = .slice a (glen d f) c
  | 0, _, _, _, h => h
  | d + 1, _, _, _, h => by
    obtain ⟨a, c, h1, _⟩ := h
    exact ⟨a, c, h1⟩
theorem LiesA.form {w : World} {v : Value} {al : List (List UInt8 × List UInt8)} (h : LiesA w v al) : ∃ a c, v = .slice a al.length c := by
  obtain ⟨a, c, h1, _⟩ := h
  exact ⟨a, c, h1⟩
/-- A node's events. -/
def evN {d : Nat} (V : GF d → List Ev) (n : GN d) : List Ev := if n.1 = [] then [evText n.2.2.2] else evOpen n.1 n.2.1 :: V n.2.2.1 ++ [none]
def evF : (d : Nat) → GF d → List Ev
  | 0, _ => []
  | d + 1, f => (gnodes d f).flatMap (evN (evF d))
/-- Each node is a text or an element. -/
def niceN {d : Nat} (V : GF d → Prop) (n : GN d) : Prop := (n.1 = [] → n.2.2.2 ≠ [] ∧ n.2.1 = [] ∧ glen d n.2.2.1 = 0) ∧ (n.1 ≠ [] → n.2.2.2 = []) ∧ V n.2.2.1
def niceF : (d : Nat) → GF d → Prop
  | 0, _ => True
  | d + 1, f => ∀ n ∈ gnodes d f, niceN (niceF d) n
theorem AOwn.lies {w : World} {v : Value} {al : List (List UInt8 × List UInt8)} (h : AOwn w v al) : LiesA w v al := by
  obtain ⟨a, c, rfl⟩ := ownsRow_form h
  refine ⟨a, c, rfl, fun i hi => ?_⟩
  rcases h.2 with ⟨_, h0⟩ | ⟨g, cap, cur, hv, _⟩
  · omega
  · have e : (Value.slice a al.length c) = .slice (some ⟨g, 0, none⟩) al.length cap := hv
    injection e with e1 e2 e3
    subst e1 e3
    refine ⟨g, 0, rfl, ?_, ?_⟩
    · have := row_cell h (attrCells_get al i hi).1
      simpa using this
    · have := row_cell h (attrCells_get al i hi).2
      simpa using this
theorem Rep.lies : ∀ (d : Nat) {w : World} {v : Value} {ev : List Ev} {fp : List Nat}, Rep d w v ev fp → ∃ f : GF d, Lies d w v f ∧ evF d f = ev ∧ niceF d f
  | 0, _, _, _, _, h => by
    obtain ⟨rfl, rfl, rfl⟩ := h
    exact ⟨(), ⟨none, 0, rfl⟩, rfl, trivial⟩
  | d + 1, w, v, ev, fp, h => by
    obtain ⟨ns, h1, h2, h3, h4⟩ := h
    have hk : ∀ n : NodeR, NodeOk (Rep d) w n → ∃ k : GF d, Lies d w n.kv k ∧ evF d k = n.ev ∧ niceF d k := by
      intro n hn
      obtain ⟨kfp, _, b, _⟩ := hn
      exact Rep.lies d b
    have hall : ∀ l : List NodeR, (∀ n ∈ l, NodeOk (Rep d) w n) → ∃ gl : List (GN d), gl.length = l.length ∧ (∀ i (h : i < l.length) (h' : i < gl.length), (gl[i]).1 = (l[i]).name ∧ (gl[i]).2.1 = (l[i]).al ∧ (gl[i]).2.2.2 = (l[i]).text ∧ Lies d w (l[i]).kv (gl[i]).2.2.1) ∧ gl.flatMap (evN (evF d)) = evsOf l ∧ ∀ n ∈ gl, niceN (niceF d) n := by
      intro l
      induction l with
      | nil => intro _; exact ⟨[], rfl, by simp, rfl, by simp⟩
      | cons a t ih =>
        intro hl
        obtain ⟨gl, g1, g2, g3, g4⟩ := ih (fun n hn => hl n (List.mem_cons_of_mem _ hn))
        obtain ⟨k, k1, k2, k3⟩ := hk a (hl a List.mem_cons_self)
        obtain ⟨kfp, _, b1, b2, b3, b4⟩ := hl a List.mem_cons_self
        refine ⟨(a.name, a.al, k, a.text) :: gl, by simp [g1], ?_, ?_, ?_⟩
        · intro i h h'
          cases i with
          | zero => exact ⟨rfl, rfl, rfl, k1⟩
          | succ i => exact g2 i (by simpa using h) (by simpa using h')
        · have e : evsOf (a :: t) = a.evs ++ evsOf t := by simp [evsOf]
          rw [e, List.flatMap_cons, g3]
          congr 1
          simp [evN, NodeR.evs, k2]
        · intro n hn
          rcases List.mem_cons.1 hn with rfl | hn
          · refine ⟨fun h0 => ?_, b4, k3⟩
            obtain ⟨c1, c2, c3⟩ := b3 h0
            refine ⟨c1, c2, ?_⟩
            have hev : evF d k = [] := by rw [k2]; exact c3
            cases d with
            | zero => rfl
            | succ d =>
              show (gnodes d k).length = 0
              cases hg : gnodes d k with
              | nil => rfl
              | cons x y =>
                have : evF (d + 1) k = (gnodes d k).flatMap (evN (evF d)) := rfl
                rw [this, hg] at hev
                simp [evN] at hev
                split at hev <;> simp at hev
          · exact g4 n hn
    obtain ⟨gl, g1, g2, g3, g4⟩ := hall ns h2
    refine ⟨gl, ?_, by rw [h3]; exact g3, g4⟩
    obtain ⟨a, c, rfl⟩ := ownsRow_form h1
    refine ⟨a, c, ?_, fun i hi => ?_⟩
    · show _ = Value.slice a gl.length c
      rw [g1]
    · have hi' : i < ns.length := by rw [← g1]; exact hi
      rcases h1.2 with ⟨_, h0⟩ | ⟨g, cap, cur, hv, _⟩
      · omega
      · injection hv with e1 e2 e3
        subst e1 e3
        obtain ⟨q1, q2, q3, q4⟩ := g2 i hi' hi
        obtain ⟨c0, c1, c2, c3⟩ := cellsOf_get ns i hi'
        obtain ⟨kfp, b0, _⟩ := h2 ns[i] (List.getElem_mem hi')
        refine ⟨g, 0, rfl, ns[i].av, ns[i].kv, ?_, ?_, ?_, ?_, ?_, ?_⟩
        · show w.cell? _ = some (.string ⟨(gl[i]).1.toArray⟩)
          rw [q1, Nat.zero_add]
          exact row_cell h1 c0
        · rw [Nat.zero_add]
          exact row_cell h1 c1
        · rw [Nat.zero_add]
          exact row_cell h1 c2
        · show w.cell? _ = some (.string ⟨(gl[i]).2.2.2.toArray⟩)
          rw [q3, Nat.zero_add]
          exact row_cell h1 c3
        · show LiesA w _ (gl[i]).2.1
          rw [q2]
          exact AOwn.lies b0
        · exact q4
end Go.Proofs.YtlpmjpmefdpcmaaGreatDoor
