import Derived.Test.YtlpmjpmefdpcmaaGreatDoorProg
import Derived.Test.YtlpmjpmefdpcmaaGreatDoorQPure
import Derived.WalkKit
import Derived.WalkSpells
import Derived.Deep.QuietTactic
import Derived.BigQuiet
namespace Go.Proofs.YtlpmjpmefdpcmaaGreatDoor
open Go.RowKit Scrub
theorem ret_bool {a b : Bool} (h : a = b) : Ending.returned (.bool a) = .returned (.bool b) := by rw [h]
theorem ret_int {k : IntKind} {a b : Int} (h : a = b) : Ending.returned (.int k a) = .returned (.int k b) := by rw [h]
set_option maxHeartbeats 400000 in
theorem isLetter_any (c : UInt8) (w : World) :
    Calls Tryz.prog 176 #[.int .u8 (c.toNat : Int)] w fun e w' => e = .returned (.bool (letB c)) ∧ w' = w := by
  have hc := c.toNat_lt
  go_enter Tryz.func176, Tryz.ntmps176
  go_wp2
  all_goals
    go_ret
    refine ⟨ret_bool ?_, rfl⟩
    unfold letB
    rw [Bool.eq_iff_iff]
    simp [*]
    try omega
set_option maxHeartbeats 400000 in
theorem isBlank_any (c : UInt8) (w : World) :
    Calls Tryz.prog 183 #[.int .u8 (c.toNat : Int)] w fun e w' => e = .returned (.bool (blankB c)) ∧ w' = w := by
  have hc := c.toNat_lt
  go_enter Tryz.func183, Tryz.ntmps183
  go_wp2
  all_goals
    go_ret
    refine ⟨ret_bool ?_, rfl⟩
    unfold blankB
    rw [Bool.eq_iff_iff]
    simp [*]
    try omega
set_option maxHeartbeats 400000 in
theorem isNameByte_any (c : UInt8) (w : World) :
    Calls Tryz.prog 180 #[.int .u8 (c.toNat : Int)] w fun e w' => e = .returned (.bool (nameB c)) ∧ w' = w := by
  have hc := c.toNat_lt
  go_enter Tryz.func180, Tryz.ntmps180
  go_wp2_with (first | (go_at_call 176; refine (isLetter_any _ _).mono ?_; rintro e w' ⟨rfl, rfl⟩))
  all_goals
    go_ret
    refine ⟨ret_bool ?_, rfl⟩
    unfold nameB
    rw [Bool.eq_iff_iff]
    simp [*]
    try omega
set_option maxHeartbeats 400000 in
theorem isBlankOrSlash_any (c : UInt8) (w : World) :
    Calls Tryz.prog 181 #[.int .u8 (c.toNat : Int)] w fun e w' => e = .returned (.bool (blankSlashB c)) ∧ w' = w := by
  have hc := c.toNat_lt
  go_enter Tryz.func181, Tryz.ntmps181
  go_wp2_with (first | (go_at_call 183; refine (isBlank_any _ _).mono ?_; rintro e w' ⟨rfl, rfl⟩))
  all_goals
    go_ret
    refine ⟨ret_bool ?_, rfl⟩
    unfold blankSlashB
    rw [Bool.eq_iff_iff]
    simp [*]
    try omega
set_option maxHeartbeats 400000 in
theorem endsValue_any (c : UInt8) (w : World) :
    Calls Tryz.prog 217 #[.int .u8 (c.toNat : Int)] w fun e w' => e = .returned (.bool (endsValueB c)) ∧ w' = w := by
  have hc := c.toNat_lt
  go_enter Tryz.func217, Tryz.ntmps217
  go_wp2_with (first | (go_at_call 183; refine (isBlank_any _ _).mono ?_; rintro e w' ⟨rfl, rfl⟩))
  all_goals
    go_ret
    refine ⟨ret_bool ?_, rfl⟩
    unfold endsValueB
    rw [Bool.eq_iff_iff]
    simp [*]
    try omega
set_option maxHeartbeats 400000 in
theorem endsName_any (c : UInt8) (w : World) :
    Calls Tryz.prog 222 #[.int .u8 (c.toNat : Int)] w fun e w' => e = .returned (.bool (endsRawB c)) ∧ w' = w := by
  have hc := c.toNat_lt
  go_enter Tryz.func222, Tryz.ntmps222
  go_wp2_with (first | (go_at_call 181; refine (isBlankOrSlash_any _ _).mono ?_; rintro e w' ⟨rfl, rfl⟩))
  all_goals
    go_ret
    refine ⟨ret_bool ?_, rfl⟩
    unfold endsRawB
    rw [Bool.eq_iff_iff]
    simp [*]
    try omega
set_option maxHeartbeats 400000 in
theorem endsAttrName_any (c : UInt8) (w : World) :
    Calls Tryz.prog 215 #[.int .u8 (c.toNat : Int)] w fun e w' => e = .returned (.bool (endsAttrB c)) ∧ w' = w := by
  have hc := c.toNat_lt
  go_enter Tryz.func215, Tryz.ntmps215
  go_wp2_with (first | (go_at_call 222; refine (endsName_any _ _).mono ?_; rintro e w' ⟨rfl, rfl⟩))
  all_goals
    go_ret
    refine ⟨ret_bool ?_, rfl⟩
    unfold endsAttrB
    rename_i hh
    rw [Bool.eq_iff_iff]
    simp [endsRawB] at hh ⊢
    cases hb : blankSlashB c <;> simp [hb] at hh ⊢ <;> omega
set_option maxHeartbeats 400000 in
theorem smallByte_any (c : UInt8) (w : World) :
    Calls Tryz.prog 213 #[.int .u8 (c.toNat : Int)] w fun e w' => e = .returned (.int .u8 ((smallB c).toNat : Int)) ∧ w' = w := by
  have hc := c.toNat_lt
  go_enter Tryz.func213, Tryz.ntmps213
  go_wp2
  all_goals
    go_ret
    refine ⟨ret_int ?_, rfl⟩
  · rw [smallB_in c (by omega) (by omega)]
  · rw [smallB_out c (by omega)]
  · rw [smallB_out c (by omega)]
end Go.Proofs.YtlpmjpmefdpcmaaGreatDoor
/- Worlds: what a call leaves as it was (Kept), the reader in memory (Rd). No program in it. -/
namespace Scrub
open Go Go.RowKit
/-- All blocks that were there, but those of S, are as they were. -/
structure Kept (S : List Nat) (w w' : World) : Prop where
  os : w'.os = w.os
  tape : w'.tape = w.tape
  output : w'.output = w.output
  size : w.heap.size ≤ w'.heap.size
  block : ∀ k, k < w.heap.size → k ∉ S → w'.heap[k]? = w.heap[k]?
theorem Kept.refl (S : List Nat) (w : World) : Kept S w w := ⟨rfl, rfl, rfl, Nat.le_refl _, fun _ _ _ => rfl⟩
theorem Kept.trans {S : List Nat} {a b c : World} (h : Kept S a b) (k : Kept S b c) : Kept S a c :=
  ⟨k.os.trans h.os, k.tape.trans h.tape, k.output.trans h.output, Nat.le_trans h.size k.size,
    fun i hi hs => (k.block i (Nat.lt_of_lt_of_le hi h.size) hs).trans (h.block i hi hs)⟩
/-- What the second step turns may be new besides. -/
theorem Kept.trans_new {S S' : List Nat} {a b c : World} (h : Kept S a b) (k : Kept S' b c) (hs : ∀ i, i ∈ S' → i ∈ S ∨ a.heap.size ≤ i) : Kept S a c :=
  ⟨k.os.trans h.os, k.tape.trans h.tape, k.output.trans h.output, Nat.le_trans h.size k.size,
    fun i hi hn => (k.block i (Nat.lt_of_lt_of_le hi h.size) (fun e => by
      rcases hs i e with h1 | h1
      · exact hn h1
      · omega)).trans (h.block i hi hn)⟩
theorem Kept.mono {S S' : List Nat} {a b : World} (h : Kept S a b) (hs : ∀ i, i ∈ S → i ∈ S') : Kept S' a b :=
  ⟨h.os, h.tape, h.output, h.size, fun i hi hn => h.block i hi (fun e => hn (hs i e))⟩
theorem Kept.drewN {S : List Nat} {a b : World} (h : Kept S a b) (n : Nat) : Kept S a (b.drewN n) := by
  refine h.trans ⟨?_, ?_, ?_, ?_, ?_⟩ <;> simp [World.drewN]
theorem Kept.drew {S : List Nat} {a b : World} (h : Kept S a b) : Kept S a b.drew := ⟨h.os, h.tape, h.output, h.size, h.block⟩
theorem Kept.alloc {S : List Nat} {a b : World} (h : Kept S a b) (o : Obj) : Kept S a (b.alloc o) :=
  h.trans ⟨rfl, rfl, rfl, by simp, fun k hk _ => Below.heap_alloc _ _ _ (by omega)⟩
theorem Kept.setCell {S : List Nat} {a b : World} (h : Kept S a b) {p : Addr} (hp : p.block ∈ S ∨ a.heap.size ≤ p.block) (u : Value) : Kept S a (b.setCell p u) :=
  ⟨h.os, h.tape, h.output, by have := h.size; simpa [World.setCell] using this, fun k hk hn => by
    have : k ≠ p.block := by
      intro e
      rcases hp with h1 | h1
      · exact hn (e ▸ h1)
      · omega
    rw [Below.heap_setCell _ _ _ _ this]
    exact h.block k hk hn⟩
theorem Kept.below {a b : World} (h : Below a.heap.size a b) (S : List Nat) : Kept S a b := ⟨h.os, h.tape, h.output, h.size, fun k hk _ => h.block k hk⟩
theorem Kept.toBelow {a b : World} (h : Kept [] a b) : Below a.heap.size a b := ⟨h.os, h.tape, h.output, h.size, fun k hk => h.block k hk (by simp)⟩
theorem Kept.grown {S : List Nat} {a b : World} {row : Option Nat} (h : a.grownBy b row) (hr : ∀ k, row = some k → k ∈ S) : Kept S a b :=
  ⟨h.os, h.tape, h.output, h.size, fun k hk hn => h.block k hk (fun e => hn (hr k e.symm))⟩
theorem Kept.cell {S : List Nat} {a b : World} (h : Kept S a b) {p : Addr} (hp : p.block < a.heap.size) (hn : p.block ∉ S) : b.cell? p = a.cell? p :=
  World.cell?_of_block (w := a) (h.block p.block hp hn)
theorem Kept.frozen {S : List Nat} {a b : World} (h : Kept S a b) {p : Addr} (hp : p.block < a.heap.size) (hn : p.block ∉ S) : b.frozen? p = a.frozen? p :=
  World.frozen?_of_block (w := a) (h.block p.block hp hn)
theorem heap_drewN (w : World) (n : Nat) : (w.drewN n).heap = w.heap := by simp [World.drewN]
theorem Kept.trans_below {S : List Nat} {a b c : World} (h : Kept S a b) (k : Below a.heap.size b c) : Kept S a c :=
  ⟨k.os.trans h.os, k.tape.trans h.tape, k.output.trans h.output, Nat.le_trans h.size k.size, fun i hi hn => (k.block i hi).trans (h.block i hi hn)⟩
theorem Kept.toGrown {a b : World} (h : Kept [] a b) (row : Option Nat) : a.grownBy b row := ⟨h.os, h.tape, h.output, h.size, fun k hk _ => h.block k hk (by simp)⟩
theorem ownsRow_kept {S : List Nat} {w w' : World} {base : Nat} {e : TypeId} {size : Nat} {v : Value} {n : Nat} {xs : List Value} (h : w.ownsRow base e size v n xs) (hk : Kept S w w') (hn : ∀ k, v.ownBlock = some k → k ∉ S) : w'.ownsRow base e size v n xs := by
  refine ⟨h.1, ?_⟩
  rcases h.2 with h0 | ⟨g, cap, cur, rfl, hb, hgg, rest⟩
  · exact .inl h0
  · refine .inr ⟨g, cap, cur, rfl, hb, ?_, rest⟩
    rw [hk.block g (Array.getElem?_eq_some_iff.1 hgg).1 (hn g rfl)]
    exact hgg
/-- The reader: a block of the markup and of how far it is read. -/
def RdK (w : World) (rb : Nat) (m : ByteArray) (k : Nat) : Prop :=
  (∃ t, w.heap[rb]? = some (.cells #[.string m, .int .i64 (k : Int)] t (0, 0))) ∧ k ≤ m.size
/-- .. r: what is left. -/
def Rd (w : World) (rb : Nat) (m : ByteArray) (r : List UInt8) : Prop := ∃ k, RdK w rb m k ∧ r = m.data.toList.drop k
theorem RdK.drewN {w : World} {rb : Nat} {m : ByteArray} {k : Nat} (h : RdK w rb m k) (n : Nat) : RdK (w.drewN n) rb m k := h
theorem RdK.lt {w : World} {rb : Nat} {m : ByteArray} {k : Nat} (h : RdK w rb m k) : rb < w.heap.size := by
  obtain ⟨⟨t, h1⟩, h2⟩ := h
  exact (Array.getElem?_eq_some_iff.1 h1).1
theorem RdK.kept {w w' : World} {S : List Nat} {rb : Nat} {m : ByteArray} {k : Nat} (h : RdK w rb m k) (hk : Kept S w w') (hn : rb ∉ S) : RdK w' rb m k := by
  have hlt := h.lt
  obtain ⟨⟨t, h1⟩, h2⟩ := h
  exact ⟨⟨t, by rw [hk.block rb hlt hn]; exact h1⟩, h2⟩
theorem RdK.set {w : World} {rb : Nat} {m : ByteArray} {k : Nat} (h : RdK w rb m k) {k' : Nat} (hk : k' ≤ m.size) : RdK (w.setCell ⟨rb, 1, none⟩ (.int .i64 (k' : Int))) rb m k' := by
  obtain ⟨⟨t, h1⟩, h2⟩ := h
  refine ⟨⟨t, ?_⟩, hk⟩
  simp [World.setCell, Array.getElem?_modify, h1]
/-- What the walk asks of it. -/
theorem RdK.cells {w : World} {rb : Nat} {m : ByteArray} {k : Nat} (h : RdK w rb m k) :
    w.cell? ⟨rb, 0, none⟩ = some (.string m) ∧ w.cell? ⟨rb, 1, none⟩ = some (.int .i64 (k : Int)) ∧ w.frozen? ⟨rb, 1, none⟩ = false := by
  obtain ⟨⟨t, h1⟩, h2⟩ := h
  exact ⟨by simp [World.cell?, h1], by simp [World.cell?, h1], by simp [World.frozen?, h1]⟩
/-- The reader set so that just the bytes l' are left. -/
theorem RdK.setRest {w : World} {rb : Nat} {m : ByteArray} {k : Nat} (h : RdK w rb m k) {r l' : List UInt8} (hr : r = m.data.toList.drop k) (hle : l'.length ≤ r.length) (hd : l' = r.drop (r.length - l'.length)) {v : Int} (hv : v = (m.size : Int) - (l'.length : Int)) :
    Rd (w.setCell ⟨rb, 1, none⟩ (.int .i64 v)) rb m l' := by
  have h2 := h.2
  have hrl : r.length = m.size - k := by rw [hr]; simp
  have hv' : v = ((m.size - l'.length : Nat) : Int) := by omega
  subst hv'
  refine ⟨m.size - l'.length, h.set (by omega), ?_⟩
  generalize hn : l'.length = n at *
  rw [hd, hr, List.drop_drop]
  congr 1
  simp
  omega
theorem Rd.drewN {w : World} {rb : Nat} {m : ByteArray} {r : List UInt8} (h : Rd w rb m r) (n : Nat) : Rd (w.drewN n) rb m r := h
theorem Rd.kept {w w' : World} {S : List Nat} {rb : Nat} {m : ByteArray} {r : List UInt8} (h : Rd w rb m r) (hk : Kept S w w') (hn : rb ∉ S) : Rd w' rb m r := by
  obtain ⟨k, h1, h2⟩ := h
  exact ⟨k, h1.kept hk hn, h2⟩
theorem Rd.lt {w : World} {rb : Nat} {m : ByteArray} {r : List UInt8} (h : Rd w rb m r) : rb < w.heap.size := by
  obtain ⟨k, h1, h2⟩ := h
  exact h1.lt
/-- A row of bytes in a block of its own, that may be written. -/
def BytesAt (w : World) (b : Nat) (l : List UInt8) : Prop :=
  ∀ j (h : j < l.length), w.cell? ⟨b, j, none⟩ = some (.int .u8 (l[j].toNat : Int)) ∧ w.frozen? ⟨b, j, none⟩ = false
theorem BytesAt.set {w : World} {b : Nat} {l : List UInt8} (h : BytesAt w b l) (k : Nat) (c : UInt8) (hk : k < l.length) : BytesAt (w.setCell ⟨b, k, none⟩ (.int .u8 (c.toNat : Int))) b (l.set k c) := by
  intro j hj
  have hj' : j < l.length := by simpa using hj
  obtain ⟨h1, h2⟩ := h j hj'
  obtain ⟨k1, k2⟩ := h k hk
  refine ⟨?_, ?_⟩
  · by_cases e : k = j
    · subst e
      rw [World.cell?_setCell_same _ _ _ k1]
      simp
    · rw [World.cell?_setCell_other _ _ _ _ (fun h => e (by injection h))]
      rw [h1]
      simp [e]
  · rw [← h2]
    simp [World.frozen?, World.setCell, Array.getElem?_modify]
    cases w.heap[b]? with
    | none => rfl
    | some o => cases o <;> rfl
/-- '[]byte(s)': a new row, the bytes in it. -/
theorem conv_bytes {P : Program} (w : World) (src dst e : TypeId) (s : ByteArray) (hs : P.underlying src = some .string) (hd : P.underlying dst = some (.slice e)) (he : P.underlying e = some (.int .u8)) :
    ∃ cap w1, (convert src dst (.string s)).run P w = .ok (.slice (some ⟨w.heap.size, 0, none⟩) s.size cap) w1 ∧ Kept [] w w1 ∧ BytesAt w1 w.heap.size s.data.toList := by
  refine ⟨_, _, run_bytes_of_string w src dst e s hs hd he, ((Kept.refl [] w).drew).alloc _, ?_⟩
  intro j hj
  have hj' : j < s.data.size := by simpa using hj
  refine ⟨?_, ?_⟩
  · have := World.cell?_alloc_mark w.drew (bytesRow s (grownCap w s.size 0 e)) e ((bytesRow s (grownCap w s.size 0 e)).size, (bytesRow s (grownCap w s.size 0 e)).size + 1) j
    refine this.trans ?_
    rw [bytesRow_at s _ j hj']
    simp
  · have := World.frozen?_alloc_mark w.drew (bytesRow s (grownCap w s.size 0 e)) e (bytesRow s (grownCap w s.size 0 e)).size ((bytesRow s (grownCap w s.size 0 e)).size + 1) j
    refine this.trans ?_
    have h2 : j < (bytesRow s (grownCap w s.size 0 e)).size := by
      have := bytesRow_at s (grownCap w s.size 0 e) j hj'
      exact (Array.getElem?_eq_some_iff.1 this).1
    simp
    omega
/-- 'string(b)' back. -/
theorem conv_back {P : Program} (w : World) (src dst e : TypeId) (b cap n : Nat) (l : List UInt8) (hl : l.length = n) (hs : P.underlying src = some (.slice e)) (he : P.underlying e = some (.int .u8)) (hd : P.underlying dst = some .string) (h : BytesAt w b l) :
    (convert src dst (.slice (some ⟨b, 0, none⟩) n cap)).run P w = .ok (.string ⟨l.toArray⟩) w := by
  subst hl
  refine run_convert_bytes_back w src dst e ⟨b, 0, none⟩ cap l hs he hd (fun j hj => ?_)
  have hadd : (⟨b, 0, none⟩ : Addr).add j = ⟨b, j, none⟩ := by unfold Addr.add; split <;> simp_all
  rw [hadd]
  exact (h j hj).1
/-- A byte stands next. -/
theorem Rd.cons {w : World} {rb : Nat} {m : ByteArray} {c : UInt8} {l : List UInt8} (h : Rd w rb m (c :: l)) :
    ∃ k, RdK w rb m k ∧ ∃ hk : k < m.size, m[k] = c ∧ l = m.data.toList.drop (k + 1) := by
  obtain ⟨k, hk, hr⟩ := h
  have hlt : k < m.size := by
    have := congrArg List.length hr
    simp at this
    omega
  rw [List.drop_eq_getElem_cons (by simpa using hlt)] at hr
  injection hr with h1 h2
  exact ⟨k, hk, hlt, h1.symm, h2⟩
theorem cells4 {w : World} {b : Nat} {v0 v1 v2 v3 : Value} {t : TypeId} (h : w.heap[b]? = some (.cells #[v0, v1, v2, v3] t (0, 0))) :
    (w.cell? ⟨b, 0, none⟩ = some v0 ∧ w.cell? ⟨b, 1, none⟩ = some v1 ∧ w.cell? ⟨b, 2, none⟩ = some v2 ∧ w.cell? ⟨b, 3, none⟩ = some v3) ∧
    (w.frozen? ⟨b, 0, none⟩ = false ∧ w.frozen? ⟨b, 1, none⟩ = false ∧ w.frozen? ⟨b, 2, none⟩ = false ∧ w.frozen? ⟨b, 3, none⟩ = false) :=
  ⟨⟨by simp [World.cell?, h], by simp [World.cell?, h], by simp [World.cell?, h], by simp [World.cell?, h]⟩, ⟨by simp [World.frozen?, h], by simp [World.frozen?, h], by simp [World.frozen?, h], by simp [World.frozen?, h]⟩⟩
theorem Kept.set4 {S : List Nat} {a b : World} (h : Kept S a b) {k : Nat} (hb : k ∈ S ∨ a.heap.size ≤ k) (v0 v1 v2 v3 : Value) :
    Kept S a ((((b.setCell ⟨k, 0, none⟩ v0).setCell ⟨k, 1, none⟩ v1).setCell ⟨k, 2, none⟩ v2).setCell ⟨k, 3, none⟩ v3) :=
  (((h.setCell (p := ⟨k, 0, none⟩) hb v0).setCell (p := ⟨k, 1, none⟩) hb v1).setCell (p := ⟨k, 2, none⟩) hb v2).setCell (p := ⟨k, 3, none⟩) hb v3
theorem drop_get {m : ByteArray} {k : Nat} (h : k < m.size) : m.data.toList.drop k = m[k] :: m.data.toList.drop (k + 1) := by
  rw [List.drop_eq_getElem_cons (by simpa using h)]
  rfl
end Scrub
