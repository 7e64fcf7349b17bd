import Derived.Test.YtlpmjpmefdpcmaaGreatDoorQPure5
import Derived.Test.YtlpmjpmefdpcmaaGreatDoorShelf
import Derived.Deep.LoopGhost
import Derived.Shelf.Strings.BuilderK
import Derived.Test.YtlpmjpmefdpcmaaGreatDoorProg
namespace Go.Proofs.YtlpmjpmefdpcmaaGreatDoor
open Go.RowKit Scrub
set_option maxHeartbeats 400000 in
theorem done_k (rb : Nat) (m : ByteArray) (k : Nat) (w : World) (h : RdK w rb m k) :
    Calls Tryz.prog 110 #[.pointer (some ⟨rb, 0, none⟩)] w fun e w' => e = .returned (.bool (decide (m.size ≤ k))) ∧ ∃ n, w' = w.drewN n := by
  obtain ⟨h0, h1, h2⟩ := h.cells
  go_enter Tryz.func110, Tryz.ntmps110
  go_wp2
  go_quiet (fail)
  go_wp2
  go_ret
  exact ⟨ret_bool (by simp), _, rfl⟩
theorem done_any (rb : Nat) (m : ByteArray) (r : List UInt8) (w : World) (h : Rd w rb m r) :
    Calls Tryz.prog 110 #[.pointer (some ⟨rb, 0, none⟩)] w fun e w' => e = .returned (.bool r.isEmpty) ∧ ∃ n, w' = w.drewN n := by
  obtain ⟨k, hk, rfl⟩ := h
  refine (done_k rb m k w hk).mono ?_
  rintro e w' ⟨rfl, hn⟩
  refine ⟨ret_bool ?_, hn⟩
  rw [Bool.eq_iff_iff]
  simp
set_option maxHeartbeats 400000 in
theorem rest_any (rb : Nat) (m : ByteArray) (r : List UInt8) (w : World) (h : Rd w rb m r) :
    Calls Tryz.prog 174 #[.pointer (some ⟨rb, 0, none⟩)] w fun e w' => (∃ t : ByteArray, e = .returned (.string t) ∧ t.data.toList = r) ∧ ∃ n, w' = w.drewN n := by
  obtain ⟨k, hk, hr⟩ := h
  have HR : Hid (r = m.data.toList.drop k) := hr
  clear hr
  obtain ⟨h0, h1, h2⟩ := hk.cells
  have hk2 := hk.2
  have hk1 : (0 : Int) ≤ (k : Int) := by omega
  have hk2 : (k : Int) ≤ (m.size : Int) := by omega
  go_enter Tryz.func174, Tryz.ntmps174
  go_wp2
  go_quiet (fail)
  go_wp2
  go_ret
  refine ⟨⟨_, rfl, ?_⟩, _, rfl⟩
  rw [HR.out]
  simp [List.take_of_length_le]
set_option maxHeartbeats 1000000 in
theorem pass_any (rb : Nat) (m : ByteArray) (r : List UInt8) (f : FuncId) (p : UInt8 → Bool) (w : World) (h : Rd w rb m r) (hm : m.size ≤ maxLen)
    (eg : ∀ (args : Array Value) (w : World), (callFunc f args).run Tryz.prog w = .ok (.enter f args) w)
    (hf : Hid (∀ (c : UInt8) (w : World), Calls Tryz.prog f #[.int .u8 (c.toNat : Int)] w fun e w' => e = .returned (.bool (p c)) ∧ w' = w)) :
    Calls Tryz.prog 179 #[.pointer (some ⟨rb, 0, none⟩), .func (.func f) #[] #[]] w
      fun e w' => (∃ t : ByteArray, e = .returned (.string t) ∧ t.data.toList = r.takeWhile p) ∧ Rd w' rb m (r.dropWhile p) ∧ Kept [rb] w w' := by
  unfold maxLen at hm
  obtain ⟨k0, hk, hr⟩ := h
  have HR : Hid (r = m.data.toList.drop k0) := hr
  clear hr
  have H := hk
  obtain ⟨h0, h1, h2⟩ := hk.cells
  have hk2 := hk.2
  clear hk
  go_enter Tryz.func179, Tryz.ntmps179
  go_wp2
  go_loopg [] (m.size - k0) (fun g wr => ∃ k : Nat, g = m.size - k ∧ RdK wr rb m k ∧ Kept [rb] w wr ∧ PassInv p m.data.toList k0 k)
  case atStart => exact ⟨k0, by omega, H, Kept.refl _ _, PassInv.start _ _ _⟩
  case round =>
    obtain ⟨k, hg, hrd, hkept, hpi⟩ := hrel
    obtain ⟨g0, g1, g2⟩ := hrd.cells
    have hkm := hrd.2
    have hb1 : (0 : Int) ≤ (k : Int) := by omega
    have hb0 : (0 : Int) ≤ (k0 : Int) := by omega
    have hb3 : (k0 : Int) ≤ (k : Int) := by have := hpi.1; omega
    have hb4 : (k : Int) ≤ (m.size : Int) := by omega
    have HG : Hid (gk = m.size - k) := hg
    clear hg h0 h1 h2
    by_cases hlt : k < m.size
    · have hb2 : (k : Int) < (m.size : Int) := by omega
      have hdn : (m.size ≤ k) = False := by simp; omega
      cases hp : p m[k] with
      | true =>
        go_wp2
        go_quiet (first | (go_at_call 110; exact Calls.quiet_of (done_k rb m k _ (hrd.drewN _))) | exact Calls.quiet_of_same (hf.out _ _))
        go_wp2
        go_roundg (m.size - (k + 1))
        case measure => rw [HG.out]; omega
        case rel => exact ⟨k + 1, rfl, (by have := RdK.set (k' := k + 1) (hrd.drewN nq) (by omega); exact this), (hkept.drewN nq).setCell (by simp) _, hpi.step (by simpa using hlt) hp⟩
      | false =>
        go_wp2
        go_quiet (first | (go_at_call 110; exact Calls.quiet_of (done_k rb m k _ (hrd.drewN _))) | exact Calls.quiet_of_same (hf.out _ _))
        go_wp2
        go_quiet (fail)
        go_wp2
        go_ret
        have hst := hpi.stop (fun _ => hp)
        rw [HR.out, hst.1, hst.2]
        refine ⟨⟨_, rfl, ?_⟩, ⟨k, hrd, rfl⟩, (hkept.drewN _).drewN _⟩
        simp
    · have hdn : decide (m.size ≤ k) = true := by simp; omega
      have hdn2 : (!decide (m.size ≤ k)) = false := by simp; omega
      go_wp2
      go_quiet (first | (go_at_call 110; exact Calls.quiet_of (done_k rb m k _ (hrd.drewN _))) | exact Calls.quiet_of_same (hf.out _ _))
      go_wp2
      go_quiet (fail)
      go_wp2
      go_ret
      have hst := hpi.stop (fun hk => absurd hk (by simp; omega))
      rw [HR.out, hst.1, hst.2]
      refine ⟨⟨_, rfl, ?_⟩, ⟨k, hrd, rfl⟩, (hkept.drewN _).drewN _⟩
      simp
end Go.Proofs.YtlpmjpmefdpcmaaGreatDoor
/- The contracts of strings.Builder's WriteByte at this program: the tool that lays the others finds no number for two types that no body names; here they are named by hand. -/
namespace Go.Proofs
open Go.Shelf Go.RowKit
def Tryz.wb_ren : Ren := { f := fun | 167 => 167 | 240 => 164 | 276 => 207 | n => n, t := fun | 0 => 0 | 4 => 4 | 5 => 5 | 9 => 9 | 20 => 20 | 37 => 60 | 70 => 96 | 72 => 98 | 75 => 142 | 80 => 100 | 164 => 162 | n => n, g := fun n => n }
theorem Tryz.wb_lays : Lays.n167 Tryz.prog Tryz.wb_ren := {
  mixed := by kernel_rfl
  f167 := by kernel_rfl
  f240 := by kernel_rfl
  f276 := by kernel_rfl
  t0 := by kernel_rfl
  a0 := Tryz.isAgg0
  z0 := Tryz.sizeOf0
  v0 := Tryz.zeroValue0
  t4 := by kernel_rfl
  a4 := Tryz.isAgg4
  z4 := Tryz.sizeOf4
  v4 := Tryz.zeroValue4
  t5 := by kernel_rfl
  a5 := Tryz.isAgg5
  z5 := Tryz.sizeOf5
  v5 := Tryz.zeroValue5
  t9 := by kernel_rfl
  a9 := Tryz.isAgg9
  z9 := Tryz.sizeOf9
  v9 := Tryz.zeroValue9
  t20 := by kernel_rfl
  a20 := Tryz.isAgg20
  z20 := Tryz.sizeOf20
  v20 := Tryz.zeroValue20
  t37 := by kernel_rfl
  a37 := Tryz.isAgg60
  z37 := Tryz.sizeOf60
  v37 := Tryz.zeroValue60
  t70 := by kernel_rfl
  a70 := Tryz.isAgg96
  z70 := Tryz.sizeOf96
  v70 := Tryz.zeroValue96
  t72 := by kernel_rfl
  a72 := Tryz.isAgg98
  z72 := Tryz.sizeOf98
  v72 := Tryz.zeroValue98
  t75 := by kernel_rfl
  a75 := Tryz.isAgg142
  z75 := Tryz.sizeOf142
  v75 := Tryz.zeroValue142
  t164 := by kernel_rfl
  a164 := Tryz.isAgg162
  z164 := Tryz.sizeOf162
  v164 := Tryz.zeroValue162 }
theorem Tryz.wb_extra : Builder.Extra Tryz.prog Tryz.wb_ren := {
  sizeBuilder := by kernel_rfl
  liesBuilder := by kernel_rfl
  t5 := Tryz.underlying5
  a5 := Tryz.isAgg5
  z5 := Tryz.sizeOf5
  v5 := Tryz.zeroValue5
  infoByte := by kernel_rfl
  cellsByte := by kernel_rfl
  sizeByte := by kernel_rfl
  neB5 := by decide }
theorem Tryz.writeByte (B b : Nat) (bs : List Value) (c : Int) (w : World) (h : Lib.IsBuilder 98 5 B b bs w) (hlen : bs.length + 1 ≤ 140737488355328) (hBw : B ≤ w.heap.size) :
    Calls Tryz.prog 167 #[.pointer (some ⟨b, 0, none⟩), .int .u8 c] w fun e w' => e = .returned .nilIface ∧ (Lib.BuilderAt 98 5 B b (.pointer (some ⟨b, 0, none⟩)) (bs ++ [.int .u8 c]) w' ∧ Below B w w') := Any.Builder_WriteByte Tryz.wb_lays Tryz.wb_extra B b bs c w h hlen hBw
end Go.Proofs
