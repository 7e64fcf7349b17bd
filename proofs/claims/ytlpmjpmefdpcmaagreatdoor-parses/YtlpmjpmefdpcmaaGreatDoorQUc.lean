import Derived.Test.YtlpmjpmefdpcmaaGreatDoorQPure5
import Derived.Test.YtlpmjpmefdpcmaaGreatDoorQSu
import Derived.Test.YtlpmjpmefdpcmaaGreatDoorQParse
import Derived.Test.YtlpmjpmefdpcmaaGreatDoorQSh
import Derived.Laws.IdiomStrings
import Derived.Test.YtlpmjpmefdpcmaaGreatDoorQBld4
import Derived.Test.YtlpmjpmefdpcmaaGreatDoorQTree1
import Derived.Laws.OwnMore
import Derived.Test.YtlpmjpmefdpcmaaGreatDoorQCl2
/- A cell of a block; rows of cells, one behind the other. No function of the program in it. -/
namespace Go.Proofs.YtlpmjpmefdpcmaaGreatDoor
open Go.RowKit Scrub
theorem block_set {w : World} {b : Nat} {cs : List Value} {t : TypeId} (h : w.heap[b]? = some (.cells cs.toArray t (0, 0))) (i : Nat) (u : Value) : (w.setCell ⟨b, i, none⟩ u).heap[b]? = some (.cells (cs.set i u).toArray t (0, 0)) := by
  simp [World.setCell, Array.getElem?_modify, h]
theorem flat_get (k : Nat) : ∀ (R : List (List Value)) (i j : Nat) (hi : i < R.length), (∀ r ∈ R, r.length = k) → j < k → R.flatten[i * k + j]? = (R[i])[j]?
  | [], i, j, hi, _, _ => by simp at hi
  | r :: t, 0, j, _, h, hj => by
    have := h r List.mem_cons_self
    rw [List.flatten_cons, List.getElem?_append_left (by omega)]
    simp
  | r :: t, i + 1, j, hi, h, hj => by
    have ih := flat_get k t i j (by simpa using hi) (fun r hr => h r (List.mem_cons_of_mem _ hr)) hj
    have := h r List.mem_cons_self
    rw [List.flatten_cons, Nat.add_mul, List.getElem?_append_right (by omega), show i * k + 1 * k + j - r.length = i * k + j by omega, ih]
    simp
end Go.Proofs.YtlpmjpmefdpcmaaGreatDoor
/- The book of lists that came out: marks, both Parses. -/
namespace Go.Proofs.YtlpmjpmefdpcmaaGreatDoor
open Go.RowKit Scrub Go.Shelf
/-- The k-th mark. -/
def textP (k : Nat) : List UInt8 := [63, UInt8.ofNat (k % 256), UInt8.ofNat (k / 256 % 256)]
theorem conv_mark (w : World) (k : Nat) :
    (convert 60 9 (.slice (some ⟨w.heap.size, 0, none⟩) 3 3)).run Tryz.prog (w.alloc (.cells #[.int .u8 63, .int .u8 ((k : Int) % 256), .int .u8 ((k : Int) / 256 % 256)] 5)) = .ok (.string ⟨(textP k).toArray⟩) (w.alloc (.cells #[.int .u8 63, .int .u8 ((k : Int) % 256), .int .u8 ((k : Int) / 256 % 256)] 5)) := by
  refine run_convert_bytes_back _ _ _ _ ⟨w.heap.size, 0, none⟩ 3 (textP k) Tryz.underlying60 Tryz.underlying5 Tryz.underlying9 ?_
  have e1 : ((UInt8.ofNat (k % 256)).toNat : Int) = (k : Int) % 256 := by simp
  have e2 : ((UInt8.ofNat (k / 256 % 256)).toNat : Int) = (k : Int) / 256 % 256 := by simp
  intro j hj
  have hj3 : j = 0 ∨ j = 1 ∨ j = 2 := by
    have : j < 3 := hj
    omega
  rcases hj3 with rfl | rfl | rfl
  · show World.cell? _ ⟨w.heap.size, 0, none⟩ = _
    rw [World.cell?_alloc_at _ _ _ _ rfl]
    rfl
  · show World.cell? _ ⟨w.heap.size, 1, none⟩ = some (.int .u8 ((UInt8.ofNat (k % 256)).toNat : Int))
    rw [World.cell?_alloc_at _ _ _ _ rfl, e1]
    rfl
  · show World.cell? _ ⟨w.heap.size, 2, none⟩ = some (.int .u8 ((UInt8.ofNat (k / 256 % 256)).toNat : Int))
    rw [World.cell?_alloc_at _ _ _ _ rfl, e2]
    rfl
set_option maxRecDepth 100000 in
set_option maxHeartbeats 1000000 in
theorem markText_any (k : Nat) (w : World) (hk : k ≤ 1099511627776) : Calls Tryz.prog 68 #[.int .i64 (k : Int)] w fun e w' => e = .returned (.string ⟨(textP k).toArray⟩) ∧ Kept [] w w' := by
  have hcv := conv_mark w k
  have hk1 : Kept [] w (w.alloc (.cells #[.int .u8 63, .int .u8 ((k : Int) % 256), .int .u8 ((k : Int) / 256 % 256)] 5)) := (Kept.refl [] w).alloc _
  generalize textP k = T at *
  go_enter Tryz.func68, Tryz.ntmps68
  go_wp2_with fail
  go_ret
  exact ⟨rfl, hk1⟩
/-- What Parse answers. -/
def parseP (s : List UInt8) : List Ev := if 600 < s.length then [] else readP s
def parseE (s : List UInt8) : Int := if 600 < s.length then 1 else 0
theorem newTree_nil {w w' : World} (hk : Kept [] w w') : NewTree w w' (.slice none 0 0) [] := ⟨[], ⟨0, rfl, rfl, rfl⟩, by simp, by simp, hk⟩
theorem parse_any (s : List UInt8) (w : World) (hg : Glob w) :
    Calls Tryz.prog 23 #[.string ⟨s.toArray⟩] w fun e w' => ∃ v, e = .returned (.tuple #[v, .int .i64 (parseE s)]) ∧ NewTree w w' v (parseP s) := by
  have hsz : (⟨s.toArray⟩ : ByteArray).size = s.length := by simp [ByteArray.size]
  unfold parseP parseE
  by_cases h : 600 < s.length
  · rw [if_pos h, if_pos h]
    refine (parse_long ⟨s.toArray⟩ w (by omega)).mono ?_
    rintro e w' ⟨rfl, hk⟩
    exact ⟨_, rfl, newTree_nil hk⟩
  · rw [if_neg h, if_neg h]
    refine (parse_short ⟨s.toArray⟩ w (by omega) hg).mono ?_
    rintro e w' ⟨v, rfl, hn⟩
    exact ⟨v, rfl, by simpa using hn⟩
set_option maxRecDepth 100000 in
set_option maxHeartbeats 1000000 in
theorem rParse_any (s : List UInt8) (w : World) :
    Calls Tryz.prog 28 #[.string ⟨s.toArray⟩] w fun e w' => ∃ v, e = .returned (.tuple #[v, .int .i64 (parseE s)]) ∧ NewTree w w' v (parseP s) := by
  have hsz : (⟨s.toArray⟩ : ByteArray).size = s.length := by simp [ByteArray.size]
  unfold parseP parseE
  by_cases h : 600 < s.length
  · rw [if_pos h, if_pos h]
    have h' : (600 : Int) < (s.length : Int) := by omega
    go_enter Tryz.func28, Tryz.ntmps28
    go_wp2_with fail
    refine bodyPost_ret (v := .tuple #[.slice none 0 0, .int .i64 1]) (by simp [results, Tryz.results28, go_sem]) rfl ?_
    exact ⟨_, rfl, newTree_nil (Kept.refl _ _)⟩
  · rw [if_neg h, if_neg h]
    have h' : ((600 : Int) < (s.length : Int)) = False := by simp; omega
    have HR : Hid (Calls _ _ _ _ _) := rRead ⟨s.toArray⟩ w (by omega)
    go_enter Tryz.func28, Tryz.ntmps28
    go_wp2_with fail
    refine HR.out.mono ?_
    rintro e w' ⟨v, rfl, hn⟩
    go_wp2_with fail
    refine bodyPost_ret (v := .tuple #[v, .int .i64 0]) (by simp [results, Tryz.results28, go_sem]) rfl ?_
    exact ⟨v, rfl, by simpa using hn⟩
theorem known_read : readP [60, 80, 62, 97, 60, 98, 62, 99, 60, 47, 112, 62, 100] = [evOpen [112] [], evText [97], evOpen [98] [], evText [99], none, none, evText [100]] := by rfl
end Go.Proofs.YtlpmjpmefdpcmaaGreatDoor
/- Marks over lists in memory. No function of the program in it. -/
namespace Go.Proofs.YtlpmjpmefdpcmaaGreatDoor
open Go.RowKit Scrub Go.Shelf
/-- Cells that come again and again. -/
def again (n : Nat) (es : List Value) : List Value := (List.replicate n es).flatten
theorem again_len (n : Nat) (es : List Value) : (again n es).length = n * es.length := by simp [again]
theorem again_get (n : Nat) (es : List Value) (hp : 0 < es.length) (j : Nat) (hj : j < n * es.length) : (again n es)[j]? = es[j % es.length]? := by
  have hd : j / es.length < n := Nat.div_lt_of_lt_mul (by rw [Nat.mul_comm]; exact hj)
  have hm : j % es.length < es.length := Nat.mod_lt _ hp
  have e := flat_get es.length (List.replicate n es) (j / es.length) (j % es.length) (by simpa using hd) (fun r hr => by rw [(List.mem_replicate.1 hr).2]) hm
  rw [Nat.mul_comm, Nat.div_add_mod] at e
  unfold again
  rw [e]
  simp
theorem again_add (n m : Nat) (es : List Value) : again n es ++ again m es = again (n + m) es := by
  unfold again
  rw [← List.flatten_append, List.replicate_append_replicate]
/-- A list that reads as its owner wrote it. -/
def MK (w : World) (es : List Value) (v : Value) : Prop := ∃ a n c, v = .slice a n c ∧ n ≤ maxLen ∧ ∀ j, j < n * es.length → ∃ g, a = some ⟨g, 0, none⟩ ∧ w.cell? ⟨g, j, none⟩ = es[j % es.length]?
/-- Only marks are written over. -/
def Stamps (es : List Value) (S : List Nat) (w w' : World) : Prop := Kept S w w' ∧ ∀ x ∈ S, ∀ j, w'.cell? ⟨x, j, none⟩ = w.cell? ⟨x, j, none⟩ ∨ w'.cell? ⟨x, j, none⟩ = es[j % es.length]?
theorem Stamps.refl (es : List Value) (S : List Nat) (w : World) : Stamps es S w w := ⟨Kept.refl _ _, fun _ _ _ => .inl rfl⟩
theorem Stamps.trans {es : List Value} {S : List Nat} {a b c : World} (h : Stamps es S a b) (h' : Stamps es S b c) : Stamps es S a c := by
  refine ⟨h.1.trans h'.1, fun x hx j => ?_⟩
  rcases h'.2 x hx j with e | e
  · rcases h.2 x hx j with e' | e'
    · exact .inl (e.trans e')
    · exact .inr (e.trans e')
  · exact .inr e
theorem Stamps.of {es : List Value} {S : List Nat} {w w' : World} (h : Kept [] w w') (hS : ∀ x ∈ S, x < w.heap.size) : Stamps es S w w' := by
  refine ⟨h.mono (by simp), fun x hx j => .inl ?_⟩
  unfold World.cell?
  rw [h.block x (hS x hx) (by simp)]
theorem MK.stamps {es : List Value} {S : List Nat} {w w' : World} {v : Value} (h : MK w es v) (hp : 0 < es.length) (hs : Stamps es S w w') : MK w' es v := by
  obtain ⟨a, n, c, rfl, h0, h1⟩ := h
  refine ⟨a, n, c, rfl, h0, fun j hj => ?_⟩
  obtain ⟨g, e, hc⟩ := h1 j hj
  refine ⟨g, e, ?_⟩
  have hm : j % es.length < es.length := Nat.mod_lt _ hp
  by_cases hg : g ∈ S
  · rcases hs.2 g hg j with e' | e'
    · rw [e', hc]
    · exact e'
  · have hlt : (⟨g, j, none⟩ : Addr).block < w.heap.size := cell_lt (v := es[j % es.length]) (by rw [hc]; simp)
    rw [hs.1.cell hlt hg, hc]
theorem MK.kept {es : List Value} {S : List Nat} {w w' : World} {v : Value} (h : MK w es v) (hp : 0 < es.length) (hk : Kept S w w') (hb : ∀ b, v.ownBlock = some b → b ∉ S) : MK w' es v := by
  obtain ⟨a, n, c, rfl, h0, h1⟩ := h
  refine ⟨a, n, c, rfl, h0, fun j hj => ?_⟩
  obtain ⟨g, e, hc⟩ := h1 j hj
  subst e
  refine ⟨g, rfl, ?_⟩
  have hm : j % es.length < es.length := Nat.mod_lt _ hp
  have hlt : (⟨g, j, none⟩ : Addr).block < w.heap.size := cell_lt (v := es[j % es.length]) (by rw [hc]; simp)
  rw [hk.cell hlt (hb g rfl), hc]
theorem MK.of_row {w : World} {base : Nat} {e : TypeId} {es : List Value} {v : Value} {n : Nat} (h : w.ownsRow base e es.length v n (again n es)) (hp : 0 < es.length) : MK w es v := by
  rcases h.2 with ⟨rfl, rfl⟩ | ⟨g, cap, cur, rfl, _, _, hnc, hcm, _⟩
  · exact ⟨none, 0, 0, rfl, Nat.zero_le _, fun j hj => by simp at hj⟩
  · refine ⟨_, n, cap, rfl, Nat.le_trans hnc hcm, fun j hj => ⟨g, rfl, ?_⟩⟩
    have hm : j % es.length < es.length := Nat.mod_lt _ hp
    have hget := again_get n es hp j hj
    have := row_cell h (j := j) (u := es[j % es.length]) (by rw [hget]; simp)
    rw [this]
    simp
theorem splice_get (xs news : List Value) (p j : Nat) (hp : p + news.length ≤ xs.length) : (xs.take p ++ news ++ xs.drop (p + news.length))[j]? = if j < p then xs[j]? else if j < p + news.length then news[j - p]? else xs[j]? := by
  have hl : (xs.take p).length = p := by simp; omega
  by_cases h1 : j < p
  · rw [if_pos h1, List.append_assoc, List.getElem?_append_left (by omega), List.getElem?_take, if_pos h1]
  · rw [if_neg h1]
    by_cases h2 : j < p + news.length
    · rw [if_pos h2, List.append_assoc, List.getElem?_append_right (by omega), hl, List.getElem?_append_left (by omega)]
    · rw [if_neg h2, List.getElem?_append_right (by simp only [List.length_append, hl]; omega), List.getElem?_drop, List.length_append, hl, show p + news.length + (j - (p + news.length)) = j by omega]
theorem run_append_mark {P : Program} (w : World) (t ty e : TypeId) (i : TypeInfo) (z : Value) (bytes : Nat) (es : List Value) (ht : P.underlying t = some (.slice e)) (hi : P.info? e = some i) (hz : i.zero = some z)
    (hsize : i.size = es.length) (hby : i.bytes = bytes) (hzs : z.cells.size = es.length) (hsz : 0 < es.length)
    (v : Value) (n : Nat) (hown : w.ownsRow 0 e es.length v n (again n es))
    (a : Addr) (m c : Nat) (hnews : ∀ j u, (again m es)[j]? = some u → w.cell? (a.add j) = some u) (h1 : ∀ u ∈ es, u.oneCell' = true)
    (h63 : n + m ≤ maxLen) (hbytes : (n + m) * bytes ≤ 140737488355328) :
    ∃ v' w', (Builtin.append_ #[t, t] ty #[v, .slice (some a) m c]).run P w = .ok v' w' ∧ w'.ownsRow 0 e es.length v n (again n es) ∧ MK w' es v' ∧ Stamps es v.ownBlock.toList w w' ∧ Moved w v v' ∧ (∀ k, v'.ownBlock = some k → k < w'.heap.size) := by
  have hl : (again m es).length = m * es.length := again_len m es
  have h1' : ∀ u ∈ again m es, u.oneCell' = true := by
    intro u hu
    obtain ⟨r, hr, hu⟩ := List.mem_flatten.1 hu
    rw [(List.mem_replicate.1 hr).2] at hu
    exact h1 u hu
  obtain ⟨v', w', hr, h2, h3, h4⟩ := run_append_fp (P := P) w 0 t ty e i z es.length bytes ht hi hz hsize hby hzs hsz v n (again n es) hown a m c (again m es) hl hnews h1' h63 hbytes (Nat.zero_le _)
  rw [again_add] at h2
  have hmk := MK.of_row h2 hsz
  have hlt : ∀ k, v'.ownBlock = some k → k < w'.heap.size := by
    intro k hk
    rcases h2.2 with ⟨rfl, _⟩ | ⟨g, cap, cur, rfl, _, hgg, _⟩
    · cases hk
    · injection hk with hk
      subst hk
      exact (Array.getElem?_eq_some_iff.1 hgg).1
  rcases hown.2 with ⟨rfl, rfl⟩ | ⟨g, cap, cur, rfl, hb, hgg, hnc, hcm, hcs, htk⟩
  · exact ⟨v', w', hr, ⟨hown.1, .inl ⟨rfl, rfl⟩⟩, hmk, ⟨Kept.own h3, fun x hx => by simp [Value.ownBlock] at hx⟩, h4, hlt⟩
  · by_cases hroom : n + m ≤ cap
    · have hfit : n * i.size + (again m es).length ≤ cur.size := by rw [hl, hcs, hsize, ← Nat.add_mul]; exact Nat.mul_le_mul_right _ hroom
      have hr2 := run_append_room (P := P) w t ty e i ht hi g n cap cur hgg a m c (again m es) (by rw [hsize]; exact hl) hnews h1' hroom hfit
      rw [hr] at hr2
      injection hr2 with e1 e2
      have hh := setRow_heap w g cur (cur.toList.take (n * i.size) ++ again m es ++ cur.toList.drop (n * i.size + (again m es).length)).toArray e (0, 0) hgg
      rw [← e2] at hh
      have hsp := fun j => splice_get cur.toList (again m es) (n * i.size) j (by simpa using hfit)
      refine ⟨v', w', hr, ⟨hown.1, .inr ⟨g, cap, _, rfl, hb, hh, hnc, hcm, ?_, ?_⟩⟩, hmk, ⟨Kept.own h3, fun x hx j => ?_⟩, h4, hlt⟩
      · simp only [List.size_toArray, List.length_append, List.length_take, List.length_drop, Array.length_toList]
        omega
      · rw [← htk]
        apply List.ext_getElem?
        intro j
        rw [List.getElem?_take, List.getElem?_take]
        by_cases hj : j < n * es.length
        · rw [if_pos hj, if_pos hj]
          have := hsp j
          rw [if_pos (by rw [hsize]; exact hj)] at this
          simpa using this
        · rw [if_neg hj, if_neg hj]
      · have hxg : x = g := by simpa [Value.ownBlock] using hx
        subst hxg
        have c1 : w'.cell? ⟨x, j, none⟩ = (cur.toList.take (n * i.size) ++ again m es ++ cur.toList.drop (n * i.size + (again m es).length))[j]? := by
          unfold World.cell?
          rw [hh]
          simp
        have c2 : w.cell? ⟨x, j, none⟩ = cur.toList[j]? := by
          unfold World.cell?
          rw [hgg]
          simp
        rw [c1, c2, hsp j]
        by_cases hj : j < n * i.size
        · rw [if_pos hj]; exact .inl rfl
        · rw [if_neg hj]
          by_cases hj2 : j < n * i.size + (again m es).length
          · rw [if_pos hj2]
            right
            rw [again_get m es hsz _ (by omega), hsize]
            congr 1
            have : j = (j - n * es.length) + n * es.length := by rw [hsize] at hj; omega
            conv => rhs; rw [this]
            rw [Nat.add_mul_mod_self_right]
          · rw [if_neg hj2]; exact .inl rfl
    · have holds : ∀ j u, (again n es)[j]? = some u → w.cell? ((⟨g, 0, none⟩ : Addr).add j) = some u := hown.cells (g := g) rfl
      have hsmall : n + m ≤ 9223372036854775807 := by simp only [maxLen] at h63; omega
      have hr2 := run_append_grow (P := P) w t ty e i z ht hi hz ⟨g, 0, none⟩ n cap (again n es) (by rw [hsize]; exact hown.1) holds a m c (again m es) (by rw [hsize]; exact hl) hnews (by omega) (by omega) (growslice_fits (by omega) (by rw [hby]; exact hbytes))
      rw [hr] at hr2
      injection hr2 with e1 e2
      have hk : Kept [] w w' := by rw [e2]; exact (Kept.refl [] w).drew.alloc _
      have hgl : g < w.heap.size := (Array.getElem?_eq_some_iff.1 hgg).1
      refine ⟨v', w', hr, ownsRow_kept hown hk (by simp), hmk, Stamps.of hk (fun x hx => ?_), h4, hlt⟩
      have hxg : x = g := by simpa [Value.ownBlock] using hx
      omega
theorem wpList_append_mark {P : Program} (w : World) {ops : Array Oper} {rest : List Oper} {o : Oper} {a : Act} {Q : Exit → Act → World → Prop} (hgd : o.guard = none) (s x : Operand) (t : TypeId)
    (ho : o.op = .call { callee := .builtin .append, args := #[s, x], argTypes := #[t, t] })
    (e : TypeId) (i : TypeInfo) (z : Value) (bytes : Nat) (es : List Value) (ht : P.underlying t = some (.slice e)) (hi : P.info? e = some i) (hz : i.zero = some z)
    (hsize : i.size = es.length) (hby : i.bytes = bytes) (hzs : z.cells.size = es.length) (hsz : 0 < es.length)
    (v : Value) (n : Nat) (hs : a.eval s = v) (ad : Addr) (m c : Nat) (hx : a.eval x = .slice (some ad) m c) (hown : w.ownsRow 0 e es.length v n (again n es))
    (hnews : ∀ j u, (again m es)[j]? = some u → w.cell? (ad.add j) = some u) (h1 : ∀ u ∈ es, u.oneCell' = true)
    (h63 : n + m ≤ maxLen) (hbytes : (n + m) * bytes ≤ 140737488355328)
    (h : ∀ v' w', w'.ownsRow 0 e es.length v n (again n es) → MK w' es v' → Stamps es v.ownBlock.toList w w' → Moved w v v' → (∀ k, v'.ownBlock = some k → k < w'.heap.size) → wpList P ops Q rest (a.put o.dst v') w') : wpList P ops Q (o :: rest) a w := by
  refine wpList_plain hgd fun _ hK => ?_
  obtain ⟨v', w', hr, h2, h3, h4, h5, h6⟩ := run_append_mark (P := P) w t o.type e i z bytes es ht hi hz hsize hby hzs hsz v n hown ad m c hnews h1 h63 hbytes
  unfold Oper.wp execOp
  simp only [ho, resolve, invoke, builtin, Sem.run_bind, Sem.run_pure, Result.andThen_ok, List.map_toArray, List.map_cons, List.map_nil, hs, hx, hr]
  exact hK _ _ (h v' w' h2 h3 h4 h5 h6)
end Go.Proofs.YtlpmjpmefdpcmaaGreatDoor
/- The book: what was marked. No function of the program in it. -/
namespace Go.Proofs.YtlpmjpmefdpcmaaGreatDoor
open Go.RowKit Scrub Go.Shelf
def nMark (k : Nat) : List Value := [.string ⟨#[]⟩, .slice none 0 0, .slice none 0 0, .string ⟨(textP k).toArray⟩]
def aMark (k : Nat) : List Value := [.string ⟨(textP k).toArray⟩, .string ⟨#[]⟩]
/-- The book's cells. -/
def BookAt (w : World) (bk : Nat) (nv av wv ev : Value) : Prop := w.heap[bk]? = some (.cells #[nv, av, .slice none 0 0, wv, ev, .slice none 0 0, .slice none 0 0] 28 (0, 0))
/-- The blocks that the book itself holds of what was marked. -/
def rowsOf (bk : Nat) (nv av : Value) : List Nat := bk :: (nv.ownBlock.toList ++ av.ownBlock.toList)
structure BookM (w : World) (bk : Nat) (nv av wv ev : Value) (N A : List Value) (M : List Nat) : Prop where
  place : BookAt w bk nv av wv ev
  nrow : w.ownsRow 0 31 1 nv N.length N
  arow : w.ownsRow 0 40 1 av A.length A
  nd : (rowsOf bk nv av).Nodup
  n4 : N.length % 4 = 0
  a4 : A.length % 4 = 0
  nm : ∀ k x, N[k]? = some x → MK w (nMark (k / 4)) x
  am : ∀ k x, A[k]? = some x → MK w (aMark (k / 4)) x
  own : ∀ x ∈ N ++ A, ∀ b, x.ownBlock = some b → b ∈ M
  mlt : ∀ b ∈ M, b < w.heap.size ∧ b ∉ rowsOf bk nv av
theorem BookAt.lt {w : World} {bk : Nat} {nv av wv ev : Value} (h : BookAt w bk nv av wv ev) : bk < w.heap.size := (Array.getElem?_eq_some_iff.1 h).1
theorem BookAt.kept {S : List Nat} {w w' : World} {bk : Nat} {nv av wv ev : Value} (h : BookAt w bk nv av wv ev) (hk : Kept S w w') (hb : bk ∉ S) : BookAt w' bk nv av wv ev := (hk.block bk h.lt hb).trans h
theorem mem_rows {bk b : Nat} {nv av : Value} : b ∈ rowsOf bk nv av ↔ b = bk ∨ nv.ownBlock = some b ∨ av.ownBlock = some b := by
  unfold rowsOf
  simp [Option.mem_toList]
theorem rows_nd {bk : Nat} {nv av : Value} : (rowsOf bk nv av).Nodup ↔ nv.ownBlock ≠ some bk ∧ av.ownBlock ≠ some bk ∧ ∀ b, nv.ownBlock = some b → av.ownBlock ≠ some b := by
  unfold rowsOf
  cases nv.ownBlock with
  | none =>
    cases av.ownBlock with
    | none => simp
    | some b => simp [eq_comm]
  | some a =>
    cases av.ownBlock with
    | none => simp [eq_comm]
    | some b =>
      simp
      constructor
      · rintro ⟨⟨h1, h2⟩, h3⟩
        exact ⟨fun h => h1 h.symm, fun h => h2 h.symm, fun h => h3 h.symm⟩
      · rintro ⟨h1, h2, h3⟩
        exact ⟨⟨fun h => h1 h.symm, fun h => h2 h.symm⟩, fun h => h3 h.symm⟩
theorem BookM.kept {S : List Nat} {w w' : World} {bk : Nat} {nv av wv ev : Value} {N A : List Value} {M : List Nat} (h : BookM w bk nv av wv ev N A M) (hk : Kept S w w') (hS : ∀ b ∈ S, b ∉ rowsOf bk nv av ∧ b ∉ M) : BookM w' bk nv av wv ev N A M := by
  have hr : ∀ b, b ∈ rowsOf bk nv av → b ∉ S := fun b hb hc => (hS b hc).1 hb
  have hmm : ∀ b, b ∈ M → b ∉ S := fun b hb hc => (hS b hc).2 hb
  refine ⟨h.place.kept hk (hr _ (mem_rows.2 (.inl rfl))), ownsRow_kept h.nrow hk (fun k hk' => hr k (mem_rows.2 (.inr (.inl hk')))), ownsRow_kept h.arow hk (fun k hk' => hr k (mem_rows.2 (.inr (.inr hk')))), h.nd, h.n4, h.a4, ?_, ?_, h.own, fun b hb => ⟨Nat.lt_of_lt_of_le (h.mlt b hb).1 hk.size, (h.mlt b hb).2⟩⟩
  · intro k x hx
    exact (h.nm k x hx).kept (by simp [nMark]) hk (fun b hb => hmm b (h.own x (List.mem_append_left _ (List.mem_of_getElem? hx)) b hb))
  · intro k x hx
    exact (h.am k x hx).kept (by simp [aMark]) hk (fun b hb => hmm b (h.own x (List.mem_append_right _ (List.mem_of_getElem? hx)) b hb))
/-- The book has grown by what lay in X, and by what is new. -/
def Grew (bk : Nat) (nv av : Value) (M X : List Nat) (w : World) (nv' av' : Value) (M' : List Nat) : Prop :=
  (∀ b ∈ rowsOf bk nv' av', b ∈ rowsOf bk nv av ∨ w.heap.size ≤ b) ∧ ∀ b ∈ M', b ∈ M ∨ b ∈ X ∨ w.heap.size ≤ b
theorem get_snoc {A L : List Value} {k : Nat} {x : Value} (h : (A ++ L)[k]? = some x) : A[k]? = some x ∨ (A.length ≤ k ∧ k < A.length + L.length ∧ x ∈ L) := by
  by_cases hk : k < A.length
  · rw [List.getElem?_append_left hk] at h
    exact .inl h
  · rw [List.getElem?_append_right (by omega)] at h
    have := (List.getElem?_eq_some_iff.1 h).1
    exact .inr ⟨by omega, by omega, List.mem_of_getElem? h⟩
theorem BookM.addA {w w' : World} {bk : Nat} {nv av av' wv ev l x1 x2 x3 : Value} {N A : List Value} {M : List Nat} (h : BookM w bk nv av wv ev N A M)
    (hX : ∀ b, l.ownBlock = some b → b < w.heap.size ∧ b ∉ rowsOf bk nv av ∧ b ∉ M) (hk : Kept (bk :: (av.ownBlock.toList ++ l.ownBlock.toList)) w w') (hat : BookAt w' bk nv av' wv ev)
    (hrow : w'.ownsRow 0 40 1 av' (A.length + 4) (A ++ [l, x1, x2, x3])) (hm : ∀ x ∈ [l, x1, x2, x3], MK w' (aMark (A.length / 4)) x) (z : Nat) (hz : w.heap.size ≤ z) (hz' : z ≤ w'.heap.size)
    (hx : ∀ x ∈ [l, x1, x2, x3], ∀ b, x.ownBlock = some b → (l.ownBlock = some b ∨ w.heap.size ≤ b) ∧ b < z) (hav : ∀ b, av'.ownBlock = some b → av.ownBlock = some b ∨ z ≤ b) :
    ∃ M', BookM w' bk nv av' wv ev N (A ++ [l, x1, x2, x3]) M' ∧ Grew bk nv av M l.ownBlock.toList w nv av' M' := by
  obtain ⟨nd1, nd2, nd3⟩ := rows_nd.1 h.nd
  have hr : ∀ b, b ∈ rowsOf bk nv av' → b ∈ rowsOf bk nv av ∨ z ≤ b := by
    intro b hb
    rcases mem_rows.1 hb with hb | hb | hb
    · exact .inl (mem_rows.2 (.inl hb))
    · exact .inl (mem_rows.2 (.inr (.inl hb)))
    · rcases hav b hb with hb | hb
      · exact .inl (mem_rows.2 (.inr (.inr hb)))
      · exact .inr hb
  have hS : ∀ b, b ∈ M → b ∉ bk :: (av.ownBlock.toList ++ l.ownBlock.toList) := by
    intro b hb hc
    rcases List.mem_cons.1 hc with hc | hc
    · exact (h.mlt b hb).2 (mem_rows.2 (.inl hc))
    · rcases List.mem_append.1 hc with hc | hc
      · exact (h.mlt b hb).2 (mem_rows.2 (.inr (.inr (Option.mem_toList.1 hc))))
      · exact (hX b (Option.mem_toList.1 hc)).2.2 hb
  refine ⟨M ++ (l.ownBlock.toList ++ (x1.ownBlock.toList ++ (x2.ownBlock.toList ++ x3.ownBlock.toList))), ⟨hat, ?_, ?_, ?_, h.n4, ?_, ?_, ?_, ?_, ?_⟩, ?_, ?_⟩
  · refine ownsRow_kept h.nrow hk (fun k hk' hc => ?_)
    rcases List.mem_cons.1 hc with hc | hc
    · exact nd1 (hc ▸ hk')
    · rcases List.mem_append.1 hc with hc | hc
      · exact nd3 k hk' (Option.mem_toList.1 hc)
      · exact (hX k (Option.mem_toList.1 hc)).2.1 (mem_rows.2 (.inr (.inl hk')))
  · simpa using hrow
  · refine rows_nd.2 ⟨nd1, fun hc => ?_, fun b hb hc => ?_⟩
    · rcases hav bk hc with hc | hc
      · exact nd2 hc
      · have := h.place.lt
        omega
    · rcases hav b hc with hc | hc
      · exact nd3 b hb hc
      · have := own_lt h.nrow hb
        omega
  · have := h.a4
    simp
    omega
  · intro k x hx
    exact (h.nm k x hx).kept (by simp [nMark]) hk (fun b hb => hS b (h.own x (List.mem_append_left _ (List.mem_of_getElem? hx)) b hb))
  · intro k x hx
    rcases get_snoc hx with hx | ⟨h1, h2, hx⟩
    · exact (h.am k x hx).kept (by simp [aMark]) hk (fun b hb => hS b (h.own x (List.mem_append_right _ (List.mem_of_getElem? hx)) b hb))
    · have e : k / 4 = A.length / 4 := by
        have := h.a4
        simp at h2
        omega
      rw [e]
      exact hm x hx
  · intro x hx b hb
    rcases List.mem_append.1 hx with hx | hx
    · exact List.mem_append_left _ (h.own x (List.mem_append_left _ hx) b hb)
    · rcases List.mem_append.1 hx with hx | hx
      · exact List.mem_append_left _ (h.own x (List.mem_append_right _ hx) b hb)
      · simp at hx
        simp [Option.mem_toList]
        rcases hx with rfl | rfl | rfl | rfl <;> simp [hb]
  · intro b hb
    rcases List.mem_append.1 hb with hb | hb
    · refine ⟨Nat.lt_of_lt_of_le (h.mlt b hb).1 hk.size, fun hc => ?_⟩
      rcases hr b hc with hc | hc
      · exact (h.mlt b hb).2 hc
      · have := (h.mlt b hb).1
        omega
    · have hb' : ∃ x ∈ [l, x1, x2, x3], x.ownBlock = some b := by
        simp [Option.mem_toList] at hb
        simpa using hb
      obtain ⟨x, hxm, hxb⟩ := hb'
      obtain ⟨h1, h2⟩ := hx x hxm b hxb
      refine ⟨by omega, fun hc => ?_⟩
      rcases hr b hc with hc | hc
      · rcases h1 with h1 | h1
        · exact (hX b h1).2.1 hc
        · rcases mem_rows.1 hc with hc | hc | hc
          · have := h.place.lt
            omega
          · have := own_lt h.nrow hc
            omega
          · have := own_lt h.arow hc
            omega
      · omega
  · intro b hb
    rcases hr b hb with hb | hb
    · exact .inl hb
    · exact .inr (by omega)
  · intro b hb
    rcases List.mem_append.1 hb with hb | hb
    · exact .inl hb
    · have hb' : ∃ x ∈ [l, x1, x2, x3], x.ownBlock = some b := by
        simp [Option.mem_toList] at hb
        simpa using hb
      obtain ⟨x, hxm, hxb⟩ := hb'
      rcases (hx x hxm b hxb).1 with h1 | h1
      · exact .inr (.inl (Option.mem_toList.2 h1))
      · exact .inr (.inr h1)
theorem BookM.addN {w w' : World} {bk : Nat} {nv av nv' wv ev l x1 x2 x3 : Value} {N A : List Value} {M : List Nat} (h : BookM w bk nv av wv ev N A M)
    (hX : ∀ b, l.ownBlock = some b → b < w.heap.size ∧ b ∉ rowsOf bk nv av ∧ b ∉ M) (hk : Kept (bk :: (nv.ownBlock.toList ++ l.ownBlock.toList)) w w') (hat : BookAt w' bk nv' av wv ev)
    (hrow : w'.ownsRow 0 31 1 nv' (N.length + 4) (N ++ [l, x1, x2, x3])) (hm : ∀ x ∈ [l, x1, x2, x3], MK w' (nMark (N.length / 4)) x) (z : Nat) (hz : w.heap.size ≤ z) (hz' : z ≤ w'.heap.size)
    (hx : ∀ x ∈ [l, x1, x2, x3], ∀ b, x.ownBlock = some b → (l.ownBlock = some b ∨ w.heap.size ≤ b) ∧ b < z) (hav : ∀ b, nv'.ownBlock = some b → nv.ownBlock = some b ∨ z ≤ b) :
    ∃ M', BookM w' bk nv' av wv ev (N ++ [l, x1, x2, x3]) A M' ∧ Grew bk nv av M l.ownBlock.toList w nv' av M' := by
  obtain ⟨nd1, nd2, nd3⟩ := rows_nd.1 h.nd
  have hr : ∀ b, b ∈ rowsOf bk nv' av → b ∈ rowsOf bk nv av ∨ z ≤ b := by
    intro b hb
    rcases mem_rows.1 hb with hb | hb | hb
    · exact .inl (mem_rows.2 (.inl hb))
    · rcases hav b hb with hb | hb
      · exact .inl (mem_rows.2 (.inr (.inl hb)))
      · exact .inr hb
    · exact .inl (mem_rows.2 (.inr (.inr hb)))
  have hS : ∀ b, b ∈ M → b ∉ bk :: (nv.ownBlock.toList ++ l.ownBlock.toList) := by
    intro b hb hc
    rcases List.mem_cons.1 hc with hc | hc
    · exact (h.mlt b hb).2 (mem_rows.2 (.inl hc))
    · rcases List.mem_append.1 hc with hc | hc
      · exact (h.mlt b hb).2 (mem_rows.2 (.inr (.inl (Option.mem_toList.1 hc))))
      · exact (hX b (Option.mem_toList.1 hc)).2.2 hb
  refine ⟨M ++ (l.ownBlock.toList ++ (x1.ownBlock.toList ++ (x2.ownBlock.toList ++ x3.ownBlock.toList))), ⟨hat, ?_, ?_, ?_, ?_, h.a4, ?_, ?_, ?_, ?_⟩, ?_, ?_⟩
  · simpa using hrow
  · refine ownsRow_kept h.arow hk (fun k hk' hc => ?_)
    rcases List.mem_cons.1 hc with hc | hc
    · exact nd2 (hc ▸ hk')
    · rcases List.mem_append.1 hc with hc | hc
      · exact nd3 k (Option.mem_toList.1 hc) hk'
      · exact (hX k (Option.mem_toList.1 hc)).2.1 (mem_rows.2 (.inr (.inr hk')))
  · refine rows_nd.2 ⟨fun hc => ?_, nd2, fun b hb hc => ?_⟩
    · rcases hav bk hc with hc | hc
      · exact nd1 hc
      · have := h.place.lt
        omega
    · rcases hav b hb with hb | hb
      · exact nd3 b hb hc
      · have := own_lt h.arow hc
        omega
  · have := h.n4
    simp
    omega
  · intro k x hx
    rcases get_snoc hx with hx | ⟨h1, h2, hx⟩
    · exact (h.nm k x hx).kept (by simp [nMark]) hk (fun b hb => hS b (h.own x (List.mem_append_left _ (List.mem_of_getElem? hx)) b hb))
    · have e : k / 4 = N.length / 4 := by
        have := h.n4
        simp at h2
        omega
      rw [e]
      exact hm x hx
  · intro k x hx
    exact (h.am k x hx).kept (by simp [aMark]) hk (fun b hb => hS b (h.own x (List.mem_append_right _ (List.mem_of_getElem? hx)) b hb))
  · intro x hx b hb
    rcases List.mem_append.1 hx with hx | hx
    · rcases List.mem_append.1 hx with hx | hx
      · exact List.mem_append_left _ (h.own x (List.mem_append_left _ hx) b hb)
      · simp at hx
        simp [Option.mem_toList]
        rcases hx with rfl | rfl | rfl | rfl <;> simp [hb]
    · exact List.mem_append_left _ (h.own x (List.mem_append_right _ hx) b hb)
  · intro b hb
    rcases List.mem_append.1 hb with hb | hb
    · refine ⟨Nat.lt_of_lt_of_le (h.mlt b hb).1 hk.size, fun hc => ?_⟩
      rcases hr b hc with hc | hc
      · exact (h.mlt b hb).2 hc
      · have := (h.mlt b hb).1
        omega
    · have hb' : ∃ x ∈ [l, x1, x2, x3], x.ownBlock = some b := by
        simp [Option.mem_toList] at hb
        simpa using hb
      obtain ⟨x, hxm, hxb⟩ := hb'
      obtain ⟨h1, h2⟩ := hx x hxm b hxb
      refine ⟨by omega, fun hc => ?_⟩
      rcases hr b hc with hc | hc
      · rcases h1 with h1 | h1
        · exact (hX b h1).2.1 hc
        · rcases mem_rows.1 hc with hc | hc | hc
          · have := h.place.lt
            omega
          · have := own_lt h.nrow hc
            omega
          · have := own_lt h.arow hc
            omega
      · omega
  · intro b hb
    rcases hr b hb with hb | hb
    · exact .inl hb
    · exact .inr (by omega)
  · intro b hb
    rcases List.mem_append.1 hb with hb | hb
    · exact .inl hb
    · have hb' : ∃ x ∈ [l, x1, x2, x3], x.ownBlock = some b := by
        simp [Option.mem_toList] at hb
        simpa using hb
      obtain ⟨x, hxm, hxb⟩ := hb'
      rcases (hx x hxm b hxb).1 with h1 | h1
      · exact .inr (.inl (Option.mem_toList.2 h1))
      · exact .inr (.inr h1)
end Go.Proofs.YtlpmjpmefdpcmaaGreatDoor
