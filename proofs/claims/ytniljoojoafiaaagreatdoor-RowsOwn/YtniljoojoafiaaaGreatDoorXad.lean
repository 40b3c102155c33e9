/- A tree's block, and what a call that changes it leaves as it was; Len, Get; Put, out of what with and grown make; Drop, out of what without and shrunk make. A nil table: what each call answers. A block that is written over whole (put), and read whole. Plain facts of numbers in bytes: what is taken of bytes (tk), the bytes of a number (put), and that the two are each other's. What a call leaves as it was (Only), a cursor's block (Cur), and the small calls of a cursor: Err, Off, Fail, skip, At; each of a nil cursor and of one that is there. -/
import Derived.Test.YtniljoojoafiaaaGreatDoorXac
import Derived.Deep.MidRow
import Derived.Test.YtniljoojoafiaaaGreatDoorRows
import Derived.WalkKit
import Derived.WalkSpells
import Derived.WalkLawsBesides
import Derived.Deep.QuietTactic
import Derived.BigQuiet
namespace Go.Proofs.YtniljoojoafiaaaGreatDoor.B
open Go.RowKit Go.Shelf
set_option maxRecDepth 100000 in
theorem Sl.keptS {w w' : World} {p : Option Addr} {n c : Nat} {L : List Value} (h : Sl w p n c L) {X : Nat} {cs : Array Value} {T : TypeId} {fr : Nat × Nat} (hX : w.heap[X]? = some (.cells cs T fr)) (hs : w.heap.size ≤ w'.heap.size) (ho : ∀ k, k ≠ X → w'.heap[k]? = w.heap[k]?)
    (hne : cs.size < L.length) : Sl w' p n c L := by
  refine ⟨h.cap, h.len, h.one, fun h0 => ?_⟩
  obtain ⟨b, o, h1, h2, h3⟩ := h.lies h0
  have hb : b ≠ X := by
    rintro rfl
    have hu : L[L.length - 1]? = some L[L.length - 1] := List.getElem?_eq_getElem (by omega)
    have h4 := h3 _ _ hu
    rw [cell_of_row w b _ _ _ _ hX] at h4
    have := (Array.getElem?_eq_some_iff.1 h4).1
    omega
  exact ⟨b, o, h1, by omega, fun j u hu => (World.cell?_of_block (a := ⟨b, o + j, none⟩) (ho b hb)).trans (h3 j u hu)⟩
set_option maxRecDepth 100000 in
theorem Lies.keptT {w w' : World} {X : Nat} {T : TypeId} {fr : Nat × Nat} {x y z : Value} (hX : w.heap[X]? = some (.cells #[x, y, z] T fr)) (hn : ∀ s, .string s ≠ x ∧ .string s ≠ y ∧ .string s ≠ z) (hs : w.heap.size ≤ w'.heap.size) (ho : ∀ k, k ≠ X → w'.heap[k]? = w.heap[k]?) :
    ∀ {h : Nat} {t : Nd h} {v : Value}, Ok h t → (h = 0 ∨ 0 < (its h t).length) → Lies w h t v → Lies w' h t v
  | 0, t, _, _, _, ⟨p, c, q, d, h1, h2, h3⟩ => ⟨p, c, q, d, h1, h2.kept hX hs ho (fun u hu hm => by
      obtain ⟨s, rfl⟩ := itC_head hu
      have := hn s
      simp_all), h3.kept hX hs ho (fun u hu => by cases hu)⟩
  | h + 1, t, _, ok, hp, ⟨p, c, q, d, L, h1, h2, h3, h4⟩ => by
    obtain ⟨_, _, o3, o4⟩ := ok
    have hp2 : 0 < t.1.length := by
      rcases hp with hp | hp
      · cases hp
      · exact hp
    refine ⟨p, c, q, d, L, h1, h2.kept hX hs ho (fun u hu hm => by
      obtain ⟨s, rfl⟩ := itC_head hu
      have := hn s
      simp_all), h3.keptS hX hs ho (by rw [h3.len]; simp; omega), fun i hi => Lies.keptT hX hn hs ho (o4 i hi).1 (.inr (o4 i hi).2) (h4 i hi)⟩
structure Onl (b : Nat) (w w' : World) : Prop where
  os : w'.os = w.os
  tape : w'.tape = w.tape
  output : w'.output = w.output
  size : w.heap.size ≤ w'.heap.size
  block : ∀ k, k < w.heap.size → k ≠ b → w'.heap[k]? = w.heap[k]?
set_option maxRecDepth 100000 in
theorem Onl.of {b : Nat} {w w' : World} (h : Below w.heap.size w w') : Onl b w w' := ⟨h.os, h.tape, h.output, h.size, fun k hk _ => h.block k hk⟩
set_option maxRecDepth 100000 in
theorem Onl.trans {b : Nat} {a c d : World} (h : Onl b a c) (k : Onl b c d) : Onl b a d :=
  ⟨k.os.trans h.os, k.tape.trans h.tape, k.output.trans h.output, Nat.le_trans h.size k.size, fun i hi hb => (k.block i (Nat.lt_of_lt_of_le hi h.size) hb).trans (h.block i hi hb)⟩
set_option maxRecDepth 100000 in
theorem Onl.setCell {b : Nat} {a c : World} (h : Onl b a c) (o : Nat) (v : Value) : Onl b a (c.setCell ⟨b, o, none⟩ v) :=
  h.trans ⟨rfl, rfl, rfl, by simp [World.setCell], fun k _ hk => heap_setCell_other _ _ _ _ hk⟩
set_option maxRecDepth 100000 in
theorem Onl.below {b B : Nat} {w w' : World} (h : Onl b w w') (hB : B ≤ b) (hw : B ≤ w.heap.size) : Below B w w' :=
  ⟨h.os, h.tape, h.output, h.size, fun k hk => h.block k (by omega) (by omega)⟩
structure Tr (w : World) (b : Nat) (h : Nat) (t : Nd h) (n : Nat) : Prop where
  ex : ∃ p c q d, w.heap[b]? = some (.cells #[.slice p (its h t).length c, .slice q (kdn h t) d, .int .i64 (n : Int)] 110 (0, 0)) ∧ Lies w h t (.agg #[.slice p (its h t).length c, .slice q (kdn h t) d])
set_option maxRecDepth 100000 in
theorem Tr.later {w w' : World} {b h : Nat} {t : Nd h} {n : Nat} (T : Tr w b h t n) (hb : Below w.heap.size w w') : Tr w' b h t n := by
  obtain ⟨p, c, q, d, h1, h2⟩ := T.ex
  exact ⟨p, c, q, d, (hb.block _ (lt_of_row h1)).trans h1, h2.later hb⟩
set_option maxRecDepth 100000 in
theorem Tr.lt {w : World} {b h : Nat} {t : Nd h} {n : Nat} (T : Tr w b h t n) : b < w.heap.size := by
  obtain ⟨p, c, q, d, h1, h2⟩ := T.ex
  exact lt_of_row h1
set_option maxRecDepth 100000 in
set_option maxHeartbeats 1000000 in
theorem new_any (w : World) : Calls Tryz.prog 31 #[] w fun e w' => e = .returned (.pointer (some ⟨w.heap.size, 0, none⟩)) ∧ Tr w' w.heap.size 0 ([] : List Im) 0 ∧ Below w.heap.size w w' := by
  go_enter Tryz.func31, Tryz.ntmps31
  go_wp2
  go_ret
  refine ⟨rfl, ⟨none, 0, none, 0, heap_alloc_new _ _, none, 0, none, 0, rfl, Sl.nil _, Sl.nil _⟩, (Below.refl _ w).alloc (Nat.le_refl _) _⟩
set_option maxRecDepth 100000 in
set_option maxHeartbeats 1000000 in
theorem tget_any (b h : Nat) (t : Nd h) (ok : Ok h t) (n : Nat) (key : ByteArray) (w : World) (T : Tr w b h t n) :
    Calls Tryz.prog 51 #[.pointer (some ⟨b, 0, none⟩), .string key] w fun e w' => e = .returned (.tuple #[.string (getT h t key).1, .bool (getT h t key).2]) ∧ Below w.heap.size w w' := by
  obtain ⟨p, c, q, d, h1, h2⟩ := T.ex
  have c0 := cell_of_row w _ 0 _ _ _ h1
  have c1 := cell_of_row w _ 1 _ _ _ h1
  have kg := get_any h t ok key _ w h2
  obtain ⟨G, hG⟩ : ∃ G, getT h t key = G := ⟨_, rfl⟩
  rw [hG] at kg
  rw [hG]
  obtain ⟨m1, hm1⟩ : ∃ m, (its h t).length = m := ⟨_, rfl⟩
  obtain ⟨m2, hm2⟩ : ∃ m, kdn h t = m := ⟨_, rfl⟩
  rw [hm1] at c0 kg
  rw [hm2] at c1 kg
  clear h1 h2 T hG hm1 hm2
  go_enter Tryz.func51, Tryz.ntmps51
  go_wp2_with fail
  refine kg.mono ?_
  rintro e w1 ⟨rfl, hb1⟩
  go_wp2
  exact bodyPost_ret (results_tmp2 rfl _ _ _) rfl ⟨rfl, hb1⟩
end Go.Proofs.YtniljoojoafiaaaGreatDoor.B
namespace Go.Proofs.YtniljoojoafiaaaGreatDoor
open Go.RowKit Go.Shelf
attribute [local go_sem] Oper.semAt_some
set_option maxRecDepth 100000 in
theorem drop_nil (d : Int) (w : World) : Calls Tryz.prog 9 #[.pointer none, .int .u64 d] w fun e w' => e = .returned (.bool false) ∧ w' = w := by
  go_enter Tryz.func9, Tryz.ntmps9
  go_wp2
  go_ret
  exact ⟨rfl, rfl⟩
set_option maxRecDepth 100000 in
theorem len_nil (w : World) : Calls Tryz.prog 26 #[.pointer none] w fun e w' => e = .returned (.int .i64 0) ∧ w' = w := by
  go_enter Tryz.func26, Tryz.ntmps26
  go_wp2
  go_ret
  exact ⟨rfl, rfl⟩
set_option maxRecDepth 100000 in
theorem indexes_nil (w : World) : Calls Tryz.prog 27 #[.pointer none] w fun e w' => e = .returned (.slice none 0 0) ∧ w' = w := by
  go_enter Tryz.func27, Tryz.ntmps27
  go_wp2
  go_ret
  exact ⟨rfl, rfl⟩
set_option maxRecDepth 100000 in
theorem tclone_nil (w : World) : Calls Tryz.prog 12 #[.pointer none] w fun e w' => e = .returned (.pointer none) ∧ w' = w := by
  go_enter Tryz.func12, Tryz.ntmps12
  go_wp2
  go_ret
  exact ⟨rfl, rfl⟩
set_option maxRecDepth 100000 in
theorem tput_nil (d v k : Int) (b : Bool) (n : Int) (s : ByteArray) (pp np : Option Addr) (pn pc nn nc : Nat) (w : World) : Calls Tryz.prog 13 #[.pointer none, .agg #[.int .u64 d, .int .u64 v, .int .i64 k, .bool b, .int .i64 n, .string s, .slice pp pn pc, .slice np nn nc]] w fun e w' => e = .returned (.tuple #[]) ∧ Below w.heap.size w w' := by
  go_enter Tryz.func13, Tryz.ntmps13
  go_wp2
  exact bodyPost_ret (results_none Tryz.results13 _ _ _) rfl ⟨rfl, (Below.refl _ w).alloc (Nat.le_refl _) _⟩
set_option maxRecDepth 100000 in
theorem addIndex_nil (f : ByteArray) (w : World) : Calls Tryz.prog 11 #[.pointer none, .string f] w fun e w' => e = .returned (.bool false) ∧ Below w.heap.size w w' := by
  go_enter Tryz.func11, Tryz.ntmps11
  go_wp2_with fail
  go_quiet (fail)
  go_wp2
  go_ret
  exact ⟨rfl, ((Below.refl _ w).alloc (Nat.le_refl _) _).trans ⟨rfl, rfl, rfl, Nat.le_refl _, fun _ _ => rfl⟩⟩
end Go.Proofs.YtniljoojoafiaaaGreatDoor
namespace Go.Proofs.YtniljoojoafiaaaGreatDoor
open Go.RowKit Go.Shelf
theorem lt_of_row {W : World} {g : Nat} {o : Obj} (h1 : W.heap[g]? = some o) : g < W.heap.size := (Array.getElem?_eq_some_iff.1 h1).1
theorem cell_later {w w' : World} {b o : Nat} (hb : Below w.heap.size w w') (h : b < w.heap.size) : w'.cell? ⟨b, o, none⟩ = w.cell? ⟨b, o, none⟩ := World.cell?_of_block (a := ⟨b, o, none⟩) (hb.block b h)
theorem there_of_row {w : World} {z : Nat} {cs : Array Value} {t : TypeId} (h : w.heap[z]? = some (.cells cs t (0, 0))) {n : Nat} (hn : n ≤ cs.size) : w.there z 0 n := by
  intro j hj
  have e : (0 : Nat) + j = j := Nat.zero_add j
  rw [e]
  refine ⟨?_, frozen_of_row w _ j _ _ h⟩
  rw [cell_of_row w z j cs t _ h]
  simp
  omega
def put (w : World) (z : Nat) (vs : Array Value) : World := w.setCells z 0 vs.toList
theorem store_row {w : World} {z : Nat} {cs : Array Value} {t : TypeId} (h : w.heap[z]? = some (.cells cs t (0, 0))) (T : TypeId) (vs : Array Value) (hn : vs.size = cs.size) (hi : (Tryz.prog.info? T).map (·.size) = some vs.size) (h1 : vs.all (·.oneCell') = true) :
    (Instr.storeAt T (.pointer (some ⟨z, 0, none⟩)) (.agg vs)).run Tryz.prog w = .ok () (put w z vs) :=
  run_storeAt_mid w z 0 T vs (there_of_row h (by omega)) hi h1
theorem load_row {w : World} {z : Nat} {cs : Array Value} {t : TypeId} (h : w.heap[z]? = some (.cells cs t (0, 0))) (T : TypeId) (d : TypeDesc) (hu : Tryz.prog.underlying T = some d) (hd : d.isRow = true) (hi : (Tryz.prog.info? T).map (·.size) = some cs.size) :
    (Instr.loadAt T (.pointer (some ⟨z, 0, none⟩))).run Tryz.prog w = .ok (.agg cs) w := by
  have := run_loadAt_mid (P := Tryz.prog) w z 0 T cs.toList d (fun j v hv => by rw [Nat.zero_add, cell_of_row w z j cs t _ h]; simpa using hv) hu hd (by simpa using hi)
  simpa using this
theorem take_set_at : ∀ (l : List Value) (o : Nat) (v : Value), o < l.length → (l.set o v).take (o + 1) = l.take o ++ [v]
  | [], _, _, h => by simp at h
  | _ :: _, 0, _, _ => by simp
  | x :: l, o + 1, v, h => by
    have := take_set_at l o v (by simpa using h)
    simp [this]
theorem heap_setCells_full (g : Nat) (t : TypeId) : ∀ (vs : List Value) (o : Nat) (W : World) (cs : Array Value), W.heap[g]? = some (.cells cs t (0, 0)) → o + vs.length = cs.size →
    (W.setCells g o vs).heap[g]? = some (.cells (cs.toList.take o ++ vs).toArray t (0, 0))
  | [], o, W, cs, h, hl => by
    simp only [World.setCells, List.append_nil]
    rw [h, List.take_of_length_le (by simp at hl; simp; omega)]
  | v :: r, o, W, cs, h, hl => by
    simp only [World.setCells]
    simp at hl
    rw [heap_setCells_full g t r (o + 1) _ (cs.setIfInBounds o v) (heap_setCell_same W g o cs t v h) (by simp; omega)]
    congr 3
    have : (cs.setIfInBounds o v).toList.take (o + 1) = cs.toList.take o ++ [v] := by
      rw [Array.toList_setIfInBounds, take_set_at cs.toList o v (by simp; omega)]
    rw [this]; simp
theorem put_row {W : World} {g : Nat} {t : TypeId} {cs : Array Value} (vs : Array Value) (h : W.heap[g]? = some (.cells cs t (0, 0))) (hl : vs.size = cs.size) :
    (put W g vs).heap[g]? = some (.cells vs t (0, 0)) := by
  unfold put
  rw [heap_setCells_full g t vs.toList 0 W cs h (by simp; omega)]
  simp
theorem below_setCells' {B g : Nat} {a : World} (hg : B ≤ g) : ∀ (vs : List Value) (o : Nat) (W : World), Below B a W → Below B a (W.setCells g o vs)
  | [], _, _, h => h
  | v :: r, o, _, h => below_setCells' hg r (o + 1) _ (h.setCell hg v)
theorem heap_setCells_else (g i : Nat) (hne : i ≠ g) : ∀ (vs : List Value) (o : Nat) (W : World), (W.setCells g o vs).heap[i]? = W.heap[i]?
  | [], _, _ => rfl
  | v :: r, o, W => by
    simp only [World.setCells]
    rw [heap_setCells_else g i hne r (o + 1) _, Below.heap_setCell _ _ _ i hne]
theorem size_setCells (g : Nat) : ∀ (vs : List Value) (o : Nat) (W : World), (W.setCells g o vs).heap.size = W.heap.size
  | [], _, _ => rfl
  | v :: r, o, W => by
    simp only [World.setCells]
    rw [size_setCells g r (o + 1) _]
    simp [World.setCell]
theorem put_other {w : World} {z j : Nat} (hj : j ≠ z) (vs : Array Value) : (put w z vs).heap[j]? = w.heap[j]? := heap_setCells_else z j hj _ _ _
theorem put_size (w : World) (z : Nat) (vs : Array Value) : (put w z vs).heap.size = w.heap.size := size_setCells z _ _ _
theorem put_below {B : Nat} {a w : World} (hb : Below B a w) (z : Nat) (hz : B ≤ z) (vs : Array Value) : Below B a (put w z vs) := below_setCells' hz _ _ _ hb
/- At the list of a region's operations. -/
theorem wpList_put {ops : Array Oper} {rest : List Oper} {op : Oper} {a : Act} {w : World} {Q : Exit → Act → World → Prop} (hgd : op.guard = none) (ty : TypeId) (x y : Operand) (ho : op.op = .store ty x y) (hds : op.dst = none)
    {z : Nat} {cs vs : Array Value} {t : TypeId} (hx : a.eval x = .pointer (some ⟨z, 0, none⟩)) (hy : a.eval y = .agg vs) (h0 : w.heap[z]? = some (.cells cs t (0, 0))) (hn : vs.size = cs.size) (hi : (Tryz.prog.info? ty).map (·.size) = some vs.size) (h1 : vs.all (·.oneCell') = true)
    (h : wpList Tryz.prog ops Q rest a (put w z vs)) : wpList Tryz.prog ops Q (op :: rest) a w := by
  refine wpList_store_mid hgd ty x y ho z 0 vs hx hy (there_of_row h0 (by omega)) hi h1 ?_
  rw [hds]
  exact h
theorem wpList_get {ops : Array Oper} {rest : List Oper} {op : Oper} {a : Act} {w : World} {Q : Exit → Act → World → Prop} (hgd : op.guard = none) (ty : TypeId) (x : Operand) (ho : op.op = .load ty x)
    {z : Nat} {cs : Array Value} {t : TypeId} (hx : a.eval x = .pointer (some ⟨z, 0, none⟩)) (h0 : w.heap[z]? = some (.cells cs t (0, 0))) {d : TypeDesc} (hu : Tryz.prog.underlying ty = some d) (hd : d.isRow = true) (hi : (Tryz.prog.info? ty).map (·.size) = some cs.size)
    (h : wpList Tryz.prog ops Q rest (a.put op.dst (.agg cs)) w) : wpList Tryz.prog ops Q (op :: rest) a w := by
  refine wpList_load_mid hgd ty x ho z 0 hx cs.toList d (fun j v hv => by rw [Nat.zero_add, cell_of_row w z j cs t _ h0]; simpa using hv) hu hd (by simpa using hi) ?_
  simpa using h
end Go.Proofs.YtniljoojoafiaaaGreatDoor
namespace Go.Proofs.YtniljoojoafiaaaGreatDoor.V
structure Tk where
  n : Nat
  sz : Nat
  er : Int
def tk : Nat → Nat → List UInt8 → Tk
  | _, _, [] => ⟨0, 0, 4⟩
  | n, i, b :: r =>
    if (0 < i ∧ b.toNat = 0) ∨ (i = 9 ∧ 1 < b.toNat) then ⟨0, 0, 6⟩
    else if b.toNat < 128 then ⟨n + b.toNat % 128 * 128 ^ i, i + 1, 0⟩
    else tk (n + b.toNat % 128 * 128 ^ i) (i + 1) r
def put (n : Nat) : List UInt8 := if n < 128 then [UInt8.ofNat n] else UInt8.ofNat (n % 128 + 128) :: put (n / 128)
  termination_by n
  decreasing_by omega
set_option maxRecDepth 100000 in
theorem put_lt {n : Nat} (h : n < 128) : put n = [UInt8.ofNat n] := by rw [put, if_pos h]
set_option maxRecDepth 100000 in
theorem put_ge {n : Nat} (h : 128 ≤ n) : put n = UInt8.ofNat (n % 128 + 128) :: put (n / 128) := by rw [put, if_neg (by omega)]
set_option maxRecDepth 100000 in
theorem toNat_ofNat_lt {n : Nat} (h : n < 256) : (UInt8.ofNat n).toNat = n := by
  rw [UInt8.toNat_ofNat']; omega
set_option maxRecDepth 100000 in
theorem put_len_pos (n : Nat) : 0 < (put n).length := by
  rw [put]; split <;> simp
set_option maxRecDepth 100000 in
theorem tk_err {r : List UInt8} : ∀ {n i : Nat}, (tk n i r).er ≠ 0 → (tk n i r).n = 0 ∧ (tk n i r).sz = 0 := by
  induction r with
  | nil => intro n i _; exact ⟨rfl, rfl⟩
  | cons b r ih =>
    intro n i h
    unfold tk at h ⊢
    by_cases h1 : (0 < i ∧ b.toNat = 0) ∨ (i = 9 ∧ 1 < b.toNat)
    · rw [if_pos h1]; exact ⟨rfl, rfl⟩
    · rw [if_neg h1] at h ⊢
      by_cases h2 : b.toNat < 128
      · rw [if_pos h2] at h; exact absurd rfl h
      · rw [if_neg h2] at h ⊢; exact ih h
set_option maxRecDepth 100000 in
theorem tk_er {r : List UInt8} : ∀ {n i : Nat}, (tk n i r).er = 0 ∨ (tk n i r).er = 4 ∨ (tk n i r).er = 6 := by
  induction r with
  | nil => intro n i; exact Or.inr (Or.inl rfl)
  | cons b r ih =>
    intro n i
    unfold tk
    by_cases h1 : (0 < i ∧ b.toNat = 0) ∨ (i = 9 ∧ 1 < b.toNat)
    · rw [if_pos h1]; exact Or.inr (Or.inr rfl)
    · rw [if_neg h1]
      by_cases h2 : b.toNat < 128
      · rw [if_pos h2]; exact Or.inl rfl
      · rw [if_neg h2]; exact ih
set_option maxRecDepth 100000 in
theorem pow9 {i : Nat} (hi : i ≤ 9) : 128 ^ i ≤ 9223372036854775808 := by
  have : (128 : Nat) ^ i ≤ 128 ^ 9 := Nat.pow_le_pow_right (by omega) hi
  exact Nat.le_trans this (by decide)
set_option maxRecDepth 100000 in
theorem step_lt {n i b : Nat} (hn : n < 128 ^ i) : n + b % 128 * 128 ^ i < 128 ^ (i + 1) := by
  have h1 : b % 128 ≤ 127 := by omega
  have h2 : b % 128 * 128 ^ i ≤ 127 * 128 ^ i := Nat.mul_le_mul_right _ h1
  rw [Nat.pow_succ]; omega
set_option maxRecDepth 100000 in
theorem step_lt64 {n i b : Nat} (hi : i ≤ 9) (hn : n < 128 ^ i) (hb : i = 9 → b ≤ 1) : n + b % 128 * 128 ^ i < 18446744073709551616 := by
  by_cases h : i = 9
  · subst h
    have hb1 := hb rfl
    have h9 : (128 : Nat) ^ 9 = 9223372036854775808 := by decide
    rw [h9] at hn ⊢
    have : b % 128 ≤ 1 := by omega
    omega
  · have h1 := step_lt (b := b) hn
    have h2 := pow9 (i := i + 1) (by omega)
    omega
set_option maxRecDepth 100000 in
theorem tk_bound {r : List UInt8} : ∀ {n i : Nat}, i ≤ 9 → n < 128 ^ i → (tk n i r).n < 18446744073709551616 ∧ (tk n i r).sz ≤ i + r.length ∧ (tk n i r).sz ≤ 10 := by
  induction r with
  | nil => intro n i _ _; exact ⟨by show (0 : Nat) < 18446744073709551616; decide, Nat.zero_le _, Nat.zero_le _⟩
  | cons b r ih =>
    intro n i hi hn
    unfold tk
    by_cases h1 : (0 < i ∧ b.toNat = 0) ∨ (i = 9 ∧ 1 < b.toNat)
    · rw [if_pos h1]; exact ⟨by decide, Nat.zero_le _, Nat.zero_le _⟩
    · rw [if_neg h1]
      have h9 : i = 9 → b.toNat ≤ 1 := fun h => by
        rcases Nat.lt_or_ge 1 b.toNat with hb | hb
        · exact absurd (Or.inr ⟨h, hb⟩) h1
        · exact hb
      by_cases h2 : b.toNat < 128
      · rw [if_pos h2]
        refine ⟨step_lt64 hi hn h9, ?_, ?_⟩
        · simp only [List.length_cons]; omega
        · show i + 1 ≤ 10; omega
      · rw [if_neg h2]
        have hi9 : i ≠ 9 := fun h => by have := h9 h; omega
        obtain ⟨a, b', c⟩ := ih (n := n + b.toNat % 128 * 128 ^ i) (i := i + 1) (by omega) (step_lt hn)
        refine ⟨a, ?_, c⟩
        simp only [List.length_cons]; omega
set_option maxRecDepth 100000 in
theorem mul_split (m p : Nat) : m % 128 * p + m / 128 * (p * 128) = m * p := by
  have h := Nat.div_add_mod m 128
  have : m / 128 * (p * 128) = 128 * (m / 128) * p := by
    rw [Nat.mul_comm p 128, ← Nat.mul_assoc, Nat.mul_comm (m / 128) 128]
  rw [this, ← Nat.add_mul, Nat.add_comm, h]
set_option maxRecDepth 100000 in
theorem tk_put : ∀ (m n i : Nat) (r : List UInt8), i ≤ 9 → (0 < i → 0 < m) → m * 128 ^ i < 18446744073709551616 →
    tk n i (put m ++ r) = ⟨n + m * 128 ^ i, i + (put m).length, 0⟩ := by
  intro m
  induction m using Nat.strongRecOn with
  | ind m ih =>
    intro n i r hi hm hb
    have h9 : i = 9 → m ≤ 1 := fun h => by
      subst h
      have e : (128 : Nat) ^ 9 = 9223372036854775808 := by decide
      rw [e] at hb; omega
    by_cases h : m < 128
    · rw [put_lt h]
      show tk n i (UInt8.ofNat m :: r) = _
      unfold tk
      rw [toNat_ofNat_lt (by omega : m < 256)]
      have h1 : ¬ ((0 < i ∧ m = 0) ∨ (i = 9 ∧ 1 < m)) := by
        rintro (⟨a, b⟩ | ⟨a, b⟩)
        · have := hm a; omega
        · have := h9 a; omega
      rw [if_neg h1, if_pos h, Nat.mod_eq_of_lt h]
      rfl
    · have hge : 128 ≤ m := by omega
      rw [put_ge hge]
      show tk n i (UInt8.ofNat (m % 128 + 128) :: (put (m / 128) ++ r)) = _
      unfold tk
      rw [toNat_ofNat_lt (by omega : m % 128 + 128 < 256)]
      have hi9 : i ≠ 9 := fun h => by have := h9 h; omega
      have h1 : ¬ ((0 < i ∧ m % 128 + 128 = 0) ∨ (i = 9 ∧ 1 < m % 128 + 128)) := by
        rintro (⟨a, b⟩ | ⟨a, b⟩)
        · omega
        · exact hi9 a
      rw [if_neg h1, if_neg (by omega)]
      have e1 : (m % 128 + 128) % 128 = m % 128 := by omega
      rw [e1]
      have hs := mul_split m (128 ^ i)
      have hp : (128 : Nat) ^ (i + 1) = 128 ^ i * 128 := Nat.pow_succ ..
      rw [ih (m / 128) (by omega) _ (i + 1) r (by omega) (fun _ => by omega) (by rw [hp]; omega), hp]
      congr 1
      · omega
      · simp only [List.length_cons]; omega
set_option maxRecDepth 100000 in
theorem put_tk : ∀ (l : List UInt8) (n i : Nat), (tk n i l).er = 0 →
    ∃ m, (0 < i → 0 < m) ∧ (tk n i l).n = n + m * 128 ^ i ∧ (tk n i l).sz = i + (put m).length ∧ l.take (put m).length = put m := by
  intro l
  induction l with
  | nil => intro n i h; exact absurd h (by show ¬ ((4 : Int) = 0); decide)
  | cons b r ih =>
    intro n i h
    unfold tk at h ⊢
    by_cases h1 : (0 < i ∧ b.toNat = 0) ∨ (i = 9 ∧ 1 < b.toNat)
    · rw [if_pos h1] at h; exact absurd h (by show ¬ ((6 : Int) = 0); decide)
    · rw [if_neg h1] at h ⊢
      have h0 : 0 < i → 0 < b.toNat := fun hi => by
        rcases Nat.eq_zero_or_pos b.toNat with hb | hb
        · exact absurd (Or.inl ⟨hi, hb⟩) h1
        · exact hb
      by_cases h2 : b.toNat < 128
      · rw [if_pos h2]
        refine ⟨b.toNat, h0, ?_, ?_, ?_⟩
        · show n + b.toNat % 128 * 128 ^ i = _
          rw [Nat.mod_eq_of_lt h2]
        · rw [put_lt h2]; rfl
        · rw [put_lt h2]; simp
      · rw [if_neg h2] at h ⊢
        obtain ⟨m, hm, hv, hs, ht⟩ := ih _ _ h
        have hm0 := hm (by omega)
        have hb8 : b.toNat < 256 := UInt8.toNat_lt b
        have hge : 128 ≤ b.toNat % 128 + m * 128 := by omega
        have e1 : (b.toNat % 128 + m * 128) % 128 = b.toNat % 128 := by omega
        have e2 : (b.toNat % 128 + m * 128) / 128 = m := by omega
        have e3 : b.toNat % 128 + 128 = b.toNat := by omega
        have hput : put (b.toNat % 128 + m * 128) = b :: put m := by
          rw [put_ge hge, e1, e2, e3, UInt8.ofNat_toNat]
        refine ⟨b.toNat % 128 + m * 128, fun _ => by omega, ?_, ?_, ?_⟩
        · rw [hv, Nat.pow_succ, Nat.add_mul, Nat.add_assoc]
          congr 2
          rw [Nat.mul_assoc, Nat.mul_comm 128 (128 ^ i)]
        · rw [hs, hput]; simp only [List.length_cons]; omega
        · rw [hput, List.length_cons, List.take_succ_cons, ht]
set_option maxRecDepth 100000 in
theorem put_len : ∀ (n k : Nat), n < 128 ^ (k + 1) → (put n).length ≤ k + 1 := by
  intro n
  induction n using Nat.strongRecOn with
  | ind n ih =>
    intro k hk
    by_cases h : n < 128
    · rw [put_lt h]; simp
    · have hge : 128 ≤ n := by omega
      cases k with
      | zero => omega
      | succ k =>
        rw [put_ge hge, List.length_cons]
        have := ih (n / 128) (by omega) k (by rw [Nat.pow_succ] at hk; omega)
        omega
set_option maxRecDepth 100000 in
theorem put_len10 {n : Nat} (h : n < 18446744073709551616) : (put n).length ≤ 10 := put_len n 9 (Nat.lt_trans h (by decide))
set_option maxRecDepth 100000 in
theorem take_put (n : Nat) (hn : n < 18446744073709551616) (r : List UInt8) : tk 0 0 (put n ++ r) = ⟨n, (put n).length, 0⟩ := by
  have := tk_put n 0 0 r (by omega) (fun h => absurd h (by omega)) (by simpa using hn)
  simpa using this
set_option maxRecDepth 100000 in
theorem put_take (l : List UInt8) (h : (tk 0 0 l).er = 0) : (tk 0 0 l).sz = (put (tk 0 0 l).n).length ∧ l.take (tk 0 0 l).sz = put (tk 0 0 l).n := by
  obtain ⟨m, _, hv, hs, ht⟩ := put_tk l 0 0 h
  have hv' : (tk 0 0 l).n = m := by simpa using hv
  have hs' : (tk 0 0 l).sz = (put m).length := by simpa using hs
  rw [hv', hs']
  exact ⟨rfl, ht⟩
set_option maxRecDepth 100000 in
theorem put_inj {n m : Nat} (hn : n < 18446744073709551616) (hm : m < 18446744073709551616) (h : put n = put m) : n = m := by
  have h1 := take_put n hn []
  have h2 := take_put m hm []
  rw [h] at h1
  exact (Tk.mk.inj (h1.symm.trans h2)).1
end Go.Proofs.YtniljoojoafiaaaGreatDoor.V
namespace Go.Proofs.YtniljoojoafiaaaGreatDoor.V
open Go.RowKit
structure Only (b : Nat) (w w' : World) : Prop where
  os : w'.os = w.os
  tape : w'.tape = w.tape
  output : w'.output = w.output
  size : w.heap.size ≤ w'.heap.size
  block : ∀ k, k < w.heap.size → k ≠ b → w'.heap[k]? = w.heap[k]?
set_option maxRecDepth 100000 in
theorem Only.refl (b : Nat) (w : World) : Only b w w := ⟨rfl, rfl, rfl, Nat.le_refl _, fun _ _ _ => rfl⟩
set_option maxRecDepth 100000 in
theorem Only.trans {b : Nat} {u v w : World} (h : Only b u v) (k : Only b v w) : Only b u w :=
  ⟨k.os.trans h.os, k.tape.trans h.tape, k.output.trans h.output, Nat.le_trans h.size k.size, fun i hi hb => (k.block i (Nat.lt_of_lt_of_le hi h.size) hb).trans (h.block i hi hb)⟩
set_option maxRecDepth 100000 in
theorem Only.drewN {b : Nat} {u v : World} (h : Only b u v) (n : Nat) : Only b u (v.drewN n) := ⟨h.os, h.tape, h.output, h.size, h.block⟩
set_option maxRecDepth 100000 in
theorem Only.setCell {b : Nat} {u v : World} (h : Only b u v) (o : Nat) (x : Value) : Only b u (v.setCell ⟨b, o, none⟩ x) :=
  ⟨h.os, h.tape, h.output, by simpa using h.size, fun k hk hb => (Below.heap_setCell v ⟨b, o, none⟩ x k hb).trans (h.block k hk hb)⟩
set_option maxRecDepth 100000 in
theorem Only.ofBelow {b : Nat} {u v : World} (h : Below u.heap.size u v) : Only b u v := ⟨h.os, h.tape, h.output, h.size, fun k hk _ => h.block k hk⟩
set_option maxRecDepth 100000 in
theorem Only.below {b B : Nat} {u v : World} (h : Only b u v) (hb : B ≤ b) (hB : B ≤ u.heap.size) : Below B u v :=
  ⟨h.os, h.tape, h.output, h.size, fun k hk => h.block k (by omega) (by omega)⟩
set_option maxRecDepth 100000 in
theorem lt_of_row {W : World} {g : Nat} {o : Obj} (h1 : W.heap[g]? = some o) : g < W.heap.size := by
  rcases Nat.lt_or_ge g W.heap.size with h | h
  · exact h
  · rw [Array.getElem?_eq_none h] at h1; cases h1
set_option maxRecDepth 100000 in
theorem row_setCell {W : World} {g k : Nat} {cs : Array Value} {t : TypeId} {fr : Nat × Nat} (h : W.heap[g]? = some (.cells cs t fr)) (x : Value) :
    (W.setCell ⟨g, k, none⟩ x).heap[g]? = some (.cells (cs.setIfInBounds k x) t fr) := by
  have hl := lt_of_row h
  rw [Array.getElem?_eq_getElem hl] at h
  injection h with h
  unfold World.setCell
  rw [Array.getElem?_modify]
  simp [hl, h]
end Go.Proofs.YtniljoojoafiaaaGreatDoor.V
