/- A tree's block, and what a call that changes it leaves as it was; Len, Get; Put, out of what with and grown make; Drop, out of what without and shrunk make. -/
import Derived.Test.YtiplmlalhmldbaaLeb
namespace Go.Proofs.Ytiplmlalhmldbaa
open Go.RowKit Go.Shelf
theorem Sl.keptS {w w' : World} {p : Option Addr} {n c : Nat} {L : List Value} (h : Sl w p n c L) {X : Nat} {cs : Array Value} {T : TypeId} {fr : Nat × Nat} (hX : w.heap[X]? = some (.cells cs T fr)) (hs : w.heap.size ≤ w'.heap.size) (ho : ∀ k, k ≠ X → w'.heap[k]? = w.heap[k]?)
    (hne : cs.size < L.length) : Sl w' p n c L := by
  refine ⟨h.cap, h.len, h.one, fun h0 => ?_⟩
  obtain ⟨b, o, h1, h2, h3⟩ := h.lies h0
  have hb : b ≠ X := by
    rintro rfl
    have hu : L[L.length - 1]? = some L[L.length - 1] := List.getElem?_eq_getElem (by omega)
    have h4 := h3 _ _ hu
    rw [cell_of_row w b _ _ _ _ hX] at h4
    have := (Array.getElem?_eq_some_iff.1 h4).1
    omega
  exact ⟨b, o, h1, by omega, fun j u hu => (World.cell?_of_block (a := ⟨b, o + j, none⟩) (ho b hb)).trans (h3 j u hu)⟩
theorem Lies.keptT {w w' : World} {X : Nat} {T : TypeId} {fr : Nat × Nat} {x y z : Value} (hX : w.heap[X]? = some (.cells #[x, y, z] T fr)) (hn : ∀ s, .string s ≠ x ∧ .string s ≠ y ∧ .string s ≠ z) (hs : w.heap.size ≤ w'.heap.size) (ho : ∀ k, k ≠ X → w'.heap[k]? = w.heap[k]?) :
    ∀ {h : Nat} {t : Nd h} {v : Value}, Ok h t → (h = 0 ∨ 0 < (its h t).length) → Lies w h t v → Lies w' h t v
  | 0, t, _, _, _, ⟨p, c, q, d, h1, h2, h3⟩ => ⟨p, c, q, d, h1, h2.kept hX hs ho (fun u hu hm => by
      obtain ⟨s, rfl⟩ := itC_head hu
      have := hn s
      simp_all), h3.kept hX hs ho (fun u hu => by cases hu)⟩
  | h + 1, t, _, ok, hp, ⟨p, c, q, d, L, h1, h2, h3, h4⟩ => by
    obtain ⟨_, _, o3, o4⟩ := ok
    have hp2 : 0 < t.1.length := by
      rcases hp with hp | hp
      · cases hp
      · exact hp
    refine ⟨p, c, q, d, L, h1, h2.kept hX hs ho (fun u hu hm => by
      obtain ⟨s, rfl⟩ := itC_head hu
      have := hn s
      simp_all), h3.keptS hX hs ho (by rw [h3.len]; simp; omega), fun i hi => Lies.keptT hX hn hs ho (o4 i hi).1 (.inr (o4 i hi).2) (h4 i hi)⟩
structure Onl (b : Nat) (w w' : World) : Prop where
  os : w'.os = w.os
  tape : w'.tape = w.tape
  output : w'.output = w.output
  size : w.heap.size ≤ w'.heap.size
  block : ∀ k, k < w.heap.size → k ≠ b → w'.heap[k]? = w.heap[k]?
theorem Onl.of {b : Nat} {w w' : World} (h : Below w.heap.size w w') : Onl b w w' := ⟨h.os, h.tape, h.output, h.size, fun k hk _ => h.block k hk⟩
theorem Onl.trans {b : Nat} {a c d : World} (h : Onl b a c) (k : Onl b c d) : Onl b a d :=
  ⟨k.os.trans h.os, k.tape.trans h.tape, k.output.trans h.output, Nat.le_trans h.size k.size, fun i hi hb => (k.block i (Nat.lt_of_lt_of_le hi h.size) hb).trans (h.block i hi hb)⟩
theorem Onl.setCell {b : Nat} {a c : World} (h : Onl b a c) (o : Nat) (v : Value) : Onl b a (c.setCell ⟨b, o, none⟩ v) :=
  h.trans ⟨rfl, rfl, rfl, by simp [World.setCell], fun k _ hk => heap_setCell_other _ _ _ _ hk⟩
theorem Onl.below {b B : Nat} {w w' : World} (h : Onl b w w') (hB : B ≤ b) (hw : B ≤ w.heap.size) : Below B w w' :=
  ⟨h.os, h.tape, h.output, h.size, fun k hk => h.block k (by omega) (by omega)⟩
structure Tr (w : World) (b : Nat) (h : Nat) (t : Nd h) (n : Nat) : Prop where
  ex : ∃ p c q d, w.heap[b]? = some (.cells #[.slice p (its h t).length c, .slice q (kdn h t) d, .int .i64 (n : Int)] 61 (0, 0)) ∧ Lies w h t (.agg #[.slice p (its h t).length c, .slice q (kdn h t) d])
theorem Tr.later {w w' : World} {b h : Nat} {t : Nd h} {n : Nat} (T : Tr w b h t n) (hb : Below w.heap.size w w') : Tr w' b h t n := by
  obtain ⟨p, c, q, d, h1, h2⟩ := T.ex
  exact ⟨p, c, q, d, (hb.block _ (lt_of_row h1)).trans h1, h2.later hb⟩
theorem Tr.lt {w : World} {b h : Nat} {t : Nd h} {n : Nat} (T : Tr w b h t n) : b < w.heap.size := by
  obtain ⟨p, c, q, d, h1, h2⟩ := T.ex
  exact lt_of_row h1
set_option maxHeartbeats 1000000 in
theorem new_any (w : World) : Calls Try.prog 7 #[] w fun e w' => e = .returned (.pointer (some ⟨w.heap.size, 0, none⟩)) ∧ Tr w' w.heap.size 0 ([] : List Im) 0 ∧ Below w.heap.size w w' := by
  go_enter Try.func7, Try.ntmps7
  go_wp2
  go_ret
  refine ⟨rfl, ⟨none, 0, none, 0, heap_alloc_new _ _, none, 0, none, 0, rfl, Sl.nil _, Sl.nil _⟩, (Below.refl _ w).alloc (Nat.le_refl _) _⟩
set_option maxHeartbeats 1000000 in
theorem len_any (b h : Nat) (t : Nd h) (n : Nat) (w : World) (T : Tr w b h t n) : Calls Try.prog 15 #[.pointer (some ⟨b, 0, none⟩)] w fun e w' => e = .returned (.int .i64 (n : Int)) ∧ Below w.heap.size w w' := by
  obtain ⟨p, c, q, d, h1, h2⟩ := T.ex
  have c2 := cell_of_row w _ 2 _ _ _ h1
  clear h1 h2 T
  go_enter Try.func15, Try.ntmps15
  go_wp2
  go_ret
  exact ⟨rfl, Below.refl _ _⟩
set_option maxHeartbeats 1000000 in
theorem tget_any (b h : Nat) (t : Nd h) (ok : Ok h t) (n : Nat) (key : ByteArray) (w : World) (T : Tr w b h t n) :
    Calls Try.prog 12 #[.pointer (some ⟨b, 0, none⟩), .string key] w fun e w' => e = .returned (.tuple #[.string (getT h t key).1, .bool (getT h t key).2]) ∧ Below w.heap.size w w' := by
  obtain ⟨p, c, q, d, h1, h2⟩ := T.ex
  have c0 := cell_of_row w _ 0 _ _ _ h1
  have c1 := cell_of_row w _ 1 _ _ _ h1
  have kg := get_any h t ok key _ w h2
  obtain ⟨G, hG⟩ : ∃ G, getT h t key = G := ⟨_, rfl⟩
  rw [hG] at kg
  rw [hG]
  obtain ⟨m1, hm1⟩ : ∃ m, (its h t).length = m := ⟨_, rfl⟩
  obtain ⟨m2, hm2⟩ : ∃ m, kdn h t = m := ⟨_, rfl⟩
  rw [hm1] at c0 kg
  rw [hm2] at c1 kg
  clear h1 h2 T hG hm1 hm2
  go_enter Try.func12, Try.ntmps12
  go_wp2_with fail
  refine kg.mono ?_
  rintro e w1 ⟨rfl, hb1⟩
  go_wp2
  exact bodyPost_ret (results_tmp2 rfl _ _ _) rfl ⟨rfl, hb1⟩
end Go.Proofs.Ytiplmlalhmldbaa
