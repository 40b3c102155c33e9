/- A leaf without a key; a root that may have too many keys, or none: without of a leaf, grown and shrunk where nothing is to be done. A tree's block, and what a call that changes it leaves as it was; Len, Get; Put, out of what with and grown make; Drop, out of what without and shrunk make. A nil table: what each call answers. -/
import Derived.Test.YtniljoojoafiaaaGreatDoorBLea
namespace Go.Proofs.YtniljoojoafiaaaGreatDoor.B
open Go.RowKit Go.Shelf
set_option maxRecDepth 100000 in
set_option maxHeartbeats 4000000 in
theorem without_leaf (xs : List Im) (hr : Ris xs) (hn : xs.length ≤ 50) (key : ByteArray) (hk : isK xs key = true) (p : Option Addr) (c : Nat) (q : Option Addr) (d : Nat) (w : World) (hS : Sl w p xs.length c (itC xs)) :
    Calls Tryz.prog 53 #[.agg #[.slice p xs.length c, .slice q 0 d], .string key] w fun e w' => ∃ v, e = .returned v ∧ Lies w' 0 (delK xs key) v ∧ Below w.heap.size w w' := by
  have kf := fun W hS => find_any xs hr (by omega) key p c q 0 d W hS
  have kl := fun W => leaf_any p xs.length c q 0 d W
  have hlt := isK_lt hk
  rw [hk] at kf
  have kr := fun W hL => repl66 (itC xs) p xs.length c (itC []) none 0 0 (posK xs key) (posK xs key + 1) (by omega) (by omega) (by omega) (by omega) W hL (Sl.nil W)
  unfold delK
  obtain ⟨i0, hi⟩ : ∃ i, posK xs key = i := ⟨_, rfl⟩
  rw [hi] at kf hlt
  have e1 : ((i0 + 1 : Nat) : Int) = (i0 : Int) + 1 := by omega
  simp only [hi, e1] at kr
  rw [hi]
  clear e1 hi hk
  have hil : (i0 : Int) < (xs.length : Int) := by omega
  obtain ⟨w3, hw3⟩ : ∃ w3, (w.alloc (.cells #[.slice p xs.length c, .slice q 0 d] 108)).alloc (.cells #[.slice none 0 0, .slice none 0 0] 108) = w3 := ⟨_, rfl⟩
  have hb3 : Below w.heap.size w w3 := by rw [← hw3]; exact ((Below.refl _ w).alloc (Nat.le_refl _) _).alloc (by simp) _
  have r0 : w3.heap[w.heap.size]? = some (.cells #[.slice p xs.length c, .slice q 0 d] 108 (0, 0)) := by
    rw [← hw3, Below.heap_alloc _ _ _ (by simp)]; exact heap_alloc_new _ _
  have r2 : w3.heap[w.heap.size + 1]? = some (.cells #[.slice none 0 0, .slice none 0 0] 108 (0, 0)) := by
    rw [← hw3]
    have := heap_alloc_new (w.alloc (.cells #[.slice p xs.length c, .slice q 0 d] 108)) (.cells #[.slice none 0 0, .slice none 0 0] 108)
    simpa using this
  have a0 := cell_of_row w3 _ 0 _ _ _ r0
  have a1 := cell_of_row w3 _ 1 _ _ _ r0
  have lt0 := lt_of_row r0
  have lt2 := lt_of_row r2
  go_enter Tryz.func53, Tryz.ntmps53
  go_wp2_with fail
  refine (kf _ (hS.later hb3)).mono ?_
  rintro e w4 ⟨rfl, hb4⟩
  have d0 := (cell_later hb4 lt0).trans a0
  have d1 := (cell_later hb4 lt0).trans a1
  have hb04 := hb3.trans (hb4.mono hb3.size)
  clear a0 a1
  go_wp2_with fail
  refine (kl _).mono ?_
  rintro e w5 ⟨rfl, hb5⟩
  have hb45 := hb4.trans (hb5.mono hb4.size)
  have hb05 := hb04.trans (hb5.mono hb04.size)
  have r05 := (hb45.block _ lt0).trans r0
  have r25 := (hb45.block _ lt2).trans r2
  have a0 := cell_of_row w5 _ 0 _ _ _ r05
  have a1 := cell_of_row w5 _ 1 _ _ _ r05
  have kr5 := kr w5 (hS.later hb05)
  have lt25 := lt_of_row r25
  clear kr kf kl d0 d1
  go_wp2_with fail
  refine kr5.mono ?_
  rintro e w6 ⟨p7, c7, rfl, s7, hb6⟩
  have r26 := (hb6.block _ lt25).trans r25
  have c20 := cell_of_row w6 _ 0 _ _ _ r26
  have c21 := cell_of_row w6 _ 1 _ _ _ r26
  have g20 := frozen_of_row w6 _ 0 _ _ r26
  have g21 := frozen_of_row w6 _ 1 _ _ r26
  go_wp2
  refine bodyPost_ret (results_cell_row Tryz.results53 _ _ (w.heap.size + 1) 108 _ (0, 0) _ rfl (set2_row r26 _ _) Tryz.underlying108 rfl (by kernel_rfl)) rfl ⟨_, rfl, ?_, ?_⟩
  · refine leaf_end r26 (set2_size _ _ _ _) (set2_other _ _ _ _) ?_ (Sl.nil _)
    rw [itC_app, itC_take, itC_drop]
    simpa [itC] using s7
  · exact below_set2 (hb05.trans (hb6.mono hb05.size)) (by omega) _ _
set_option maxRecDepth 100000 in
set_option maxHeartbeats 2000000 in
theorem grown_small (p : Option Addr) (n c : Nat) (hn : n ≤ 7) (q : Option Addr) (m d : Nat) (w : World) :
    Calls Tryz.prog 57 #[.agg #[.slice p n c, .slice q m d]] w fun e w' => e = .returned (.agg #[.slice p n c, .slice q m d]) ∧ Below w.heap.size w w' := by
  have hn' : (n : Int) ≤ 7 := by omega
  go_enter Tryz.func57, Tryz.ntmps57
  go_wp2
  refine bodyPost_ret (v := .agg #[.slice p n c, .slice q m d]) ?_ rfl ⟨rfl, ?_⟩
  · simp [results, Tryz.results57, go_sem]
  · exact ((Below.refl _ w).alloc (Nat.le_refl _) _).alloc (by simp) _
set_option maxRecDepth 100000 in
set_option maxHeartbeats 2000000 in
theorem shrunk_leaf (p : Option Addr) (n c : Nat) (q : Option Addr) (d : Nat) (w : World) :
    Calls Tryz.prog 52 #[.agg #[.slice p n c, .slice q 0 d]] w fun e w' => e = .returned (.agg #[.slice p n c, .slice q 0 d]) ∧ Below w.heap.size w w' := by
  have kl := fun W => leaf_any p n c q 0 d W
  obtain ⟨w3, hw3⟩ : ∃ w3, (w.alloc (.cells #[.slice p n c, .slice q 0 d] 108)).alloc (.cells #[.slice none 0 0, .slice none 0 0] 108) = w3 := ⟨_, rfl⟩
  have hb3 : Below w.heap.size w w3 := by rw [← hw3]; exact ((Below.refl _ w).alloc (Nat.le_refl _) _).alloc (by simp) _
  have r0 : w3.heap[w.heap.size]? = some (.cells #[.slice p n c, .slice q 0 d] 108 (0, 0)) := by
    rw [← hw3, Below.heap_alloc _ _ _ (by simp)]; exact heap_alloc_new _ _
  have r2 : w3.heap[w.heap.size + 1]? = some (.cells #[.slice none 0 0, .slice none 0 0] 108 (0, 0)) := by
    rw [← hw3]
    have := heap_alloc_new (w.alloc (.cells #[.slice p n c, .slice q 0 d] 108)) (.cells #[.slice none 0 0, .slice none 0 0] 108)
    simpa using this
  have a0 := cell_of_row w3 _ 0 _ _ _ r0
  have a1 := cell_of_row w3 _ 1 _ _ _ r0
  go_enter Tryz.func52, Tryz.ntmps52
  go_wp2_with fail
  refine (kl _).mono ?_
  rintro e w4 ⟨rfl, hb4⟩
  have r04 := (hb4.block _ (lt_of_row r0)).trans r0
  have r24 := (hb4.block _ (lt_of_row r2)).trans r2
  have d0 := cell_of_row w4 _ 0 _ _ _ r04
  have d1 := cell_of_row w4 _ 1 _ _ _ r04
  have c20 := cell_of_row w4 _ 0 _ _ _ r24
  have c21 := cell_of_row w4 _ 1 _ _ _ r24
  have g20 := frozen_of_row w4 _ 0 _ _ r24
  have g21 := frozen_of_row w4 _ 1 _ _ r24
  go_wp2
  refine bodyPost_ret (results_cell_row Tryz.results52 _ _ (w.heap.size + 1) 108 _ (0, 0) _ rfl (set2_row r24 _ _) Tryz.underlying108 rfl (by kernel_rfl)) rfl ⟨rfl, ?_⟩
  exact below_set2 (hb3.trans (hb4.mono hb3.size)) (by omega) _ _
end Go.Proofs.YtniljoojoafiaaaGreatDoor.B
namespace Go.Proofs.YtniljoojoafiaaaGreatDoor.B
open Go.RowKit Go.Shelf
set_option maxRecDepth 100000 in
theorem Sl.keptS {w w' : World} {p : Option Addr} {n c : Nat} {L : List Value} (h : Sl w p n c L) {X : Nat} {cs : Array Value} {T : TypeId} {fr : Nat × Nat} (hX : w.heap[X]? = some (.cells cs T fr)) (hs : w.heap.size ≤ w'.heap.size) (ho : ∀ k, k ≠ X → w'.heap[k]? = w.heap[k]?)
    (hne : cs.size < L.length) : Sl w' p n c L := by
  refine ⟨h.cap, h.len, h.one, fun h0 => ?_⟩
  obtain ⟨b, o, h1, h2, h3⟩ := h.lies h0
  have hb : b ≠ X := by
    rintro rfl
    have hu : L[L.length - 1]? = some L[L.length - 1] := List.getElem?_eq_getElem (by omega)
    have h4 := h3 _ _ hu
    rw [cell_of_row w b _ _ _ _ hX] at h4
    have := (Array.getElem?_eq_some_iff.1 h4).1
    omega
  exact ⟨b, o, h1, by omega, fun j u hu => (World.cell?_of_block (a := ⟨b, o + j, none⟩) (ho b hb)).trans (h3 j u hu)⟩
set_option maxRecDepth 100000 in
theorem Lies.keptT {w w' : World} {X : Nat} {T : TypeId} {fr : Nat × Nat} {x y z : Value} (hX : w.heap[X]? = some (.cells #[x, y, z] T fr)) (hn : ∀ s, .string s ≠ x ∧ .string s ≠ y ∧ .string s ≠ z) (hs : w.heap.size ≤ w'.heap.size) (ho : ∀ k, k ≠ X → w'.heap[k]? = w.heap[k]?) :
    ∀ {h : Nat} {t : Nd h} {v : Value}, Ok h t → (h = 0 ∨ 0 < (its h t).length) → Lies w h t v → Lies w' h t v
  | 0, t, _, _, _, ⟨p, c, q, d, h1, h2, h3⟩ => ⟨p, c, q, d, h1, h2.kept hX hs ho (fun u hu hm => by
      obtain ⟨s, rfl⟩ := itC_head hu
      have := hn s
      simp_all), h3.kept hX hs ho (fun u hu => by cases hu)⟩
  | h + 1, t, _, ok, hp, ⟨p, c, q, d, L, h1, h2, h3, h4⟩ => by
    obtain ⟨_, _, o3, o4⟩ := ok
    have hp2 : 0 < t.1.length := by
      rcases hp with hp | hp
      · cases hp
      · exact hp
    refine ⟨p, c, q, d, L, h1, h2.kept hX hs ho (fun u hu hm => by
      obtain ⟨s, rfl⟩ := itC_head hu
      have := hn s
      simp_all), h3.keptS hX hs ho (by rw [h3.len]; simp; omega), fun i hi => Lies.keptT hX hn hs ho (o4 i hi).1 (.inr (o4 i hi).2) (h4 i hi)⟩
structure Onl (b : Nat) (w w' : World) : Prop where
  os : w'.os = w.os
  tape : w'.tape = w.tape
  output : w'.output = w.output
  size : w.heap.size ≤ w'.heap.size
  block : ∀ k, k < w.heap.size → k ≠ b → w'.heap[k]? = w.heap[k]?
set_option maxRecDepth 100000 in
theorem Onl.of {b : Nat} {w w' : World} (h : Below w.heap.size w w') : Onl b w w' := ⟨h.os, h.tape, h.output, h.size, fun k hk _ => h.block k hk⟩
set_option maxRecDepth 100000 in
theorem Onl.trans {b : Nat} {a c d : World} (h : Onl b a c) (k : Onl b c d) : Onl b a d :=
  ⟨k.os.trans h.os, k.tape.trans h.tape, k.output.trans h.output, Nat.le_trans h.size k.size, fun i hi hb => (k.block i (Nat.lt_of_lt_of_le hi h.size) hb).trans (h.block i hi hb)⟩
set_option maxRecDepth 100000 in
theorem Onl.setCell {b : Nat} {a c : World} (h : Onl b a c) (o : Nat) (v : Value) : Onl b a (c.setCell ⟨b, o, none⟩ v) :=
  h.trans ⟨rfl, rfl, rfl, by simp [World.setCell], fun k _ hk => heap_setCell_other _ _ _ _ hk⟩
set_option maxRecDepth 100000 in
theorem Onl.below {b B : Nat} {w w' : World} (h : Onl b w w') (hB : B ≤ b) (hw : B ≤ w.heap.size) : Below B w w' :=
  ⟨h.os, h.tape, h.output, h.size, fun k hk => h.block k (by omega) (by omega)⟩
structure Tr (w : World) (b : Nat) (h : Nat) (t : Nd h) (n : Nat) : Prop where
  ex : ∃ p c q d, w.heap[b]? = some (.cells #[.slice p (its h t).length c, .slice q (kdn h t) d, .int .i64 (n : Int)] 110 (0, 0)) ∧ Lies w h t (.agg #[.slice p (its h t).length c, .slice q (kdn h t) d])
set_option maxRecDepth 100000 in
theorem Tr.later {w w' : World} {b h : Nat} {t : Nd h} {n : Nat} (T : Tr w b h t n) (hb : Below w.heap.size w w') : Tr w' b h t n := by
  obtain ⟨p, c, q, d, h1, h2⟩ := T.ex
  exact ⟨p, c, q, d, (hb.block _ (lt_of_row h1)).trans h1, h2.later hb⟩
set_option maxRecDepth 100000 in
theorem Tr.lt {w : World} {b h : Nat} {t : Nd h} {n : Nat} (T : Tr w b h t n) : b < w.heap.size := by
  obtain ⟨p, c, q, d, h1, h2⟩ := T.ex
  exact lt_of_row h1
set_option maxRecDepth 100000 in
set_option maxHeartbeats 1000000 in
theorem new_any (w : World) : Calls Tryz.prog 31 #[] w fun e w' => e = .returned (.pointer (some ⟨w.heap.size, 0, none⟩)) ∧ Tr w' w.heap.size 0 ([] : List Im) 0 ∧ Below w.heap.size w w' := by
  go_enter Tryz.func31, Tryz.ntmps31
  go_wp2
  go_ret
  refine ⟨rfl, ⟨none, 0, none, 0, heap_alloc_new _ _, none, 0, none, 0, rfl, Sl.nil _, Sl.nil _⟩, (Below.refl _ w).alloc (Nat.le_refl _) _⟩
set_option maxRecDepth 100000 in
set_option maxHeartbeats 1000000 in
theorem tget_any (b h : Nat) (t : Nd h) (ok : Ok h t) (n : Nat) (key : ByteArray) (w : World) (T : Tr w b h t n) :
    Calls Tryz.prog 51 #[.pointer (some ⟨b, 0, none⟩), .string key] w fun e w' => e = .returned (.tuple #[.string (getT h t key).1, .bool (getT h t key).2]) ∧ Below w.heap.size w w' := by
  obtain ⟨p, c, q, d, h1, h2⟩ := T.ex
  have c0 := cell_of_row w _ 0 _ _ _ h1
  have c1 := cell_of_row w _ 1 _ _ _ h1
  have kg := get_any h t ok key _ w h2
  obtain ⟨G, hG⟩ : ∃ G, getT h t key = G := ⟨_, rfl⟩
  rw [hG] at kg
  rw [hG]
  obtain ⟨m1, hm1⟩ : ∃ m, (its h t).length = m := ⟨_, rfl⟩
  obtain ⟨m2, hm2⟩ : ∃ m, kdn h t = m := ⟨_, rfl⟩
  rw [hm1] at c0 kg
  rw [hm2] at c1 kg
  clear h1 h2 T hG hm1 hm2
  go_enter Tryz.func51, Tryz.ntmps51
  go_wp2_with fail
  refine kg.mono ?_
  rintro e w1 ⟨rfl, hb1⟩
  go_wp2
  exact bodyPost_ret (results_tmp2 rfl _ _ _) rfl ⟨rfl, hb1⟩
end Go.Proofs.YtniljoojoafiaaaGreatDoor.B
namespace Go.Proofs.YtniljoojoafiaaaGreatDoor
open Go.RowKit Go.Shelf
attribute [local go_sem] Oper.semAt_some
set_option maxRecDepth 100000 in
theorem drop_nil (d : Int) (w : World) : Calls Tryz.prog 9 #[.pointer none, .int .u64 d] w fun e w' => e = .returned (.bool false) ∧ w' = w := by
  go_enter Tryz.func9, Tryz.ntmps9
  go_wp2
  go_ret
  exact ⟨rfl, rfl⟩
set_option maxRecDepth 100000 in
theorem len_nil (w : World) : Calls Tryz.prog 26 #[.pointer none] w fun e w' => e = .returned (.int .i64 0) ∧ w' = w := by
  go_enter Tryz.func26, Tryz.ntmps26
  go_wp2
  go_ret
  exact ⟨rfl, rfl⟩
set_option maxRecDepth 100000 in
theorem indexes_nil (w : World) : Calls Tryz.prog 27 #[.pointer none] w fun e w' => e = .returned (.slice none 0 0) ∧ w' = w := by
  go_enter Tryz.func27, Tryz.ntmps27
  go_wp2
  go_ret
  exact ⟨rfl, rfl⟩
set_option maxRecDepth 100000 in
theorem tclone_nil (w : World) : Calls Tryz.prog 12 #[.pointer none] w fun e w' => e = .returned (.pointer none) ∧ w' = w := by
  go_enter Tryz.func12, Tryz.ntmps12
  go_wp2
  go_ret
  exact ⟨rfl, rfl⟩
set_option maxRecDepth 100000 in
theorem tput_nil (d v k : Int) (b : Bool) (n : Int) (s : ByteArray) (pp np : Option Addr) (pn pc nn nc : Nat) (w : World) : Calls Tryz.prog 13 #[.pointer none, .agg #[.int .u64 d, .int .u64 v, .int .i64 k, .bool b, .int .i64 n, .string s, .slice pp pn pc, .slice np nn nc]] w fun e w' => e = .returned (.tuple #[]) ∧ Below w.heap.size w w' := by
  go_enter Tryz.func13, Tryz.ntmps13
  go_wp2
  exact bodyPost_ret (results_none Tryz.results13 _ _ _) rfl ⟨rfl, (Below.refl _ w).alloc (Nat.le_refl _) _⟩
set_option maxRecDepth 100000 in
theorem addIndex_nil (f : ByteArray) (w : World) : Calls Tryz.prog 11 #[.pointer none, .string f] w fun e w' => e = .returned (.bool false) ∧ Below w.heap.size w w' := by
  go_enter Tryz.func11, Tryz.ntmps11
  go_wp2_with fail
  go_quiet (fail)
  go_wp2
  go_ret
  exact ⟨rfl, ((Below.refl _ w).alloc (Nat.le_refl _) _).trans ⟨rfl, rfl, rfl, Nat.le_refl _, fun _ _ => rfl⟩⟩
end Go.Proofs.YtniljoojoafiaaaGreatDoor
