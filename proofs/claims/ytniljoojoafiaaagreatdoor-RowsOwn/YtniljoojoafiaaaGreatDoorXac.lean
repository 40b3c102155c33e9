/- A leaf with a key, and without one: with, without of a leaf. A leaf without a key; a root that may have too many keys, or none: without of a leaf, grown and shrunk where nothing is to be done. -/
import Derived.Test.YtniljoojoafiaaaGreatDoorBGet
import Derived.Test.YtniljoojoafiaaaGreatDoorBAny
namespace Go.Proofs.YtniljoojoafiaaaGreatDoor.B
open Go.RowKit Go.Shelf
def SlV (n : Nat) (L : List Value) (v : Value) (W : World) : Prop := ∃ p c, v = .slice p n c ∧ Sl W p n c L
set_option maxRecDepth 100000 in
theorem SlV.later {n : Nat} {L : List Value} : ∀ v W W', SlV n L v W → Below W.heap.size W W' → SlV n L v W' := fun _ _ _ ⟨p, c, h1, h2⟩ hb => ⟨p, c, h1, h2.later hb⟩
def Nd0V (n : Nat) (L : List Value) (q : Option Addr) (d : Nat) (v : Value) (W : World) : Prop := ∃ p c, v = .agg #[.slice p n c, .slice q 0 d] ∧ Sl W p n c L
set_option maxRecDepth 100000 in
theorem Nd0V.later {n : Nat} {L : List Value} {q : Option Addr} {d : Nat} : ∀ v W W', Nd0V n L q d v W → Below W.heap.size W W' → Nd0V n L q d v W' := fun _ _ _ ⟨p, c, h1, h2⟩ hb => ⟨p, c, h1, h2.later hb⟩
set_option maxRecDepth 100000 in
theorem itC_take : ∀ (xs : List Im) (i : Nat), itC (xs.take i) = (itC xs).take (i * 2)
  | [], i => by simp [itC]
  | x :: xs, 0 => by simp [itC]
  | x :: xs, i + 1 => by rw [List.take_succ_cons, itC_cons, itC_cons, itC_take xs i, show (i + 1) * 2 = i * 2 + 1 + 1 by omega, List.take_succ_cons, List.take_succ_cons]
set_option maxRecDepth 100000 in
theorem itC_drop : ∀ (xs : List Im) (i : Nat), itC (xs.drop i) = (itC xs).drop (i * 2)
  | [], i => by simp [itC]
  | x :: xs, 0 => by simp
  | x :: xs, i + 1 => by rw [List.drop_succ_cons, itC_cons, itC_drop xs i, show (i + 1) * 2 = i * 2 + 1 + 1 by omega, List.drop_succ_cons, List.drop_succ_cons]
set_option maxRecDepth 100000 in
theorem itC_single (x : Im) : itC [x] = [.string x.1, .string x.2] := rfl
def insK (xs : List Im) (x : Im) : List Im := if isK xs x.1 then xs.take (posK xs x.1) ++ [x] ++ xs.drop (posK xs x.1 + 1) else xs.take (posK xs x.1) ++ [x] ++ xs.drop (posK xs x.1)
def delK (xs : List Im) (k : ByteArray) : List Im := xs.take (posK xs k) ++ xs.drop (posK xs k + 1)
set_option maxRecDepth 100000 in
theorem Sl.one_item (w : World) (x : Im) (T : TypeId) : Sl (w.alloc (.cells #[.string x.1, .string x.2] T)) (some ⟨w.heap.size, 0, none⟩) 1 1 (itC [x]) := by
  refine ⟨⟨Nat.le_refl _, by decide⟩, rfl, itC_one _, fun _ => ⟨w.heap.size, 0, rfl, by simp, fun j u hu => ?_⟩⟩
  rw [cell_of_row _ _ _ _ _ _ (heap_alloc_new w _), Nat.zero_add]
  rw [itC_single] at hu
  simpa using hu
set_option maxRecDepth 100000 in
theorem set2_size (w : World) (X : Nat) (a b : Value) : w.heap.size ≤ ((w.setCell ⟨X, 0, none⟩ a).setCell ⟨X, 1, none⟩ b).heap.size := by simp [World.setCell]
set_option maxRecDepth 100000 in
theorem set2_other (w : World) (X : Nat) (a b : Value) : ∀ k, k ≠ X → ((w.setCell ⟨X, 0, none⟩ a).setCell ⟨X, 1, none⟩ b).heap[k]? = w.heap[k]? := fun k hk => by
  rw [heap_setCell_other _ _ _ _ hk, heap_setCell_other _ _ _ _ hk]
set_option maxRecDepth 100000 in
theorem leaf_end {w w' : World} {X : Nat} {T : TypeId} {fr : Nat × Nat} (hX : w.heap[X]? = some (.cells zrow T fr)) (hs : w.heap.size ≤ w'.heap.size) (ho : ∀ k, k ≠ X → w'.heap[k]? = w.heap[k]?) {ys : List Im} {p q : Option Addr} {n c d : Nat}
    (hS : Sl w p n c (itC ys)) (hQ : Sl w q 0 d []) : Lies w' 0 ys (.agg #[.slice p n c, .slice q 0 d]) := by
  have e := hS.it
  subst e
  exact ⟨p, c, q, d, rfl, hS.kept hX hs ho (fun u hu hm => by
    obtain ⟨s, rfl⟩ := itC_head hu
    simp [zrow] at hm), hQ.kept hX hs ho (fun u hu => by cases hu)⟩
set_option maxRecDepth 100000 in
set_option maxHeartbeats 4000000 in
theorem with_leaf (xs : List Im) (hr : Ris xs) (hn : xs.length ≤ 50) (x : Im) (p : Option Addr) (c : Nat) (q : Option Addr) (d : Nat) (w : World) (hS : Sl w p xs.length c (itC xs)) (hQ : Sl w q 0 d []) :
    Calls Tryz.prog 58 #[.agg #[.slice p xs.length c, .slice q 0 d], .agg #[.string x.1, .string x.2]] w fun e w' => ∃ v, e = .returned v ∧ Lies w' 0 (insK xs x) v ∧ Below w.heap.size w w' := by
  have kf := fun W hS => find_any xs hr (by omega) x.1 p c q 0 d W hS
  have kl := fun W => leaf_any p xs.length c q 0 d W
  obtain ⟨w3, hw3⟩ : ∃ w3, ((w.alloc (.cells #[.slice p xs.length c, .slice q 0 d] 108)).alloc (.cells #[.string x.1, .string x.2] 119)).alloc (.cells #[.slice none 0 0, .slice none 0 0] 108) = w3 := ⟨_, rfl⟩
  have hb3 : Below w.heap.size w w3 := by rw [← hw3]; exact (((Below.refl _ w).alloc (Nat.le_refl _) _).alloc (by simp) _).alloc (by simp; omega) _
  have r0 : w3.heap[w.heap.size]? = some (.cells #[.slice p xs.length c, .slice q 0 d] 108 (0, 0)) := by
    rw [← hw3, Below.heap_alloc _ _ _ (by simp; omega), Below.heap_alloc _ _ _ (by simp)]; exact heap_alloc_new _ _
  have r1 : w3.heap[w.heap.size + 1]? = some (.cells #[.string x.1, .string x.2] 119 (0, 0)) := by
    rw [← hw3, Below.heap_alloc _ _ _ (by simp)]
    have := heap_alloc_new (w.alloc (.cells #[.slice p xs.length c, .slice q 0 d] 108)) (.cells #[.string x.1, .string x.2] 119)
    simpa using this
  have r2 : w3.heap[w.heap.size + 1 + 1]? = some (.cells #[.slice none 0 0, .slice none 0 0] 108 (0, 0)) := by
    rw [← hw3]
    have := heap_alloc_new ((w.alloc (.cells #[.slice p xs.length c, .slice q 0 d] 108)).alloc (.cells #[.string x.1, .string x.2] 119)) (.cells #[.slice none 0 0, .slice none 0 0] 108)
    simpa using this
  have a0 := cell_of_row w3 _ 0 _ _ _ r0
  have a1 := cell_of_row w3 _ 1 _ _ _ r0
  have a2 := cell_of_row w3 _ 0 _ _ _ r1
  have a3 := cell_of_row w3 _ 1 _ _ _ r1
  have hpl := posK_le xs x.1
  have lt0 := lt_of_row r0
  have lt1 := lt_of_row r1
  have lt2 := lt_of_row r2
  by_cases hh : isK xs x.1 = true
  · have hlt := isK_lt hh
    have hI : insK xs x = xs.take (posK xs x.1) ++ [x] ++ xs.drop (posK xs x.1 + 1) := by unfold insK; rw [if_pos hh]
    rw [hI]
    rw [hh] at kf
    have kr := fun W q' d' hL hM => repl66 (itC xs) p xs.length c (itC [x]) q' 1 d' (posK xs x.1) (posK xs x.1 + 1) (by omega) (by omega) (by omega) (by omega) W hL hM
    obtain ⟨i0, hi⟩ : ∃ i, posK xs x.1 = i := ⟨_, rfl⟩
    rw [hi] at kf hlt hpl
    have e1 : ((i0 + 1 : Nat) : Int) = (i0 : Int) + 1 := by omega
    simp only [hi, e1] at kr
    rw [hi]
    clear e1
    have hil : (i0 : Int) < (xs.length : Int) := by omega
    clear hh hI hi
    go_enter Tryz.func58, Tryz.ntmps58
    go_wp2_with fail
    refine (kf _ (hS.later hb3)).mono ?_
    rintro e w4 ⟨rfl, hb4⟩
    have d0 := (cell_later hb4 lt0).trans a0
    have d1 := (cell_later hb4 lt0).trans a1
    have d2 := (cell_later hb4 lt1).trans a2
    have d3 := (cell_later hb4 lt1).trans a3
    have r24 := (hb4.block _ lt2).trans r2
    have hb04 := hb3.trans (hb4.mono hb3.size)
    clear a0 a1 a2 a3
    have r04 := (hb4.block _ lt0).trans r0
    have r14 := (hb4.block _ lt1).trans r1
    have hS4 := hS.later hb04
    go_wp2
    refine any_tail (by kernel_rfl) 11 (by exact Nat.le_of_ble_eq_true rfl) (fun i => i + 15) (mixR [(6, SlV 1 (itC [x])), (7, SlV (i0 + 1 + (xs.length - (i0 + 1))) ((itC xs).take (i0 * 2) ++ itC [x] ++ (itC xs).drop ((i0 + 1) * 2))), (10, Nd0V (i0 + 1 + (xs.length - (i0 + 1))) ((itC xs).take (i0 * 2) ++ itC [x] ++ (itC xs).drop ((i0 + 1) * 2)) q d)] [.pointer (some ⟨w.heap.size, 0, none⟩), .slice p xs.length c, .int .i64 (i0 : Int), .int .i64 (i0 : Int), .int .i64 ((i0 : Int) + 1), .agg #[.string x.1, .string x.2], undef, undef, .pointer (some ⟨w.heap.size, 1, none⟩), .slice q 0 d, undef]) (by kernel_rfl) (by kernel_rfl) (by kernel_rfl) (by kernel_rfl) (mixR_later _ _ (stab_cons SlV.later (stab_cons SlV.later (stab_cons Nd0V.later stab_nil)))) ?step ?post
    case step =>
      intro i hi a W hrest hb hk
      have hp2 : a.eval (.tmp 2) = .pointer (some ⟨w.heap.size, 0, none⟩) := (hrest 2 (by intro i hi; (try split) <;> omega)).trans rfl
      have fp2 := ev hp2
      have hx2 : W.heap[w.heap.size]? = some (.cells #[.slice p xs.length c, .slice q 0 d] 108 (0, 0)) := (hb.block _ (lt_of_row r04)).trans r04
      have hp3 : a.eval (.tmp 3) = .pointer (some ⟨w.heap.size + 1, 0, none⟩) := (hrest 3 (by intro i hi; (try split) <;> omega)).trans rfl
      have fp3 := ev hp3
      have hx3 : W.heap[w.heap.size + 1]? = some (.cells #[.string x.1, .string x.2] 119 (0, 0)) := (hb.block _ (lt_of_row r14)).trans r14
      have hp5 : a.eval (.tmp 5) = .int .i64 (i0 : Int) := (hrest 5 (by intro i hi; (try split) <;> omega)).trans rfl
      have fp5 := ev hp5
      clear hrest
      have hwr : IntKind.i64.wrap ((i0 : Int) + 1) = (i0 : Int) + 1 := by rw [IntKind.wrap_i64]; omega
      have hb' : Below w4.heap.size w4 W → Below w4.heap.size w4 W := fun h => h
      obtain rfl | rfl | rfl | rfl | rfl | rfl | rfl | rfl | rfl | rfl | rfl : i = 0 ∨ i = 1 ∨ i = 2 ∨ i = 3 ∨ i = 4 ∨ i = 5 ∨ i = 6 ∨ i = 7 ∨ i = 8 ∨ i = 9 ∨ i = 10 := by omega
      · clear hi
        clear hk
        refine ⟨_, rfl, rfl, rfl, wp_value (v := .pointer (some ⟨w.heap.size, 0, none⟩)) (w' := W) ?_ ⟨_, rfl, Below.refl _ _, rfl⟩⟩
        go_simp
      · clear hi
        have e0 : a.eval (.tmp 15) = .pointer (some ⟨w.heap.size, 0, none⟩) := hk 0 (mem_of (by kernel_rfl))
        have f0 := ev e0
        have hc : W.cell? ⟨w.heap.size, 0, none⟩ = some (.slice p xs.length c) := cell_of_row W _ 0 _ _ _ hx2
        clear hk
        refine ⟨_, rfl, rfl, rfl, wp_value (v := .slice p xs.length c) (w' := W) ?_ ⟨_, rfl, Below.refl _ _, rfl⟩⟩
        go_simp
      · clear hi
        clear hk
        refine ⟨_, rfl, rfl, rfl, wp_value (v := .int .i64 (i0 : Int)) (w' := W) ?_ ⟨_, rfl, Below.refl _ _, rfl⟩⟩
        go_simp
      · clear hi
        clear hk
        refine ⟨_, rfl, rfl, rfl, wp_value (v := .int .i64 (i0 : Int)) (w' := W) ?_ ⟨_, rfl, Below.refl _ _, rfl⟩⟩
        go_simp
      · clear hi
        have e3 : a.eval (.tmp 18) = .int .i64 (i0 : Int) := hk 3 (mem_of (by kernel_rfl))
        have f3 := ev e3
        clear hk
        refine ⟨_, rfl, rfl, rfl, wp_value (v := .int .i64 ((i0 : Int) + 1)) (w' := W) ?_ ⟨_, rfl, Below.refl _ _, rfl⟩⟩
        go_simp
      · clear hi
        clear hk
        refine ⟨_, rfl, rfl, rfl, wp_load_row 119 (.tmp 3) rfl (w.heap.size + 1) hp3 119 #[.string x.1, .string x.2] (0, 0) _ hx3 Tryz.underlying119 rfl (by kernel_rfl) ?_⟩
        exact ⟨_, rfl, Below.refl _ _, rfl⟩
      · clear hi
        have e5 : a.eval (.tmp 20) = .agg #[.string x.1, .string x.2] := hk 5 (mem_of (by kernel_rfl))
        have f5 := ev e5
        clear hk
        refine ⟨_, rfl, rfl, rfl, wp_value (v := .slice (some ⟨W.heap.size, 0, none⟩) 1 1) (w' := W.alloc (.cells #[.string x.1, .string x.2] 119)) ?_ ⟨_, rfl, (Below.refl _ _).alloc (Nat.le_refl _) _, _, _, rfl, Sl.one_item W x 119⟩⟩
        go_simp
      · clear hi
        have e1 : a.eval (.tmp 16) = .slice p xs.length c := hk 1 (mem_of (by kernel_rfl))
        have f1 := ev e1
        have e2 : a.eval (.tmp 17) = .int .i64 (i0 : Int) := hk 2 (mem_of (by kernel_rfl))
        have f2 := ev e2
        have e4 : a.eval (.tmp 19) = .int .i64 ((i0 : Int) + 1) := hk 4 (mem_of (by kernel_rfl))
        have f4 := ev e4
        obtain ⟨p6, c6, e6, s6⟩ := show SlV 1 (itC [x]) (a.eval (.tmp 21)) W from hk 6 (mem_of (by kernel_rfl))
        have f6 := ev e6
        clear hk
        refine ⟨_, rfl, rfl, rfl, wp_enter (f := 78) (args := #[.slice p xs.length c, .int .i64 (i0 : Int), .int .i64 ((i0 : Int) + 1), .slice p6 1 c6]) ?_ ((kr W p6 c6 (hS4.later (hb' hb)) s6).mono ?_)⟩
        · go_simp
        · rintro e w5 ⟨p', c', rfl, hS5, hb5⟩
          exact ⟨_, rfl, _, rfl, hb5, p', c', rfl, hS5⟩
      · clear hi
        clear hk
        refine ⟨_, rfl, rfl, rfl, wp_value (v := .pointer (some ⟨w.heap.size, 1, none⟩)) (w' := W) ?_ ⟨_, rfl, Below.refl _ _, rfl⟩⟩
        go_simp
      · clear hi
        have e8 : a.eval (.tmp 23) = .pointer (some ⟨w.heap.size, 1, none⟩) := hk 8 (mem_of (by kernel_rfl))
        have f8 := ev e8
        have hc : W.cell? ⟨w.heap.size, 1, none⟩ = some (.slice q 0 d) := cell_of_row W _ 1 _ _ _ hx2
        clear hk
        refine ⟨_, rfl, rfl, rfl, wp_value (v := .slice q 0 d) (w' := W) ?_ ⟨_, rfl, Below.refl _ _, rfl⟩⟩
        go_simp
      · clear hi
        obtain ⟨p7, c7, e7, s7⟩ := show SlV (i0 + 1 + (xs.length - (i0 + 1))) ((itC xs).take (i0 * 2) ++ itC [x] ++ (itC xs).drop ((i0 + 1) * 2)) (a.eval (.tmp 22)) W from hk 7 (mem_of (by kernel_rfl))
        have f7 := ev e7
        have e9 : a.eval (.tmp 24) = .slice q 0 d := hk 9 (mem_of (by kernel_rfl))
        have f9 := ev e9
        clear hk
        refine ⟨_, rfl, rfl, rfl, wp_value (v := .agg #[.slice p7 (i0 + 1 + (xs.length - (i0 + 1))) c7, .slice q 0 d]) (w' := W) ?_ ⟨_, rfl, Below.refl _ _, p7, c7, rfl, s7⟩⟩
        go_simp
    case post =>
      intro V W hb hV
      obtain ⟨p7, c7, e10, s7⟩ := show Nd0V (i0 + 1 + (xs.length - (i0 + 1))) ((itC xs).take (i0 * 2) ++ itC [x] ++ (itC xs).drop ((i0 + 1) * 2)) q d (V 10) W from hV 10 (by omega)
      clear hV
      simp only [putAll, Nat.reduceAdd]
      rw [e10]
      simp only [Act.put, List.setIfInBounds_toArray, List.set_cons_zero, List.set_cons_succ]
      have hb4W := hb04.trans (hb.mono hb04.size)
      have r2W := (hb.block _ (lt_of_row r24)).trans r24
      have c20 := cell_of_row W _ 0 _ _ _ r2W
      have c21 := cell_of_row W _ 1 _ _ _ r2W
      have g20 := frozen_of_row W _ 0 _ _ r2W
      have g21 := frozen_of_row W _ 1 _ _ r2W
      change wpList _ _ _ [_] _ _
      go_wp2
      refine bodyPost_ret (results_cell_row Tryz.results58 _ _ (w.heap.size + 1 + 1) 108 _ (0, 0) _ rfl (set2_row r2W _ _) Tryz.underlying108 rfl (by kernel_rfl)) rfl ⟨_, rfl, ?_, ?_⟩
      · refine leaf_end r2W (set2_size _ _ _ _) (set2_other _ _ _ _) ?_ ((hQ.later hb04).later hb)
        rw [itC_app, itC_app, itC_take, itC_drop]
        exact s7
      · exact below_set2 hb4W (by omega) _ _
  · have hh0 : isK xs x.1 = false := by simpa using hh
    have hI : insK xs x = xs.take (posK xs x.1) ++ [x] ++ xs.drop (posK xs x.1) := by unfold insK; rw [if_neg hh]
    rw [hI]
    rw [hh0] at kf
    have kr := fun W q' d' hL hM => repl66 (itC xs) p xs.length c (itC [x]) q' 1 d' (posK xs x.1) (posK xs x.1) (by omega) (by omega) (by omega) (by omega) W hL hM
    obtain ⟨i0, hi⟩ : ∃ i, posK xs x.1 = i := ⟨_, rfl⟩
    rw [hi] at kf hpl
    simp only [hi] at kr
    rw [hi]
    clear hh hI hi hh0
    go_enter Tryz.func58, Tryz.ntmps58
    go_wp2_with fail
    refine (kf _ (hS.later hb3)).mono ?_
    rintro e w4 ⟨rfl, hb4⟩
    have d0 := (cell_later hb4 lt0).trans a0
    have d1 := (cell_later hb4 lt0).trans a1
    have hb04 := hb3.trans (hb4.mono hb3.size)
    clear a0 a1 a2 a3
    go_wp2_with fail
    refine (kl _).mono ?_
    rintro e w5 ⟨rfl, hb5⟩
    have hb45 := hb4.trans (hb5.mono hb4.size)
    have hb05 := hb04.trans (hb5.mono hb04.size)
    have r05 := (hb45.block _ lt0).trans r0
    have r15 := (hb45.block _ lt1).trans r1
    have r25 := (hb45.block _ lt2).trans r2
    have a0 := cell_of_row w5 _ 0 _ _ _ r05
    have a1 := cell_of_row w5 _ 1 _ _ _ r05
    have a2 := cell_of_row w5 _ 0 _ _ _ r15
    have a3 := cell_of_row w5 _ 1 _ _ _ r15
    have kr5 := kr (w5.alloc (.cells #[.string x.1, .string x.2] 119)) (some ⟨w5.heap.size, 0, none⟩) 1 ((hS.later hb05).later ((Below.refl _ w5).alloc (Nat.le_refl _) _)) (Sl.one_item w5 x 119)
    have lt25 := lt_of_row r25
    clear kr kf kl d0 d1
    go_wp2_with fail
    refine kr5.mono ?_
    rintro e w6 ⟨p7, c7, rfl, s7, hb6⟩
    have b56 : Below w5.heap.size w5 w6 := ((Below.refl _ w5).alloc (Nat.le_refl _) _).trans (hb6.mono (by simp))
    have r26 := (b56.block _ lt25).trans r25
    have c20 := cell_of_row w6 _ 0 _ _ _ r26
    have c21 := cell_of_row w6 _ 1 _ _ _ r26
    have g20 := frozen_of_row w6 _ 0 _ _ r26
    have g21 := frozen_of_row w6 _ 1 _ _ r26
    go_wp2
    refine bodyPost_ret (results_cell_row Tryz.results58 _ _ (w.heap.size + 1 + 1) 108 _ (0, 0) _ rfl (set2_row r26 _ _) Tryz.underlying108 rfl (by kernel_rfl)) rfl ⟨_, rfl, ?_, ?_⟩
    · refine leaf_end r26 (set2_size _ _ _ _) (set2_other _ _ _ _) ?_ (Sl.nil _)
      rw [itC_app, itC_app, itC_take, itC_drop]
      exact s7
    · exact below_set2 (hb05.trans (b56.mono hb05.size)) (by omega) _ _
end Go.Proofs.YtniljoojoafiaaaGreatDoor.B
namespace Go.Proofs.YtniljoojoafiaaaGreatDoor.B
open Go.RowKit Go.Shelf
set_option maxRecDepth 100000 in
set_option maxHeartbeats 4000000 in
theorem without_leaf (xs : List Im) (hr : Ris xs) (hn : xs.length ≤ 50) (key : ByteArray) (hk : isK xs key = true) (p : Option Addr) (c : Nat) (q : Option Addr) (d : Nat) (w : World) (hS : Sl w p xs.length c (itC xs)) :
    Calls Tryz.prog 53 #[.agg #[.slice p xs.length c, .slice q 0 d], .string key] w fun e w' => ∃ v, e = .returned v ∧ Lies w' 0 (delK xs key) v ∧ Below w.heap.size w w' := by
  have kf := fun W hS => find_any xs hr (by omega) key p c q 0 d W hS
  have kl := fun W => leaf_any p xs.length c q 0 d W
  have hlt := isK_lt hk
  rw [hk] at kf
  have kr := fun W hL => repl66 (itC xs) p xs.length c (itC []) none 0 0 (posK xs key) (posK xs key + 1) (by omega) (by omega) (by omega) (by omega) W hL (Sl.nil W)
  unfold delK
  obtain ⟨i0, hi⟩ : ∃ i, posK xs key = i := ⟨_, rfl⟩
  rw [hi] at kf hlt
  have e1 : ((i0 + 1 : Nat) : Int) = (i0 : Int) + 1 := by omega
  simp only [hi, e1] at kr
  rw [hi]
  clear e1 hi hk
  have hil : (i0 : Int) < (xs.length : Int) := by omega
  obtain ⟨w3, hw3⟩ : ∃ w3, (w.alloc (.cells #[.slice p xs.length c, .slice q 0 d] 108)).alloc (.cells #[.slice none 0 0, .slice none 0 0] 108) = w3 := ⟨_, rfl⟩
  have hb3 : Below w.heap.size w w3 := by rw [← hw3]; exact ((Below.refl _ w).alloc (Nat.le_refl _) _).alloc (by simp) _
  have r0 : w3.heap[w.heap.size]? = some (.cells #[.slice p xs.length c, .slice q 0 d] 108 (0, 0)) := by
    rw [← hw3, Below.heap_alloc _ _ _ (by simp)]; exact heap_alloc_new _ _
  have r2 : w3.heap[w.heap.size + 1]? = some (.cells #[.slice none 0 0, .slice none 0 0] 108 (0, 0)) := by
    rw [← hw3]
    have := heap_alloc_new (w.alloc (.cells #[.slice p xs.length c, .slice q 0 d] 108)) (.cells #[.slice none 0 0, .slice none 0 0] 108)
    simpa using this
  have a0 := cell_of_row w3 _ 0 _ _ _ r0
  have a1 := cell_of_row w3 _ 1 _ _ _ r0
  have lt0 := lt_of_row r0
  have lt2 := lt_of_row r2
  go_enter Tryz.func53, Tryz.ntmps53
  go_wp2_with fail
  refine (kf _ (hS.later hb3)).mono ?_
  rintro e w4 ⟨rfl, hb4⟩
  have d0 := (cell_later hb4 lt0).trans a0
  have d1 := (cell_later hb4 lt0).trans a1
  have hb04 := hb3.trans (hb4.mono hb3.size)
  clear a0 a1
  go_wp2_with fail
  refine (kl _).mono ?_
  rintro e w5 ⟨rfl, hb5⟩
  have hb45 := hb4.trans (hb5.mono hb4.size)
  have hb05 := hb04.trans (hb5.mono hb04.size)
  have r05 := (hb45.block _ lt0).trans r0
  have r25 := (hb45.block _ lt2).trans r2
  have a0 := cell_of_row w5 _ 0 _ _ _ r05
  have a1 := cell_of_row w5 _ 1 _ _ _ r05
  have kr5 := kr w5 (hS.later hb05)
  have lt25 := lt_of_row r25
  clear kr kf kl d0 d1
  go_wp2_with fail
  refine kr5.mono ?_
  rintro e w6 ⟨p7, c7, rfl, s7, hb6⟩
  have r26 := (hb6.block _ lt25).trans r25
  have c20 := cell_of_row w6 _ 0 _ _ _ r26
  have c21 := cell_of_row w6 _ 1 _ _ _ r26
  have g20 := frozen_of_row w6 _ 0 _ _ r26
  have g21 := frozen_of_row w6 _ 1 _ _ r26
  go_wp2
  refine bodyPost_ret (results_cell_row Tryz.results53 _ _ (w.heap.size + 1) 108 _ (0, 0) _ rfl (set2_row r26 _ _) Tryz.underlying108 rfl (by kernel_rfl)) rfl ⟨_, rfl, ?_, ?_⟩
  · refine leaf_end r26 (set2_size _ _ _ _) (set2_other _ _ _ _) ?_ (Sl.nil _)
    rw [itC_app, itC_take, itC_drop]
    simpa [itC] using s7
  · exact below_set2 (hb05.trans (hb6.mono hb05.size)) (by omega) _ _
set_option maxRecDepth 100000 in
set_option maxHeartbeats 2000000 in
theorem grown_small (p : Option Addr) (n c : Nat) (hn : n ≤ 7) (q : Option Addr) (m d : Nat) (w : World) :
    Calls Tryz.prog 57 #[.agg #[.slice p n c, .slice q m d]] w fun e w' => e = .returned (.agg #[.slice p n c, .slice q m d]) ∧ Below w.heap.size w w' := by
  have hn' : (n : Int) ≤ 7 := by omega
  go_enter Tryz.func57, Tryz.ntmps57
  go_wp2
  refine bodyPost_ret (v := .agg #[.slice p n c, .slice q m d]) ?_ rfl ⟨rfl, ?_⟩
  · simp [results, Tryz.results57, go_sem]
  · exact ((Below.refl _ w).alloc (Nat.le_refl _) _).alloc (by simp) _
set_option maxRecDepth 100000 in
set_option maxHeartbeats 2000000 in
theorem shrunk_leaf (p : Option Addr) (n c : Nat) (q : Option Addr) (d : Nat) (w : World) :
    Calls Tryz.prog 52 #[.agg #[.slice p n c, .slice q 0 d]] w fun e w' => e = .returned (.agg #[.slice p n c, .slice q 0 d]) ∧ Below w.heap.size w w' := by
  have kl := fun W => leaf_any p n c q 0 d W
  obtain ⟨w3, hw3⟩ : ∃ w3, (w.alloc (.cells #[.slice p n c, .slice q 0 d] 108)).alloc (.cells #[.slice none 0 0, .slice none 0 0] 108) = w3 := ⟨_, rfl⟩
  have hb3 : Below w.heap.size w w3 := by rw [← hw3]; exact ((Below.refl _ w).alloc (Nat.le_refl _) _).alloc (by simp) _
  have r0 : w3.heap[w.heap.size]? = some (.cells #[.slice p n c, .slice q 0 d] 108 (0, 0)) := by
    rw [← hw3, Below.heap_alloc _ _ _ (by simp)]; exact heap_alloc_new _ _
  have r2 : w3.heap[w.heap.size + 1]? = some (.cells #[.slice none 0 0, .slice none 0 0] 108 (0, 0)) := by
    rw [← hw3]
    have := heap_alloc_new (w.alloc (.cells #[.slice p n c, .slice q 0 d] 108)) (.cells #[.slice none 0 0, .slice none 0 0] 108)
    simpa using this
  have a0 := cell_of_row w3 _ 0 _ _ _ r0
  have a1 := cell_of_row w3 _ 1 _ _ _ r0
  go_enter Tryz.func52, Tryz.ntmps52
  go_wp2_with fail
  refine (kl _).mono ?_
  rintro e w4 ⟨rfl, hb4⟩
  have r04 := (hb4.block _ (lt_of_row r0)).trans r0
  have r24 := (hb4.block _ (lt_of_row r2)).trans r2
  have d0 := cell_of_row w4 _ 0 _ _ _ r04
  have d1 := cell_of_row w4 _ 1 _ _ _ r04
  have c20 := cell_of_row w4 _ 0 _ _ _ r24
  have c21 := cell_of_row w4 _ 1 _ _ _ r24
  have g20 := frozen_of_row w4 _ 0 _ _ r24
  have g21 := frozen_of_row w4 _ 1 _ _ r24
  go_wp2
  refine bodyPost_ret (results_cell_row Tryz.results52 _ _ (w.heap.size + 1) 108 _ (0, 0) _ rfl (set2_row r24 _ _) Tryz.underlying108 rfl (by kernel_rfl)) rfl ⟨rfl, ?_⟩
  exact below_set2 (hb3.trans (hb4.mono hb3.size)) (by omega) _ _
end Go.Proofs.YtniljoojoafiaaaGreatDoor.B
