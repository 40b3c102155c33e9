/- Path, Root, RootAt, called: of a tree, and of none. -/
import Derived.Test.YtjamahpccblkiabDoorPth
namespace Go.Proofs.YtjamahpccblkiabDoor
open Go.RowKit
set_option maxHeartbeats 2000000 in
theorem Path_any (f : Nat → ByteArray) (S : Nat → Prop) (b N : Nat) (hN : N ≤ 64) (m n : Int) (h0 : 0 ≤ m) (h1 : m < n) (h2 : n ≤ N) (w : World) (hG : GL w) (hD : GD w) (hT : Tre w S b N f) :
    Calls Tryd.prog 8 #[.pointer (some ⟨b, 0, none⟩), .int .i64 m, .int .i64 n] w fun e w' => ∃ v, e = .returned (.tuple #[v, .int .i64 0]) ∧ w'.ownsRow w.heap.size 9 1 v (pathR f m.toNat 0 n.toNat).length (strs (pathR f m.toNat 0 n.toNat)) ∧ Below w.heap.size w w' := by
  have hp := path_any f S b N (by omega) _ m 0 n (Nat.le_refl _) h0 h1 (Prt.whole (by omega) h2 (by omega)) w hG hD hT
  rw [Int.sub_zero, Int.sub_zero] at hp
  have e0 : (0 : Int).toNat = 0 := rfl
  rw [e0] at hp
  have hL := len_tree N (by omega) f S b w hT
  generalize pathR f m.toNat 0 n.toNat = l at hp ⊢
  have A1 : decide (n < 0) = false := decide_eq_false (by omega)
  have A2 : decide ((N : Int) < n) = false := decide_eq_false (by omega)
  have A3 : decide (m < 0) = false := decide_eq_false (by omega)
  have A4 : decide (n ≤ m) = false := decide_eq_false (by omega)
  have B1 : ¬ n < 0 := by omega
  have B2 : ¬ (N : Int) < n := by omega
  have B3 : ¬ m < 0 := by omega
  have B4 : ¬ n ≤ m := by omega
  clear h0 h1 h2
  go_enter Tryd.func8, Tryd.ntmps8
  go_wp2_with fail
  refine hL.mono ?_
  rintro e w1 ⟨rfl, rfl⟩
  go_wp2_with fail
  refine hp.mono ?_
  rintro e w2 ⟨v, rfl, hown, hb2⟩
  go_wp2
  go_ret2
  exact ⟨v, rfl, hown, hb2⟩
set_option maxHeartbeats 2000000 in
theorem Path_bad (f : Nat → ByteArray) (S : Nat → Prop) (b N : Nat) (hN : N ≤ 64) (m n : Int) (h : n < 0 ∨ (N : Int) < n ∨ m < 0 ∨ n ≤ m) (w : World) (hT : Tre w S b N f) :
    Calls Tryd.prog 8 #[.pointer (some ⟨b, 0, none⟩), .int .i64 m, .int .i64 n] w fun e w' => e = .returned (.tuple #[.slice none 0 0, .int .i64 1]) ∧ w' = w := by
  have hL := len_tree N (by omega) f S b w hT
  by_cases a : n < 0
  · clear h
    go_enter Tryd.func8, Tryd.ntmps8
    go_wp2
    go_ret2
    exact ⟨rfl, rfl⟩
  · by_cases c : (N : Int) < n
    · clear h
      go_enter Tryd.func8, Tryd.ntmps8
      go_wp2_with fail
      refine hL.mono ?_
      rintro e w1 ⟨rfl, rfl⟩
      go_wp2
      go_ret2
      exact ⟨rfl, rfl⟩
    · by_cases d : m < 0
      · clear h
        go_enter Tryd.func8, Tryd.ntmps8
        go_wp2_with fail
        refine hL.mono ?_
        rintro e w1 ⟨rfl, rfl⟩
        go_wp2
        go_ret2
        exact ⟨rfl, rfl⟩
      · have g : n ≤ m := by omega
        clear h
        go_enter Tryd.func8, Tryd.ntmps8
        go_wp2_with fail
        refine hL.mono ?_
        rintro e w1 ⟨rfl, rfl⟩
        go_wp2
        go_ret2
        exact ⟨rfl, rfl⟩
set_option maxHeartbeats 2000000 in
theorem Root_any (f : Nat → ByteArray) (S : Nat → Prop) (b N : Nat) (hN : N ≤ 64) (w : World) (hG : GL w) (hD : GD w) (hT : Tre w S b N f) :
    Calls Tryd.prog 10 #[.pointer (some ⟨b, 0, none⟩)] w fun e w' => e = .returned (.string (rootR f 0 N)) ∧ Below w.heap.size w w' := by
  have hp := root_prt f S b N (by omega) 0 N (Prt.whole (by omega) (Int.le_refl _) (by omega)) w hG hD hT
  rw [Int.sub_zero] at hp
  have e0 : (0 : Int).toNat = 0 := rfl
  rw [e0, Int.toNat_natCast] at hp
  have hL := len_tree N (by omega) f S b w hT
  generalize rootR f 0 N = y at hp ⊢
  go_enter Tryd.func10, Tryd.ntmps10
  go_wp2_with fail
  refine hL.mono ?_
  rintro e w1 ⟨rfl, rfl⟩
  go_wp2_with fail
  refine hp.mono ?_
  rintro e w2 ⟨rfl, hb2⟩
  go_wp2
  go_ret
  exact ⟨rfl, hb2⟩
set_option maxHeartbeats 2000000 in
theorem RootAt_any (f : Nat → ByteArray) (S : Nat → Prop) (b N : Nat) (hN : N ≤ 64) (n : Int) (h0 : 0 ≤ n) (h2 : n ≤ N) (w : World) (hG : GL w) (hD : GD w) (hT : Tre w S b N f) :
    Calls Tryd.prog 7 #[.pointer (some ⟨b, 0, none⟩), .int .i64 n] w fun e w' => e = .returned (.tuple #[.string (rootR f 0 n.toNat), .int .i64 0]) ∧ Below w.heap.size w w' := by
  have hp := root_prt f S b N (by omega) 0 n (Prt.whole h0 h2 (by omega)) w hG hD hT
  rw [Int.sub_zero] at hp
  have e0 : (0 : Int).toNat = 0 := rfl
  rw [e0] at hp
  have hL := len_tree N (by omega) f S b w hT
  generalize rootR f 0 n.toNat = y at hp ⊢
  have A1 : decide (n < 0) = false := decide_eq_false (by omega)
  have A2 : decide ((N : Int) < n) = false := decide_eq_false (by omega)
  have B1 : ¬ n < 0 := by omega
  have B2 : ¬ (N : Int) < n := by omega
  clear h0 h2
  go_enter Tryd.func7, Tryd.ntmps7
  go_wp2_with fail
  refine hL.mono ?_
  rintro e w1 ⟨rfl, rfl⟩
  go_wp2_with fail
  refine hp.mono ?_
  rintro e w2 ⟨rfl, hb2⟩
  go_wp2
  go_ret2
  exact ⟨rfl, hb2⟩
set_option maxHeartbeats 2000000 in
theorem RootAt_bad (f : Nat → ByteArray) (S : Nat → Prop) (b N : Nat) (hN : N ≤ 64) (n : Int) (h : n < 0 ∨ (N : Int) < n) (w : World) (hT : Tre w S b N f) :
    Calls Tryd.prog 7 #[.pointer (some ⟨b, 0, none⟩), .int .i64 n] w fun e w' => e = .returned (.tuple #[.string ⟨#[]⟩, .int .i64 1]) ∧ w' = w := by
  have hL := len_tree N (by omega) f S b w hT
  by_cases a : n < 0
  · clear h
    go_enter Tryd.func7, Tryd.ntmps7
    go_wp2
    go_ret2
    exact ⟨rfl, rfl⟩
  · have c : (N : Int) < n := by omega
    clear h
    go_enter Tryd.func7, Tryd.ntmps7
    go_wp2_with fail
    refine hL.mono ?_
    rintro e w1 ⟨rfl, rfl⟩
    go_wp2
    go_ret2
    exact ⟨rfl, rfl⟩
theorem new_tre (w : World) (hw : 3 ≤ w.heap.size) (f : Nat → ByteArray) : Tre (w.alloc (.cells #[.slice none 0 0] 48)) (fun j => j = w.heap.size) w.heap.size 0 f := by
  refine ⟨⟨.slice none 0 0, 0, fun _ => .slice none 0 0, ⟨heap_alloc_new w _, ⟨rfl, Or.inl ⟨rfl, rfl⟩⟩, fun k hk => (by omega), rfl, fun g hg => (by cases hg), fun k hk => (by omega), fun h => (by cases h), fun k hk => (by omega), fun k hk => (by omega), fun j k hj => (by omega)⟩, fun j => ?_⟩, fun j hj => (by omega), fun j hj => (by simp; omega), fun i hi => (by omega)⟩
  have := Nat.two_pow_pos j
  omega
end Go.Proofs.YtjamahpccblkiabDoor
