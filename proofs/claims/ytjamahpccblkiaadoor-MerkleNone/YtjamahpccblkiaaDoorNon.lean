/- The law MerkleNone as a walk: of any two numbers and any string, with the tables laid, the call returns true and nothing that was there has changed. -/
import Derived.Test.YtjamahpccblkiaaDoorAwk
namespace Go.Proofs.YtjamahpccblkiaaDoor
open Go.RowKit
set_option maxHeartbeats 1000000 in
theorem nlen (w : World) : Calls Tryd.prog 12 #[.pointer none] w fun e w' => e = .returned (.int .i64 0) ∧ w' = w := by
  go_enter Tryd.func12, Tryd.ntmps12
  go_wp2
  go_ret
  exact ⟨rfl, rfl⟩
set_option maxHeartbeats 1000000 in
theorem nadd (s : ByteArray) (w : World) : Calls Tryd.prog 10 #[.pointer none, .string s] w fun e w' => e = .returned (.string ⟨#[]⟩) ∧ w' = w := by
  go_enter Tryd.func10, Tryd.ntmps10
  go_wp2
  go_ret
  exact ⟨rfl, rfl⟩
set_option maxHeartbeats 1000000 in
theorem nroot0 (w : World) (hG : GL w) : Calls Tryd.prog 30 #[.pointer none, .int .i64 0, .int .i64 0] w fun e w' => e = .returned (.string noneS) ∧ Below w.heap.size w w' := by
  go_enter Tryd.func30, Tryd.ntmps30
  go_wp2_with fail
  refine (hsum ⟨#[]⟩ (by decide) _ hG).mono ?_
  rintro e w1 ⟨rfl, hb1⟩
  go_wp2
  go_ret
  exact ⟨rfl, hb1⟩
set_option maxHeartbeats 1000000 in
theorem nRoot (w : World) (hG : GL w) : Calls Tryd.prog 13 #[.pointer none] w fun e w' => e = .returned (.string noneS) ∧ Below w.heap.size w w' := by
  go_enter Tryd.func13, Tryd.ntmps13
  go_wp2_with fail
  refine (nlen _).mono ?_
  rintro e w1 ⟨rfl, rfl⟩
  go_wp2_with fail
  refine (nroot0 _ hG).mono ?_
  rintro e w2 ⟨rfl, hb2⟩
  go_wp2
  go_ret
  exact ⟨rfl, hb2⟩
set_option maxHeartbeats 1000000 in
theorem nRootAt_0 (w : World) (hG : GL w) : Calls Tryd.prog 15 #[.pointer none, .int .i64 0] w fun e w' => e = .returned (.tuple #[.string noneS, .int .i64 0]) ∧ Below w.heap.size w w' := by
  go_enter Tryd.func15, Tryd.ntmps15
  go_wp2_with fail
  refine (nlen _).mono ?_
  rintro e w1 ⟨rfl, rfl⟩
  go_wp2_with fail
  refine (nroot0 _ hG).mono ?_
  rintro e w2 ⟨rfl, hb2⟩
  go_wp2
  go_ret2
  exact ⟨rfl, hb2⟩
set_option maxHeartbeats 1000000 in
theorem nRootAt_n (n : Int) (hn : n ≠ 0) (w : World) : Calls Tryd.prog 15 #[.pointer none, .int .i64 n] w fun e w' => e = .returned (.tuple #[.string ⟨#[]⟩, .int .i64 1]) ∧ w' = w := by
  by_cases a : n < 0
  · go_enter Tryd.func15, Tryd.ntmps15
    go_wp2
    go_ret2
    exact ⟨rfl, rfl⟩
  · have c : 0 < n := by omega
    go_enter Tryd.func15, Tryd.ntmps15
    go_wp2_with fail
    refine (nlen _).mono ?_
    rintro e w1 ⟨rfl, rfl⟩
    go_wp2
    go_ret2
    exact ⟨rfl, rfl⟩
set_option maxHeartbeats 1000000 in
theorem nPath (m n : Int) (w : World) : Calls Tryd.prog 18 #[.pointer none, .int .i64 m, .int .i64 n] w fun e w' => e = .returned (.tuple #[.slice none 0 0, .int .i64 1]) ∧ w' = w := by
  by_cases a : n < 0
  · go_enter Tryd.func18, Tryd.ntmps18
    go_wp2
    go_ret2
    exact ⟨rfl, rfl⟩
  · by_cases c : 0 < n
    · go_enter Tryd.func18, Tryd.ntmps18
      go_wp2_with fail
      refine (nlen _).mono ?_
      rintro e w1 ⟨rfl, rfl⟩
      go_wp2
      go_ret2
      exact ⟨rfl, rfl⟩
    · by_cases d : m < 0
      · go_enter Tryd.func18, Tryd.ntmps18
        go_wp2_with fail
        refine (nlen _).mono ?_
        rintro e w1 ⟨rfl, rfl⟩
        go_wp2
        go_ret2
        exact ⟨rfl, rfl⟩
      · have g : n ≤ m := by omega
        go_enter Tryd.func18, Tryd.ntmps18
        go_wp2_with fail
        refine (nlen _).mono ?_
        rintro e w1 ⟨rfl, rfl⟩
        go_wp2
        go_ret2
        exact ⟨rfl, rfl⟩
set_option maxHeartbeats 1000000 in
theorem nGrown (m n : Int) (w : World) : Calls Tryd.prog 22 #[.pointer none, .int .i64 m, .int .i64 n] w fun e w' => e = .returned (.tuple #[.slice none 0 0, .int .i64 1]) ∧ w' = w := by
  by_cases a : n < 0
  · go_enter Tryd.func22, Tryd.ntmps22
    go_wp2
    go_ret2
    exact ⟨rfl, rfl⟩
  · by_cases c : 0 < n
    · go_enter Tryd.func22, Tryd.ntmps22
      go_wp2_with fail
      refine (nlen _).mono ?_
      rintro e w1 ⟨rfl, rfl⟩
      go_wp2
      go_ret2
      exact ⟨rfl, rfl⟩
    · by_cases d : m < 1
      · go_enter Tryd.func22, Tryd.ntmps22
        go_wp2_with fail
        refine (nlen _).mono ?_
        rintro e w1 ⟨rfl, rfl⟩
        go_wp2
        all_goals (go_ret2; exact ⟨rfl, rfl⟩)
      · have g : n < m := by omega
        go_enter Tryd.func22, Tryd.ntmps22
        go_wp2_with fail
        refine (nlen _).mono ?_
        rintro e w1 ⟨rfl, rfl⟩
        go_wp2
        all_goals (go_ret2; exact ⟨rfl, rfl⟩)
theorem rnone (w : World) : Calls Tryd.prog 27 #[.string ⟨#[]⟩] w fun e w' => e = .returned (.string noneS) ∧ Below w.heap.size w w' := rsum ⟨#[]⟩ (by decide) w
set_option maxHeartbeats 4000000 in
theorem none_0 (m : Int) (s : ByteArray) (w : World) (hG : GL w) (hD : GD w) :
    Calls Tryd.prog 8 #[.int .i64 m, .int .i64 0, .string s] w fun e w' => e = .returned (.bool true) ∧ Below w.heap.size w w' := by
  have h1 := fun w hG => nRootAt_0 w hG
  have h2 := fun w hG => nRoot w hG
  have h3 := fun w => rnone w
  have h4 := fun w hG hD S b hT => Root_any (fun _ => ByteArray.empty) S b 0 (by omega) w hG hD hT
  simp only [rootR_zero] at h4
  generalize noneS = y at h1 h2 h3 h4
  go_enter Tryd.func8, Tryd.ntmps8
  go_wp2_with fail
  refine (nPath m 0 _).mono ?_
  rintro e w1 ⟨rfl, rfl⟩
  go_wp2_with fail
  refine (nGrown m 0 _).mono ?_
  rintro e w2 ⟨rfl, rfl⟩
  go_wp2_with fail
  refine (h1 _ hG).mono ?_
  rintro e w3 ⟨rfl, hb3⟩
  go_wp2_with fail
  refine (awake_any _ (hG.later hb3) (hD.later hb3)).mono ?_
  rintro e w4 ⟨rfl, hb4⟩
  have b4 := below2 hb3 hb4
  go_wp2_with fail
  refine (h3 _).mono ?_
  rintro e w5 ⟨rfl, hb5⟩
  have b5 := below2 b4 hb5
  go_wp2_with fail
  refine (nlen _).mono ?_
  rintro e w6 ⟨rfl, rfl⟩
  go_wp2_with fail
  refine (h2 _ (hG.later b5)).mono ?_
  rintro e w7 ⟨rfl, hb7⟩
  have b7 := below2 b5 hb7
  go_wp2_with fail
  refine (h3 _).mono ?_
  rintro e w8 ⟨rfl, hb8⟩
  have b8 := below2 b7 hb8
  go_wp2_with fail
  refine (nadd s _).mono ?_
  rintro e w9 ⟨rfl, rfl⟩
  go_wp2_with fail
  refine (new_any _).mono ?_
  rintro e w10 ⟨rfl, rfl⟩
  have hT := new_tre w9 (Nat.le_trans hD.lt b8.size) (fun _ => ByteArray.empty)
  have b10 := below2 b8 ((Below.refl w9.heap.size w9).alloc (Nat.le_refl _) (.cells #[.slice none 0 0] 50))
  go_wp2_with fail
  refine (h4 _ (hG.later b10) (hD.later b10) _ _ hT).mono ?_
  rintro e w11 ⟨rfl, hb11⟩
  have b11 := below2 b10 hb11
  go_wp2_with fail
  refine (h3 _).mono ?_
  rintro e w12 ⟨rfl, hb12⟩
  have b12 := below2 b11 hb12
  go_wp2
  go_ret
  exact ⟨rfl, b12⟩
set_option maxHeartbeats 4000000 in
theorem none_n (m n : Int) (hn : n ≠ 0) (s : ByteArray) (w : World) (hG : GL w) (hD : GD w) :
    Calls Tryd.prog 8 #[.int .i64 m, .int .i64 n, .string s] w fun e w' => e = .returned (.bool true) ∧ Below w.heap.size w w' := by
  have h1 := fun w => nRootAt_n n hn w
  have h2 := fun w hG => nRoot w hG
  have h3 := fun w => rnone w
  have h4 := fun w hG hD S b hT => Root_any (fun _ => ByteArray.empty) S b 0 (by omega) w hG hD hT
  simp only [rootR_zero] at h4
  generalize noneS = y at h2 h3 h4
  have hnB : (n == 0) = false := beq_eq_false_iff_ne.2 hn
  go_enter Tryd.func8, Tryd.ntmps8
  go_wp2_with fail
  refine (nPath m n _).mono ?_
  rintro e w1 ⟨rfl, rfl⟩
  go_wp2_with fail
  refine (nGrown m n _).mono ?_
  rintro e w2 ⟨rfl, rfl⟩
  go_wp2_with fail
  refine (h1 _).mono ?_
  rintro e w3 ⟨rfl, rfl⟩
  go_wp2_with fail
  refine (awake_any _ hG hD).mono ?_
  rintro e w4 ⟨rfl, b4⟩
  go_wp2_with fail
  refine (nlen _).mono ?_
  rintro e w6 ⟨rfl, rfl⟩
  go_wp2_with fail
  refine (h2 _ (hG.later b4)).mono ?_
  rintro e w7 ⟨rfl, hb7⟩
  have b7 := below2 b4 hb7
  go_wp2_with fail
  refine (h3 _).mono ?_
  rintro e w8 ⟨rfl, hb8⟩
  have b8 := below2 b7 hb8
  go_wp2_with fail
  refine (nadd s _).mono ?_
  rintro e w9 ⟨rfl, rfl⟩
  go_wp2_with fail
  refine (new_any _).mono ?_
  rintro e w10 ⟨rfl, rfl⟩
  have hT := new_tre w9 (Nat.le_trans hD.lt b8.size) (fun _ => ByteArray.empty)
  have b10 := below2 b8 ((Below.refl w9.heap.size w9).alloc (Nat.le_refl _) (.cells #[.slice none 0 0] 50))
  go_wp2_with fail
  refine (h4 _ (hG.later b10) (hD.later b10) _ _ hT).mono ?_
  rintro e w11 ⟨rfl, hb11⟩
  have b11 := below2 b10 hb11
  go_wp2_with fail
  refine (h3 _).mono ?_
  rintro e w12 ⟨rfl, hb12⟩
  have b12 := below2 b11 hb12
  go_wp2
  go_ret
  exact ⟨rfl, b12⟩
theorem none_walk (m n : Int) (s : ByteArray) (w : World) (hG : GL w) (hD : GD w) :
    Calls Tryd.prog 8 #[.int .i64 m, .int .i64 n, .string s] w fun e w' => e = .returned (.bool true) ∧ Below w.heap.size w w' := by
  by_cases h : n = 0
  · subst h
    exact none_0 m s w hG hD
  · exact none_n m n h s w hG hD
end Go.Proofs.YtjamahpccblkiaaDoor
