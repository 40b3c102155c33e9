/- merkle.Verify, called: ErrArg, ErrProof or nothing, as the plain function verA has it. -/
import Derived.Test.YtjamahpccblkiabDoorVfy
namespace Go.Proofs.YtjamahpccblkiabDoor
open Go.RowKit
def badV (root leaf : ByteArray) (m N : Int) : Prop := m < 0 ∨ N ≤ m ∨ 2147483648 < N ∨ root.size ≠ 32 ∨ leaf.size ≠ 32
def verA (leaf root : ByteArray) (m N : Int) (g : Nat → ByteArray) (n : Nat) : Int :=
  if 64 < n then 80 else if okv (rb leaf m.toNat N.toNat (revL g n)) = some root then 0 else 80
set_option maxHeartbeats 2000000 in
theorem ver_arg (root leaf : ByteArray) (m N : Int) (h : badV root leaf m N) (v : Value) (w : World) :
    Calls Tryd.prog 11 #[.string root, .string leaf, .int .i64 m, .int .i64 N, v] w fun e w' => e = .returned (.int .i64 1) ∧ w' = w := by
  unfold badV at h
  by_cases a : m < 0
  · clear h
    go_enter Tryd.func11, Tryd.ntmps11
    go_wp2
    go_ret
    exact ⟨rfl, rfl⟩
  · by_cases b : N ≤ m
    · clear h
      go_enter Tryd.func11, Tryd.ntmps11
      go_wp2
      go_ret
      exact ⟨rfl, rfl⟩
    · by_cases c : 2147483648 < N
      · clear h
        go_enter Tryd.func11, Tryd.ntmps11
        go_wp2
        go_ret
        exact ⟨rfl, rfl⟩
      · by_cases d : root.size = 32
        · have e : leaf.size ≠ 32 := by omega
          clear h
          go_enter Tryd.func11, Tryd.ntmps11
          go_wp2_with fail
          refine (dig_yes root d _).mono ?_
          rintro e w' ⟨rfl, rfl⟩
          go_wp2_with fail
          refine (dig_no leaf e _).mono ?_
          rintro e w' ⟨rfl, rfl⟩
          go_wp2
          go_ret
          exact ⟨rfl, rfl⟩
        · clear h
          go_enter Tryd.func11, Tryd.ntmps11
          go_wp2_with fail
          refine (dig_no root d _).mono ?_
          rintro e w' ⟨rfl, rfl⟩
          go_wp2
          go_ret
          exact ⟨rfl, rfl⟩
theorem beq_self (a : ByteArray) : (a.toList == a.toList) = true := by simp
set_option maxHeartbeats 2000000 in
theorem ver_any (root leaf : ByteArray) (m N : Int) (h : ¬ badV root leaf m N) (p : Option Addr) (n c : Nat) (g : Nat → ByteArray) (w : World) (H : Strs w p n c g) (hG : GL w) :
    Calls Tryd.prog 11 #[.string root, .string leaf, .int .i64 m, .int .i64 N, .slice p n c] w fun e w' => e = .returned (.int .i64 (verA leaf root m N g n)) ∧ Below w.heap.size w w' := by
  unfold badV at h
  have h0 : 0 ≤ m := by omega
  have h1 : m < N := by omega
  have h2 : N ≤ 2147483648 := by omega
  have d : root.size = 32 := by omega
  have e : leaf.size = 32 := by omega
  have hcap := H.cap
  have hm : maxLen = 9223372036854775807 := rfl
  clear h
  by_cases hn : 64 < n
  · have ea : verA leaf root m N g n = 80 := if_pos hn
    rw [ea]
    have hn' : (64 : Int) < (n : Int) := by omega
    go_enter Tryd.func11, Tryd.ntmps11
    go_wp2_with fail
    refine (dig_yes root d _).mono ?_
    rintro e w' ⟨rfl, rfl⟩
    go_wp2_with fail
    refine (dig_yes leaf e _).mono ?_
    rintro e w' ⟨rfl, rfl⟩
    go_wp2
    go_ret
    exact ⟨rfl, Below.refl _ _⟩
  · have hn' : ¬ (64 : Int) < (n : Int) := by omega
    have ea : verA leaf root m N g n = if okv (rb leaf m.toNat N.toNat (revL g n)) = some root then 0 else 80 := if_neg hn
    rw [ea]
    clear ea
    have hy := rby_any leaf (by omega) g n m N h0 h1 h2 p c w H hG
    have A1 : ¬ m < 0 := by omega
    have A2 : ¬ N ≤ m := by omega
    have A3 : ¬ 2147483648 < N := by omega
    have B1 : decide (m < 0) = false := decide_eq_false A1
    have B2 : decide (N ≤ m) = false := decide_eq_false A2
    have B3 : decide (2147483648 < N) = false := decide_eq_false A3
    clear h0 h1 h2
    obtain ⟨R, hR⟩ : ∃ R, rb leaf m.toNat N.toNat (revL g n) = R := ⟨_, rfl⟩
    rw [hR] at hy ⊢
    clear hR
    obtain ⟨r, ok⟩ := R
    simp only at hy
    cases ok with
    | false =>
      have er : (if okv (r, false) = some root then (0 : Int) else 80) = 80 := if_neg (by unfold okv; simp)
      rw [er]
      clear er
      go_enter Tryd.func11, Tryd.ntmps11
      go_wp2_with fail
      refine (dig_yes root d _).mono ?_
      rintro e w' ⟨rfl, rfl⟩
      go_wp2_with fail
      refine (dig_yes leaf e _).mono ?_
      rintro e w' ⟨rfl, rfl⟩
      go_wp2_with fail
      refine hy.mono ?_
      rintro e w1 ⟨rfl, hb1⟩
      go_wp2
      go_ret
      exact ⟨rfl, hb1⟩
    | true =>
      by_cases hr : r = root
      · subst hr
        have er : (if okv (r, true) = some r then (0 : Int) else 80) = 0 := if_pos rfl
        rw [er]
        clear er
        go_enter Tryd.func11, Tryd.ntmps11
        go_wp2_with fail
        refine (dig_yes r d _).mono ?_
        rintro e w' ⟨rfl, rfl⟩
        go_wp2_with fail
        refine (dig_yes leaf e _).mono ?_
        rintro e w' ⟨rfl, rfl⟩
        go_wp2_with fail
        refine hy.mono ?_
        rintro e w1 ⟨rfl, hb1⟩
        go_wp2
        go_ret
        exact ⟨rfl, hb1⟩
      · have er : (if okv (r, true) = some root then (0 : Int) else 80) = 80 := if_neg (by unfold okv; simpa using hr)
        rw [er]
        clear er
        have hne := beq_of_ne hr
        clear hr
        go_enter Tryd.func11, Tryd.ntmps11
        go_wp2_with fail
        refine (dig_yes root d _).mono ?_
        rintro e w' ⟨rfl, rfl⟩
        go_wp2_with fail
        refine (dig_yes leaf e _).mono ?_
        rintro e w' ⟨rfl, rfl⟩
        go_wp2_with fail
        refine hy.mono ?_
        rintro e w1 ⟨rfl, hb1⟩
        go_wp2
        go_ret
        exact ⟨rfl, hb1⟩
end Go.Proofs.YtjamahpccblkiabDoor
