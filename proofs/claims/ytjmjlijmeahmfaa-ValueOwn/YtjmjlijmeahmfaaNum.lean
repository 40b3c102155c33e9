/- The calls of a cursor that look ahead: number, count, piece; of a nil cursor, of one that has an error, and of one that has none. -/
import Derived.Test.YtjmjlijmeahmfaaFirst
import Derived.WalkKit
import Derived.WalkSpells
import Derived.WalkLawsBesides
import Derived.Deep.QuietTactic
import Derived.BigQuiet
import Derived.Lib.Strings
namespace Go.Proofs.Ytjmjlijmeahmfaa
open Go.RowKit
set_option maxHeartbeats 400000 in
theorem number_nil (w : World) : Calls Try.prog 102 #[.pointer none] w fun e w' => e = .returned (.tuple #[.int .u64 0, .int .i64 0]) ∧ w' = w := by
  go_enter Try.func102, Try.ntmps102
  go_wp2_with fail
  refine (err_nil _).mono ?_
  rintro e w1 ⟨rfl, rfl⟩
  go_wp2
  go_ret2
  exact ⟨rfl, rfl⟩
set_option maxHeartbeats 400000 in
theorem number_err {w : World} {b : Nat} {s : ByteArray} {o er : Int} (hcu : Cur w b s o er) (h0 : er ≠ 0) : Calls Try.prog 102 #[.pointer (some ⟨b, 0, none⟩)] w fun e w' => e = .returned (.tuple #[.int .u64 0, .int .i64 0]) ∧ w' = w := by
  go_enter Try.func102, Try.ntmps102
  go_wp2_with fail
  refine (err_at hcu).mono ?_
  rintro e w1 ⟨rfl, rfl⟩
  go_wp2
  go_ret2
  exact ⟨rfl, rfl⟩
theorem drop_extract (s : ByteArray) (o : Nat) : (s.extract o s.size).data.toList = s.data.toList.drop o := by
  rw [Lib.extract_data, List.take_of_length_le]
  rw [List.length_drop, ← Lib.size_eq]; exact Nat.le_refl _
set_option maxHeartbeats 1000000 in
theorem number_ok {w : World} {b : Nat} {s : ByteArray} {o : Nat} (hcu : Cur w b s (o : Int) 0) (ho : o ≤ s.size) (hs : s.size ≤ 4096) (T : Tk) (hT : tk 0 0 (s.data.toList.drop o) = T) :
    Calls Try.prog 102 #[.pointer (some ⟨b, 0, none⟩)] w fun e w' => e = .returned (.tuple #[.int .u64 (T.n : Int), .int .i64 (T.sz : Int)]) ∧ Cur w' b s (o : Int) T.er ∧ Only b w w' := by
  have hc0 := hcu.c0
  have hc1 := hcu.c1
  have hf := fun W => first_any (s.extract o s.size) (by simp; omega) T (by rw [drop_extract]; exact hT) W
  have ho' : (o : Int) ≤ (s.size : Int) := by omega
  have ho0 : (0 : Int) ≤ (o : Int) := by omega
  clear hT
  go_enter Try.func102, Try.ntmps102
  go_wp2_with fail
  refine (err_at hcu).mono ?_
  rintro e w1 ⟨rfl, rfl⟩
  go_wp2_with fail
  go_quiet ((go_at_call 104; exact Calls.quiet_of_same (hf _)))
  go_wp2_with fail
  refine (fail_at (hcu.drewN nq) T.er).mono ?_
  rintro e w2 ⟨rfl, hk2, ho2⟩
  rw [if_pos rfl] at hk2
  go_wp2
  go_ret2
  exact ⟨rfl, hk2, ((Only.refl b w1).drewN nq).trans ho2⟩
def cnt (T : Tk) (most : Int) : Tk := if T.er = 0 ∧ (most < 0 ∨ most < (T.n : Int)) then ⟨0, 0, 3⟩ else T
set_option maxHeartbeats 400000 in
theorem count_nil (m : Int) (w : World) : Calls Try.prog 95 #[.pointer none, .int .i64 m] w fun e w' => e = .returned (.tuple #[.int .i64 0, .int .i64 0]) ∧ w' = w := by
  go_enter Try.func95, Try.ntmps95
  go_wp2_with fail
  refine (number_nil _).mono ?_
  rintro e w1 ⟨rfl, rfl⟩
  by_cases hm : m < 0
  · go_wp2_with fail
    refine (fail_nil _ _).mono ?_
    rintro e w2 ⟨rfl, rfl⟩
    go_wp2
    go_ret2
    exact ⟨rfl, rfl⟩
  · have hm0 : (0 : Int) ≤ m := by omega
    have hm1 : ¬ IntKind.u64.wrap m < 0 := by rw [IntKind.wrap_u64]; omega
    go_wp2
    go_ret2
    exact ⟨rfl, rfl⟩
set_option maxHeartbeats 400000 in
theorem count_err {w : World} {b : Nat} {s : ByteArray} {o er : Int} (hcu : Cur w b s o er) (h0 : er ≠ 0) (m : Int) : Calls Try.prog 95 #[.pointer (some ⟨b, 0, none⟩), .int .i64 m] w fun e w' => e = .returned (.tuple #[.int .i64 0, .int .i64 0]) ∧ Cur w' b s o er ∧ Only b w w' := by
  go_enter Try.func95, Try.ntmps95
  go_wp2_with fail
  refine (number_err hcu h0).mono ?_
  rintro e w1 ⟨rfl, rfl⟩
  by_cases hm : m < 0
  · go_wp2_with fail
    refine (fail_at hcu _).mono ?_
    rintro e w2 ⟨rfl, hk2, ho2⟩
    rw [if_neg h0] at hk2
    go_wp2
    go_ret2
    exact ⟨rfl, hk2, ho2⟩
  · have hm0 : (0 : Int) ≤ m := by omega
    have hm1 : ¬ IntKind.u64.wrap m < 0 := by rw [IntKind.wrap_u64]; omega
    go_wp2
    go_ret2
    exact ⟨rfl, hcu, Only.refl _ _⟩
set_option maxHeartbeats 400000 in
theorem count_ok {w : World} {b : Nat} {s : ByteArray} {o : Nat} (hcu : Cur w b s (o : Int) 0) (ho : o ≤ s.size) (hs : s.size ≤ 4096) (T : Tk) (hT : tk 0 0 (s.data.toList.drop o) = T) (m : Int) (hm : m < 9223372036854775808) :
    Calls Try.prog 95 #[.pointer (some ⟨b, 0, none⟩), .int .i64 m] w fun e w' => e = .returned (.tuple #[.int .i64 ((cnt T m).n : Int), .int .i64 ((cnt T m).sz : Int)]) ∧ Cur w' b s (o : Int) (cnt T m).er ∧ Only b w w' := by
  have hTe : T.er ≠ 0 → T.n = 0 ∧ T.sz = 0 := by rw [← hT]; exact tk_err
  have hTb : T.n < 18446744073709551616 := by rw [← hT]; exact (tk_bound (by omega) (by decide)).1
  go_enter Try.func95, Try.ntmps95
  go_wp2_with fail
  refine (number_ok hcu ho hs T hT).mono ?_
  rintro e w1 ⟨rfl, hk1, ho1⟩
  clear hT hcu
  by_cases hm0 : m < 0
  · go_wp2_with fail
    refine (fail_at hk1 _).mono ?_
    rintro e w2 ⟨rfl, hk2, ho2⟩
    go_wp2
    go_ret2
    by_cases h0 : T.er = 0
    · have hc : cnt T m = ⟨0, 0, 3⟩ := if_pos ⟨h0, Or.inl hm0⟩
      rw [if_pos h0] at hk2
      rw [hc]
      exact ⟨rfl, hk2, ho1.trans ho2⟩
    · have hc : cnt T m = T := if_neg (fun h => h0 h.1)
      rw [if_neg h0] at hk2
      rw [hc, (hTe h0).1, (hTe h0).2]
      exact ⟨rfl, hk2, ho1.trans ho2⟩
  · have hm1 : (0 : Int) ≤ m := by omega
    have hw : IntKind.u64.wrap m = m := by rw [IntKind.wrap_u64]; omega
    by_cases hg : m < (T.n : Int)
    · have h0 : T.er = 0 := by
        rcases Decidable.em (T.er = 0) with h | h
        · exact h
        · have := (hTe h).1; omega
      have hc : cnt T m = ⟨0, 0, 3⟩ := if_pos ⟨h0, Or.inr hg⟩
      have HC : Hid (cnt T m = ⟨0, 0, 3⟩) := hc
      rw [h0] at hk1
      clear hc h0 hTe
      go_wp2_with fail
      refine (fail_at hk1 _).mono ?_
      rintro e w2 ⟨rfl, hk2, ho2⟩
      rw [if_pos rfl] at hk2
      go_wp2
      go_ret2
      rw [HC.out]
      exact ⟨rfl, hk2, ho1.trans ho2⟩
    · have hc : cnt T m = T := if_neg (fun h => by rcases h.2 with h | h <;> omega)
      have HC : Hid (cnt T m = T) := hc
      have hw2 : IntKind.i64.wrap (T.n : Int) = (T.n : Int) := by rw [IntKind.wrap_i64]; omega
      clear hc hTe
      go_wp2
      go_ret2
      rw [HC.out]
      exact ⟨rfl, hk1, ho1⟩
set_option maxHeartbeats 400000 in
theorem piece_nil (k n : Int) (w : World) : Calls Try.prog 92 #[.pointer none, .int .i64 k, .int .i64 n] w fun e w' => e = .returned (.string ⟨#[]⟩) ∧ w' = w := by
  go_enter Try.func92, Try.ntmps92
  go_wp2_with fail
  refine (err_nil _).mono ?_
  rintro e w1 ⟨rfl, rfl⟩
  go_wp2
  go_ret
  exact ⟨rfl, rfl⟩
set_option maxHeartbeats 400000 in
theorem piece_err {w : World} {b : Nat} {s : ByteArray} {o er : Int} (hcu : Cur w b s o er) (h0 : er ≠ 0) (k n : Int) : Calls Try.prog 92 #[.pointer (some ⟨b, 0, none⟩), .int .i64 k, .int .i64 n] w fun e w' => e = .returned (.string ⟨#[]⟩) ∧ w' = w := by
  go_enter Try.func92, Try.ntmps92
  go_wp2_with fail
  refine (err_at hcu).mono ?_
  rintro e w1 ⟨rfl, rfl⟩
  go_wp2
  go_ret
  exact ⟨rfl, rfl⟩
theorem extract2 (s : ByteArray) (a n : Nat) (h : a + n ≤ s.size) : (s.extract a s.size).extract 0 n = s.extract a (a + n) := by
  have e : ((s.extract a s.size).extract 0 n).data.toList = (s.extract a (a + n)).data.toList := by
    rw [Lib.extract_data, Lib.extract_data, Lib.extract_data, List.drop_zero, Nat.sub_zero, List.take_take]
    congr 1; omega
  have e2 := Array.toList_inj.mp e
  exact ByteArray.ext e2
set_option maxHeartbeats 1000000 in
theorem piece_short {w : World} {b : Nat} {s : ByteArray} {o k : Nat} {n : Int} (hcu : Cur w b s (o : Int) 0) (ho : o + k ≤ s.size) (hs : s.size ≤ 4096) (hn : (s.size : Int) - (o + k : Nat) < n) :
    Calls Try.prog 92 #[.pointer (some ⟨b, 0, none⟩), .int .i64 (k : Int), .int .i64 n] w fun e w' => e = .returned (.string ⟨#[]⟩) ∧ Cur w' b s (o : Int) 4 ∧ Only b w w' := by
  have hc0 := hcu.c0
  have hc1 := hcu.c1
  have hw : IntKind.i64.wrap ((o : Int) + (k : Int)) = (o : Int) + (k : Int) := by rw [IntKind.wrap_i64]; omega
  have h1 : (0 : Int) ≤ (o : Int) + (k : Int) := by omega
  have h2 : (o : Int) + (k : Int) ≤ (s.size : Int) := by omega
  have h3 : (((s.extract (o + k) s.size).size : Nat) : Int) < n := by simp; omega
  obtain ⟨x, hx⟩ : ∃ x, s.extract (o + k) s.size = x := ⟨_, rfl⟩
  rw [hx] at h3
  go_enter Try.func92, Try.ntmps92
  go_wp2_with fail
  refine (err_at hcu).mono ?_
  rintro e w1 ⟨rfl, rfl⟩
  go_wp2_with fail
  go_quiet (fail)
  go_wp2_with fail
  refine (fail_at (hcu.drewN nq) _).mono ?_
  rintro e w2 ⟨rfl, hk2, ho2⟩
  rw [if_pos rfl] at hk2
  go_wp2
  go_ret
  exact ⟨rfl, hk2, ((Only.refl b w1).drewN nq).trans ho2⟩
end Go.Proofs.Ytjmjlijmeahmfaa
