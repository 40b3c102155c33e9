/- The calls of a cursor that take something: Uint, Int, Count, Bytes, Text, Bool, and End; what each answers, and the cursor behind it, in plain words (the functions ..A). -/
import Derived.Test.YtjmjlijmeahmfaaNum
import Derived.WalkKit
import Derived.WalkSpells
import Derived.WalkLawsBesides
import Derived.Deep.QuietTactic
import Derived.BigQuiet
import Derived.Lib.Strings
namespace Go.Proofs.Ytjmjlijmeahmfaa
open Go.RowKit
set_option maxHeartbeats 1000000 in
theorem piece_ok {w : World} {b : Nat} {s : ByteArray} {o k n : Nat} (hcu : Cur w b s (o : Int) 0) (hs : s.size ≤ 4096) (hn : o + k + n ≤ s.size) :
    Calls Try.prog 92 #[.pointer (some ⟨b, 0, none⟩), .int .i64 (k : Int), .int .i64 (n : Int)] w fun e w' => e = .returned (.string (s.extract (o + k) (o + k + n))) ∧ Cur w' b s (o : Int) 0 ∧ Only b w w' := by
  have hc0 := hcu.c0
  have hc1 := hcu.c1
  have hw : IntKind.i64.wrap ((o : Int) + (k : Int)) = (o : Int) + (k : Int) := by rw [IntKind.wrap_i64]; omega
  have h1 : (0 : Int) ≤ (o : Int) + (k : Int) := by omega
  have h2 : (o : Int) + (k : Int) ≤ (s.size : Int) := by omega
  have h3 : ¬ (((s.extract (o + k) s.size).size : Nat) : Int) < (n : Int) := by simp; omega
  have h4 : (n : Int) ≤ (((s.extract (o + k) s.size).size : Nat) : Int) := by simp; omega
  have h5 : (0 : Int) ≤ (n : Int) := by omega
  have hx2 : Hid ((s.extract (o + k) s.size).extract 0 n = s.extract (o + k) (o + k + n)) := extract2 s (o + k) n hn
  obtain ⟨x, hx⟩ : ∃ x, s.extract (o + k) s.size = x := ⟨_, rfl⟩
  rw [hx] at h3 h4 hx2
  go_enter Try.func92, Try.ntmps92
  go_wp2_with fail
  refine (err_at hcu).mono ?_
  rintro e w1 ⟨rfl, rfl⟩
  go_wp2_with fail
  go_quiet (fail)
  go_wp2
  go_ret
  try rw [hx2.out]
  exact ⟨rfl, hcu.drewN nq, (Only.refl b w1).drewN nq⟩
set_option maxHeartbeats 400000 in
theorem end_nil (w : World) : Calls Try.prog 43 #[.pointer none] w fun e w' => e = .returned (.int .i64 1) ∧ ∃ n, w' = w.drewN n := by
  go_enter Try.func43, Try.ntmps43
  go_wp2_with fail
  go_quiet ((go_at_call 77; exact Calls.quiet_of_same (err_nil _)))
  go_wp2_with fail
  refine (err_nil _).mono ?_
  rintro e w1 ⟨rfl, rfl⟩
  go_wp2
  go_ret
  exact ⟨rfl, _, rfl⟩
theorem end_err {w : World} {b : Nat} {s : ByteArray} {o er : Int} (hcu : Cur w b s o er) (h0 : er ≠ 0) : Calls Try.prog 43 #[.pointer (some ⟨b, 0, none⟩)] w fun e w' => e = .returned (.int .i64 er) ∧ ∃ n, w' = w.drewN n := by
  have hd : decide (er = 0) = false := by simp [h0]
  have hq := fun n => err_at (hcu.drewN n)
  go_enter Try.func43, Try.ntmps43
  go_wp2_with fail
  go_quiet ((go_at_call 77; exact Calls.quiet_of_same (hq _)))
  go_wp2_with fail
  refine (err_at (hcu.drewN nq)).mono ?_
  rintro e w1 ⟨rfl, rfl⟩
  go_wp2
  go_ret
  exact ⟨rfl, _, rfl⟩
theorem end_ok {w : World} {b : Nat} {s : ByteArray} {o : Nat} (hcu : Cur w b s (o : Int) 0) : Calls Try.prog 43 #[.pointer (some ⟨b, 0, none⟩)] w fun e w' => e = .returned (.int .i64 (if o < s.size then 5 else 0)) ∧ Only b w w' := by
  have hc0 := hcu.c0
  have hc1 := hcu.c1
  have hc2 := hcu.c2
  have hf := hcu.f 2
  have hq := fun n => err_at (hcu.drewN n)
  by_cases ho : o < s.size
  · have ho' : (o : Int) < (s.size : Int) := by omega
    rw [if_pos ho]
    go_enter Try.func43, Try.ntmps43
    go_wp2_with fail
    go_quiet ((go_at_call 77; exact Calls.quiet_of_same (hq _)))
    go_wp2_with fail
    refine (err_at ((hcu.drewN nq).set2 5)).mono ?_
    rintro e w1 ⟨rfl, rfl⟩
    go_wp2
    go_ret
    exact ⟨rfl, ((Only.refl b w).drewN nq).setCell 2 _⟩
  · have ho' : ¬ (o : Int) < (s.size : Int) := by omega
    rw [if_neg ho]
    go_enter Try.func43, Try.ntmps43
    go_wp2_with fail
    go_quiet ((go_at_call 77; exact Calls.quiet_of_same (hq _)))
    go_wp2_with fail
    refine (err_at (hcu.drewN nq)).mono ?_
    rintro e w1 ⟨rfl, rfl⟩
    go_wp2
    go_ret
    exact ⟨rfl, (Only.refl b w).drewN nq⟩
end Go.Proofs.Ytjmjlijmeahmfaa
