/- The calls of a cursor that take bytes: Bytes, Text, Bool; what each answers, and the cursor behind it, in plain words. -/
import Derived.Test.YtjmjlijmeahmfaaAns
import Derived.WalkKit
import Derived.WalkSpells
import Derived.WalkLawsBesides
import Derived.Deep.QuietTactic
import Derived.BigQuiet
import Derived.Lib.Strings
namespace Go.Proofs.Ytjmjlijmeahmfaa
open Go.RowKit
def bytesA (s : ByteArray) (o : Nat) (er n : Int) : Ans ByteArray :=
  if er = 0 then (if n < 0 then ⟨⟨#[]⟩, o, 1⟩ else if (s.size : Int) - (o : Int) < n then ⟨⟨#[]⟩, o, 4⟩ else ⟨s.extract o (o + n.toNat), o + n.toNat, 0⟩) else ⟨⟨#[]⟩, o, er⟩
def textA (s : ByteArray) (o : Nat) (er m : Int) : Ans ByteArray :=
  if er = 0 then
    (if (cnt (tkA s o) (min m 1048576)).er = 0 then
      (if s.size < o + (cnt (tkA s o) (min m 1048576)).sz + (cnt (tkA s o) (min m 1048576)).n then ⟨⟨#[]⟩, o, 4⟩
       else ⟨s.extract (o + (cnt (tkA s o) (min m 1048576)).sz) (o + (cnt (tkA s o) (min m 1048576)).sz + (cnt (tkA s o) (min m 1048576)).n), o + (cnt (tkA s o) (min m 1048576)).sz + (cnt (tkA s o) (min m 1048576)).n, 0⟩)
     else ⟨⟨#[]⟩, o, (cnt (tkA s o) (min m 1048576)).er⟩)
  else ⟨⟨#[]⟩, o, er⟩
def byteAt (s : ByteArray) (o : Nat) : Nat := (s.data.toList.getD o 0).toNat
def boolA (s : ByteArray) (o : Nat) (er : Int) : Ans Bool :=
  if er = 0 then (if o < s.size then (if 1 < byteAt s o then ⟨false, o, 6⟩ else ⟨(byteAt s o : Int) == 1, o + 1, 0⟩) else ⟨false, o, 4⟩) else ⟨false, o, er⟩
set_option maxHeartbeats 400000 in
theorem bytes_nil (n : Int) (w : World) : Calls Try.prog 72 #[.pointer none, .int .i64 n] w fun e w' => e = .returned (.string ⟨#[]⟩) ∧ w' = w := by
  by_cases hn : n < 0
  · go_enter Try.func72, Try.ntmps72
    go_wp2_with fail
    refine (fail_nil _ _).mono ?_
    rintro e w1 ⟨rfl, rfl⟩
    go_wp2_with fail
    refine (piece_nil _ _ _).mono ?_
    rintro e w1 ⟨rfl, rfl⟩
    go_wp2_with fail
    refine (skip_nil _ _).mono ?_
    rintro e w1 ⟨rfl, rfl⟩
    go_wp2
    go_ret
    exact ⟨rfl, rfl⟩
  · go_enter Try.func72, Try.ntmps72
    go_wp2_with fail
    refine (piece_nil _ _ _).mono ?_
    rintro e w1 ⟨rfl, rfl⟩
    go_wp2_with fail
    refine (skip_nil _ _).mono ?_
    rintro e w1 ⟨rfl, rfl⟩
    go_wp2
    go_ret
    exact ⟨rfl, rfl⟩
set_option maxHeartbeats 400000 in
theorem bytes_bad {w : World} {b : Nat} {s : ByteArray} {o er n : Int} (hcu : Cur w b s o er) (hn : n < 0) :
    Calls Try.prog 72 #[.pointer (some ⟨b, 0, none⟩), .int .i64 n] w fun e w' => e = .returned (.string ⟨#[]⟩) ∧ Cur w' b s o (if er = 0 then 1 else er) ∧ Only b w w' := by
  have hne : (if er = 0 then 1 else er) ≠ 0 := by split <;> omega
  have hfa := fail_at hcu 1
  obtain ⟨e', he'⟩ : ∃ e' : Int, (if er = 0 then 1 else er) = e' := ⟨_, rfl⟩
  rw [he'] at hne hfa ⊢
  clear he'
  go_enter Try.func72, Try.ntmps72
  go_wp2_with fail
  refine hfa.mono ?_
  rintro e w1 ⟨rfl, hk1, ho1⟩
  go_wp2_with fail
  refine (piece_err hk1 hne _ _).mono ?_
  rintro e w2 ⟨rfl, rfl⟩
  go_wp2_with fail
  refine (skip_err hk1 hne _).mono ?_
  rintro e w2 ⟨rfl, rfl⟩
  go_wp2
  go_ret
  exact ⟨rfl, hk1, ho1⟩
set_option maxHeartbeats 400000 in
theorem bytes_err {w : World} {b : Nat} {s : ByteArray} {o er n : Int} (hcu : Cur w b s o er) (h0 : er ≠ 0) (hn : ¬ n < 0) :
    Calls Try.prog 72 #[.pointer (some ⟨b, 0, none⟩), .int .i64 n] w fun e w' => e = .returned (.string ⟨#[]⟩) ∧ w' = w := by
  go_enter Try.func72, Try.ntmps72
  go_wp2_with fail
  refine (piece_err hcu h0 _ _).mono ?_
  rintro e w2 ⟨rfl, rfl⟩
  go_wp2_with fail
  refine (skip_err hcu h0 _).mono ?_
  rintro e w2 ⟨rfl, rfl⟩
  go_wp2
  go_ret
  exact ⟨rfl, rfl⟩
set_option maxHeartbeats 400000 in
theorem bytes_short {w : World} {b : Nat} {s : ByteArray} {o : Nat} {n : Int} (hcu : Cur w b s (o : Int) 0) (ho : o ≤ s.size) (hs : s.size ≤ 4096) (h0 : ¬ n < 0) (hn : (s.size : Int) - (o : Int) < n) :
    Calls Try.prog 72 #[.pointer (some ⟨b, 0, none⟩), .int .i64 n] w fun e w' => e = .returned (.string ⟨#[]⟩) ∧ Cur w' b s (o : Int) 4 ∧ Only b w w' := by
  have hp := piece_short (k := 0) hcu (by omega) hs (by simpa using hn)
  clear hn
  go_enter Try.func72, Try.ntmps72
  go_wp2_with fail
  refine hp.mono ?_
  rintro e w1 ⟨rfl, hk1, ho1⟩
  go_wp2_with fail
  refine (skip_err hk1 (by decide) _).mono ?_
  rintro e w2 ⟨rfl, rfl⟩
  go_wp2
  go_ret
  exact ⟨rfl, hk1, ho1⟩
set_option maxHeartbeats 400000 in
theorem bytes_ok {w : World} {b : Nat} {s : ByteArray} {o n : Nat} (hcu : Cur w b s (o : Int) 0) (hs : s.size ≤ 4096) (hn : o + n ≤ s.size) :
    Calls Try.prog 72 #[.pointer (some ⟨b, 0, none⟩), .int .i64 (n : Int)] w fun e w' => e = .returned (.string (s.extract o (o + n))) ∧ Cur w' b s ((o + n : Nat) : Int) 0 ∧ Only b w w' := by
  have hp := piece_ok (k := 0) (n := n) hcu hs (by omega)
  have hsz : (s.extract o (o + n)).size = n := by simp; omega
  rw [Nat.add_zero] at hp
  obtain ⟨x, hx⟩ : ∃ x, s.extract o (o + n) = x := ⟨_, rfl⟩
  rw [hx] at hp hsz ⊢
  clear hx
  go_enter Try.func72, Try.ntmps72
  go_wp2_with fail
  refine hp.mono ?_
  rintro e w1 ⟨rfl, hk1, ho1⟩
  go_wp2_with fail
  refine (skip_ok hk1 _ (by omega) (by omega) (by omega) (by omega)).mono ?_
  rintro e w2 ⟨rfl, hk2, ho2⟩
  go_wp2
  go_ret
  exact ⟨rfl, hk2, ho1.trans ho2⟩
theorem bytes_at {w : World} {b : Nat} {s : ByteArray} {o : Nat} {er : Int} (hcu : Cur w b s (o : Int) er) (ho : o ≤ s.size) (hs : s.size ≤ 4096) (n : Int) :
    Calls Try.prog 72 #[.pointer (some ⟨b, 0, none⟩), .int .i64 n] w fun e w' => e = .returned (.string (bytesA s o er n).v) ∧ Cur w' b s ((bytesA s o er n).o : Int) (bytesA s o er n).e ∧ Only b w w' := by
  by_cases h0 : er = 0
  · subst h0
    by_cases h1 : n < 0
    · have hA : bytesA s o 0 n = ⟨⟨#[]⟩, o, 1⟩ := by unfold bytesA; rw [if_pos rfl, if_pos h1]
      rw [hA]
      exact bytes_bad hcu h1
    · by_cases h2 : (s.size : Int) - (o : Int) < n
      · have hA : bytesA s o 0 n = ⟨⟨#[]⟩, o, 4⟩ := by unfold bytesA; rw [if_pos rfl, if_neg h1, if_pos h2]
        rw [hA]
        exact bytes_short hcu ho hs h1 h2
      · have hA : bytesA s o 0 n = ⟨s.extract o (o + n.toNat), o + n.toNat, 0⟩ := by unfold bytesA; rw [if_pos rfl, if_neg h1, if_neg h2]
        rw [hA]
        have := bytes_ok (n := n.toNat) hcu hs (by omega)
        rw [Int.toNat_of_nonneg (by omega : 0 ≤ n)] at this
        exact this
  · have hA : bytesA s o er n = ⟨⟨#[]⟩, o, er⟩ := if_neg h0
    rw [hA]
    by_cases h1 : n < 0
    · have := bytes_bad hcu h1
      rw [if_neg h0] at this
      exact this
    · refine (bytes_err hcu h0 h1).mono ?_
      rintro e w' ⟨rfl, rfl⟩
      exact ⟨rfl, hcu, Only.refl _ _⟩
end Go.Proofs.Ytjmjlijmeahmfaa
