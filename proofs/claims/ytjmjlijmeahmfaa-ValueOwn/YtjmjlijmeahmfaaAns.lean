/- The calls of a cursor that take something: Uint, Int, Count, Bytes, Text, Bool; what each answers, and the cursor behind it, in plain words (the functions ..A). -/
import Derived.Test.YtjmjlijmeahmfaaTake
import Derived.WalkKit
import Derived.WalkSpells
import Derived.WalkLawsBesides
import Derived.Deep.QuietTactic
import Derived.BigQuiet
import Derived.Lib.Strings
namespace Go.Proofs.Ytjmjlijmeahmfaa
open Go.RowKit
structure Ans (α : Type) where
  v : α
  o : Nat
  e : Int
def tkA (s : ByteArray) (o : Nat) : Tk := tk 0 0 (s.data.toList.drop o)
theorem tkA_err {s : ByteArray} {o : Nat} : (tkA s o).er ≠ 0 → (tkA s o).n = 0 ∧ (tkA s o).sz = 0 := tk_err
theorem tkA_bound {s : ByteArray} {o : Nat} (ho : o ≤ s.size) : (tkA s o).n < 18446744073709551616 ∧ o + (tkA s o).sz ≤ s.size ∧ (tkA s o).sz ≤ 10 := by
  obtain ⟨h1, h2, h3⟩ := tk_bound (r := s.data.toList.drop o) (n := 0) (i := 0) (by omega) (by decide)
  refine ⟨h1, ?_, h3⟩
  rw [List.length_drop, ← Lib.size_eq] at h2
  show o + (tk 0 0 (s.data.toList.drop o)).sz ≤ s.size
  omega
def uintA (s : ByteArray) (o : Nat) (er : Int) : Ans Nat := if er = 0 then ⟨(tkA s o).n, o + (tkA s o).sz, (tkA s o).er⟩ else ⟨0, o, er⟩
def zag (n : Nat) : Int := if n % 2 = 1 then -((n / 2 : Nat) : Int) - 1 else ((n / 2 : Nat) : Int)
def countA (s : ByteArray) (o : Nat) (er m : Int) : Ans Nat := if er = 0 then ⟨(cnt (tkA s o) m).n, o + (cnt (tkA s o) m).sz, (cnt (tkA s o) m).er⟩ else ⟨0, o, er⟩
theorem cnt_err {T : Tk} {m : Int} (h : T.er ≠ 0 → T.n = 0 ∧ T.sz = 0) : (cnt T m).er ≠ 0 → (cnt T m).n = 0 ∧ (cnt T m).sz = 0 := by
  unfold cnt
  split
  · exact fun _ => ⟨rfl, rfl⟩
  · exact h
theorem cnt_sz {T : Tk} {m : Int} : (cnt T m).sz ≤ T.sz ∧ (cnt T m).n ≤ T.n := by
  unfold cnt
  split
  · exact ⟨Nat.zero_le _, Nat.zero_le _⟩
  · exact ⟨Nat.le_refl _, Nat.le_refl _⟩
theorem cnt_most {T : Tk} {m : Int} (h : (cnt T m).er = 0) : 0 ≤ m ∧ ((cnt T m).n : Int) ≤ m := by
  unfold cnt at h ⊢
  split
  · rename_i h1; rw [if_pos h1] at h; exact absurd h (by decide)
  · rename_i h1; rw [if_neg h1] at h
    have : ¬ (m < 0 ∨ m < (T.n : Int)) := fun k => h1 ⟨h, k⟩
    omega
set_option maxHeartbeats 400000 in
theorem uint_nil (w : World) : Calls Try.prog 94 #[.pointer none] w fun e w' => e = .returned (.int .u64 0) ∧ w' = w := by
  go_enter Try.func94, Try.ntmps94
  go_wp2_with fail
  refine (number_nil _).mono ?_
  rintro e w1 ⟨rfl, rfl⟩
  go_wp2_with fail
  refine (skip_nil _ _).mono ?_
  rintro e w1 ⟨rfl, rfl⟩
  go_wp2
  go_ret
  exact ⟨rfl, rfl⟩
set_option maxHeartbeats 400000 in
theorem uint_at {w : World} {b : Nat} {s : ByteArray} {o : Nat} {er : Int} (hcu : Cur w b s (o : Int) er) (ho : o ≤ s.size) (hs : s.size ≤ 4096) :
    Calls Try.prog 94 #[.pointer (some ⟨b, 0, none⟩)] w fun e w' => e = .returned (.int .u64 ((uintA s o er).v : Int)) ∧ Cur w' b s ((uintA s o er).o : Int) (uintA s o er).e ∧ Only b w w' := by
  by_cases h0 : er = 0
  · subst h0
    obtain ⟨hb1, hb2, hb3⟩ := tkA_bound ho
    have hTe : (tkA s o).er ≠ 0 → (tkA s o).n = 0 ∧ (tkA s o).sz = 0 := tkA_err
    obtain ⟨T, hT⟩ : ∃ T, tkA s o = T := ⟨_, rfl⟩
    have hA : uintA s o 0 = ⟨T.n, o + T.sz, T.er⟩ := by unfold uintA; rw [if_pos rfl, hT]
    rw [hA]
    rw [hT] at hb1 hb2 hb3 hTe
    clear hA
    show Calls Try.prog 94 _ w fun e w' => e = .returned (.int .u64 (T.n : Int)) ∧ Cur w' b s ((o + T.sz : Nat) : Int) T.er ∧ Only b w w'
    go_enter Try.func94, Try.ntmps94
    go_wp2_with fail
    refine (number_ok hcu ho hs T hT).mono ?_
    rintro e w1 ⟨rfl, hk1, ho1⟩
    clear hT
    by_cases h1 : T.er = 0
    · rw [h1] at hk1
      have H1 : Hid (T.er = 0) := h1
      clear h1
      go_wp2_with fail
      refine (skip_ok hk1 _ (by omega) (by omega) (by omega) (by omega)).mono ?_
      rintro e w2 ⟨rfl, hk2, ho2⟩
      clear hTe
      go_wp2
      go_ret
      rw [H1.out]
      exact ⟨rfl, hk2, ho1.trans ho2⟩
    · have h2 : Hid (o + T.sz = o) := by have := (hTe h1).2; show o + T.sz = o; omega
      clear hTe
      go_wp2_with fail
      refine (skip_err hk1 h1 _).mono ?_
      rintro e w2 ⟨rfl, rfl⟩
      go_wp2
      go_ret
      rw [h2.out]
      exact ⟨rfl, hk1, ho1⟩
  · have hA : uintA s o er = ⟨0, o, er⟩ := if_neg h0
    rw [hA]
    show Calls Try.prog 94 _ w fun e w' => e = .returned (.int .u64 0) ∧ Cur w' b s (o : Int) er ∧ Only b w w'
    clear hA
    go_enter Try.func94, Try.ntmps94
    go_wp2_with fail
    refine (number_err hcu h0).mono ?_
    rintro e w1 ⟨rfl, rfl⟩
    go_wp2_with fail
    refine (skip_err hcu h0 _).mono ?_
    rintro e w1 ⟨rfl, rfl⟩
    go_wp2
    go_ret
    exact ⟨rfl, hcu, Only.refl _ _⟩
theorem uintA_lt {s : ByteArray} {o : Nat} {er : Int} (ho : o ≤ s.size) : (uintA s o er).v < 18446744073709551616 := by
  unfold uintA
  split
  · exact (tkA_bound ho).1
  · show (0 : Nat) < _; decide
set_option maxHeartbeats 400000 in
theorem int_nil (w : World) : Calls Try.prog 74 #[.pointer none] w fun e w' => e = .returned (.int .i64 0) ∧ w' = w := by
  go_enter Try.func74, Try.ntmps74
  go_wp2_with fail
  refine (uint_nil _).mono ?_
  rintro e w1 ⟨rfl, rfl⟩
  go_wp2
  go_ret
  exact ⟨rfl, rfl⟩
set_option maxHeartbeats 400000 in
theorem int_at {w : World} {b : Nat} {s : ByteArray} {o : Nat} {er : Int} (hcu : Cur w b s (o : Int) er) (ho : o ≤ s.size) (hs : s.size ≤ 4096) :
    Calls Try.prog 74 #[.pointer (some ⟨b, 0, none⟩)] w fun e w' => e = .returned (.int .i64 (zag (uintA s o er).v)) ∧ Cur w' b s ((uintA s o er).o : Int) (uintA s o er).e ∧ Only b w w' := by
  have hlt := uintA_lt (er := er) ho
  have huint := uint_at hcu ho hs
  obtain ⟨A, hA⟩ : ∃ A, uintA s o er = A := ⟨_, rfl⟩
  rw [hA] at huint hlt ⊢
  clear hA
  obtain ⟨n, o', e'⟩ := A
  dsimp only at huint hlt ⊢
  go_enter Try.func74, Try.ntmps74
  go_wp2_with fail
  refine huint.mono ?_
  rintro e w1 ⟨rfl, hk1, ho1⟩
  clear hcu
  have hw : IntKind.i64.wrap ((n : Int) / 2) = (n : Int) / 2 := by rw [IntKind.wrap_i64]; omega
  by_cases h1 : n % 2 = 1
  · have hz : Hid (zag n = -((n / 2 : Nat) : Int) - 1) := if_pos h1
    have h1' : (n : Int) % 2 = 1 := by omega
    have hw2 : IntKind.i64.wrap (-((n : Int) / 2)) = -((n : Int) / 2) := by rw [IntKind.wrap_i64]; omega
    have hw3 : IntKind.i64.wrap (-((n : Int) / 2) - 1) = -((n : Int) / 2) - 1 := by rw [IntKind.wrap_i64]; omega
    go_wp2
    go_ret
    rw [hz.out]
    exact ⟨rfl, hk1, ho1⟩
  · have hz : Hid (zag n = ((n / 2 : Nat) : Int)) := if_neg h1
    have h1' : ¬ (n : Int) % 2 = 1 := by omega
    go_wp2
    go_ret
    rw [hz.out]
    exact ⟨rfl, hk1, ho1⟩
set_option maxHeartbeats 400000 in
theorem cou_nil (m : Int) (w : World) : Calls Try.prog 96 #[.pointer none, .int .i64 m] w fun e w' => e = .returned (.int .i64 0) ∧ w' = w := by
  go_enter Try.func96, Try.ntmps96
  go_wp2_with fail
  refine (count_nil _ _).mono ?_
  rintro e w1 ⟨rfl, rfl⟩
  go_wp2_with fail
  refine (skip_nil _ _).mono ?_
  rintro e w1 ⟨rfl, rfl⟩
  go_wp2
  go_ret
  exact ⟨rfl, rfl⟩
set_option maxHeartbeats 400000 in
theorem cou_at {w : World} {b : Nat} {s : ByteArray} {o : Nat} {er : Int} (hcu : Cur w b s (o : Int) er) (ho : o ≤ s.size) (hs : s.size ≤ 4096) (m : Int) (hm : m < 9223372036854775808) :
    Calls Try.prog 96 #[.pointer (some ⟨b, 0, none⟩), .int .i64 m] w fun e w' => e = .returned (.int .i64 ((countA s o er m).v : Int)) ∧ Cur w' b s ((countA s o er m).o : Int) (countA s o er m).e ∧ Only b w w' := by
  by_cases h0 : er = 0
  · subst h0
    obtain ⟨hb1, hb2, hb3⟩ := tkA_bound ho
    have hTe : (cnt (tkA s o) m).er ≠ 0 → (cnt (tkA s o) m).n = 0 ∧ (cnt (tkA s o) m).sz = 0 := cnt_err tkA_err
    have hTs := (cnt_sz (T := tkA s o) (m := m)).1
    have hct := count_ok hcu ho hs (tkA s o) rfl m hm
    obtain ⟨T, hT⟩ : ∃ T, cnt (tkA s o) m = T := ⟨_, rfl⟩
    have hA : countA s o 0 m = ⟨T.n, o + T.sz, T.er⟩ := by unfold countA; rw [if_pos rfl, hT]
    rw [hA]
    rw [hT] at hTe hTs hct
    clear hA
    have h10 : T.sz ≤ 10 := by omega
    clear hTs hb1 hb2 hb3
    show Calls Try.prog 96 _ w fun e w' => e = .returned (.int .i64 (T.n : Int)) ∧ Cur w' b s ((o + T.sz : Nat) : Int) T.er ∧ Only b w w'
    go_enter Try.func96, Try.ntmps96
    go_wp2_with fail
    refine hct.mono ?_
    rintro e w1 ⟨rfl, hk1, ho1⟩
    clear hT
    by_cases h1 : T.er = 0
    · rw [h1] at hk1
      have H1 : Hid (T.er = 0) := h1
      clear h1
      go_wp2_with fail
      refine (skip_ok hk1 _ (by omega) (by omega) (by omega) (by omega)).mono ?_
      rintro e w2 ⟨rfl, hk2, ho2⟩
      clear hTe
      go_wp2
      go_ret
      rw [H1.out]
      exact ⟨rfl, hk2, ho1.trans ho2⟩
    · have h2 : Hid (o + T.sz = o) := by have := (hTe h1).2; show o + T.sz = o; omega
      clear hTe
      go_wp2_with fail
      refine (skip_err hk1 h1 _).mono ?_
      rintro e w2 ⟨rfl, rfl⟩
      go_wp2
      go_ret
      rw [h2.out]
      exact ⟨rfl, hk1, ho1⟩
  · have hA : countA s o er m = ⟨0, o, er⟩ := if_neg h0
    rw [hA]
    show Calls Try.prog 96 _ w fun e w' => e = .returned (.int .i64 0) ∧ Cur w' b s (o : Int) er ∧ Only b w w'
    clear hA
    go_enter Try.func96, Try.ntmps96
    go_wp2_with fail
    refine (count_err hcu h0 m).mono ?_
    rintro e w1 ⟨rfl, hk1, ho1⟩
    go_wp2_with fail
    refine (skip_err hk1 h0 _).mono ?_
    rintro e w1 ⟨rfl, rfl⟩
    go_wp2
    go_ret
    exact ⟨rfl, hk1, ho1⟩
end Go.Proofs.Ytjmjlijmeahmfaa
