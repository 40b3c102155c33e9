/- The calls of a cursor that take something: Uint, Int, Count, Bytes, Text, Bool; what each answers, and the cursor behind it, in plain words (the functions ..A). -/
import Derived.Test.YtaacbcnpagpdnaaDoorTake
import Derived.WalkKit
import Derived.WalkSpells
import Derived.WalkLawsBesides
import Derived.Deep.QuietTactic
import Derived.BigQuiet
import Derived.Lib.Strings
namespace Go.Proofs.YtaacbcnpagpdnaaDoor
open Go.RowKit
structure Ans (α : Type) where
  v : α
  o : Nat
  e : Int
def tkA (s : ByteArray) (o : Nat) : Tk := tk 0 0 (s.data.toList.drop o)
theorem tkA_err {s : ByteArray} {o : Nat} : (tkA s o).er ≠ 0 → (tkA s o).n = 0 ∧ (tkA s o).sz = 0 := tk_err
theorem tkA_bound {s : ByteArray} {o : Nat} (ho : o ≤ s.size) : (tkA s o).n < 18446744073709551616 ∧ o + (tkA s o).sz ≤ s.size ∧ (tkA s o).sz ≤ 10 := by
  obtain ⟨h1, h2, h3⟩ := tk_bound (r := s.data.toList.drop o) (n := 0) (i := 0) (by omega) (by decide)
  refine ⟨h1, ?_, h3⟩
  rw [List.length_drop, ← Lib.size_eq] at h2
  show o + (tk 0 0 (s.data.toList.drop o)).sz ≤ s.size
  omega
def uintA (s : ByteArray) (o : Nat) (er : Int) : Ans Nat := if er = 0 then ⟨(tkA s o).n, o + (tkA s o).sz, (tkA s o).er⟩ else ⟨0, o, er⟩
def zag (n : Nat) : Int := if n % 2 = 1 then -((n / 2 : Nat) : Int) - 1 else ((n / 2 : Nat) : Int)
def countA (s : ByteArray) (o : Nat) (er m : Int) : Ans Nat := if er = 0 then ⟨(cnt (tkA s o) m).n, o + (cnt (tkA s o) m).sz, (cnt (tkA s o) m).er⟩ else ⟨0, o, er⟩
theorem cnt_err {T : Tk} {m : Int} (h : T.er ≠ 0 → T.n = 0 ∧ T.sz = 0) : (cnt T m).er ≠ 0 → (cnt T m).n = 0 ∧ (cnt T m).sz = 0 := by
  unfold cnt
  split
  · exact fun _ => ⟨rfl, rfl⟩
  · exact h
theorem cnt_sz {T : Tk} {m : Int} : (cnt T m).sz ≤ T.sz ∧ (cnt T m).n ≤ T.n := by
  unfold cnt
  split
  · exact ⟨Nat.zero_le _, Nat.zero_le _⟩
  · exact ⟨Nat.le_refl _, Nat.le_refl _⟩
theorem cnt_most {T : Tk} {m : Int} (h : (cnt T m).er = 0) : 0 ≤ m ∧ ((cnt T m).n : Int) ≤ m := by
  unfold cnt at h ⊢
  split
  · rename_i h1; rw [if_pos h1] at h; exact absurd h (by decide)
  · rename_i h1; rw [if_neg h1] at h
    have : ¬ (m < 0 ∨ m < (T.n : Int)) := fun k => h1 ⟨h, k⟩
    omega
theorem uintA_lt {s : ByteArray} {o : Nat} {er : Int} (ho : o ≤ s.size) : (uintA s o er).v < 18446744073709551616 := by
  unfold uintA
  split
  · exact (tkA_bound ho).1
  · show (0 : Nat) < _; decide
end Go.Proofs.YtaacbcnpagpdnaaDoor
