/- The call of a cursor that takes yes or no (Bool). -/
import Derived.Test.YtjmjlijmeahmfaaTxt
import Derived.WalkKit
import Derived.WalkSpells
import Derived.WalkLawsBesides
import Derived.Deep.QuietTactic
import Derived.BigQuiet
import Derived.Lib.Strings
namespace Go.Proofs.Ytjmjlijmeahmfaa
open Go.RowKit
set_option maxHeartbeats 400000 in
theorem bool_nil (w : World) : Calls Try.prog 73 #[.pointer none] w fun e w' => e = .returned (.bool false) ∧ w' = w := by
  go_enter Try.func73, Try.ntmps73
  go_wp2_with fail
  refine (piece_nil _ _ _).mono ?_
  rintro e w1 ⟨rfl, rfl⟩
  go_wp2
  go_ret
  exact ⟨rfl, rfl⟩
set_option maxHeartbeats 400000 in
theorem bool_err {w : World} {b : Nat} {s : ByteArray} {o er : Int} (hcu : Cur w b s o er) (h0 : er ≠ 0) : Calls Try.prog 73 #[.pointer (some ⟨b, 0, none⟩)] w fun e w' => e = .returned (.bool false) ∧ w' = w := by
  go_enter Try.func73, Try.ntmps73
  go_wp2_with fail
  refine (piece_err hcu h0 _ _).mono ?_
  rintro e w1 ⟨rfl, rfl⟩
  go_wp2
  go_ret
  exact ⟨rfl, rfl⟩
set_option maxHeartbeats 400000 in
theorem bool_short {w : World} {b : Nat} {s : ByteArray} {o : Nat} (hcu : Cur w b s (o : Int) 0) (ho : o = s.size) (hs : s.size ≤ 4096) : Calls Try.prog 73 #[.pointer (some ⟨b, 0, none⟩)] w fun e w' => e = .returned (.bool false) ∧ Cur w' b s (o : Int) 4 ∧ Only b w w' := by
  have hp := piece_short (k := 0) (n := 1) hcu (by omega) hs (by simp; omega)
  go_enter Try.func73, Try.ntmps73
  go_wp2_with fail
  refine hp.mono ?_
  rintro e w1 ⟨rfl, hk1, ho1⟩
  go_wp2
  go_ret
  exact ⟨rfl, hk1, ho1⟩
theorem ext1 (s : ByteArray) (o : Nat) (h : o < s.size) : (s.extract o (o + 1)).data.toList = [s.data.toList.getD o 0] := by
  have hl : o < s.data.toList.length := by rw [← Lib.size_eq]; exact h
  rw [Lib.extract_data, List.drop_eq_getElem_cons hl, Nat.add_sub_cancel_left]
  rw [List.getD_eq_getElem?_getD, List.getElem?_eq_getElem hl]
  rfl
theorem ext1' (s : ByteArray) (o : Nat) (h : o < s.size) : s.extract o (o + 1) = ⟨#[s.data.toList.getD o 0]⟩ := by
  have e := ext1 s o h
  exact ByteArray.ext (Array.toList_inj.mp e)
set_option maxHeartbeats 400000 in
theorem bool_here {w : World} {b : Nat} {s : ByteArray} {o : Nat} (hcu : Cur w b s (o : Int) 0) (ho : o < s.size) (hs : s.size ≤ 4096) : Calls Try.prog 73 #[.pointer (some ⟨b, 0, none⟩)] w fun e w' => e = .returned (.bool (boolA s o 0).v) ∧ Cur w' b s ((boolA s o 0).o : Int) (boolA s o 0).e ∧ Only b w w' := by
  have hp := piece_ok (k := 0) (n := 1) hcu hs (by omega)
  rw [Nat.add_zero, ext1' s o ho] at hp
  have hA : boolA s o 0 = if 1 < byteAt s o then ⟨false, o, 6⟩ else ⟨(byteAt s o : Int) == 1, o + 1, 0⟩ := by unfold boolA; rw [if_pos rfl, if_pos ho]
  have hB : byteAt s o = (s.data.toList.getD o 0).toNat := rfl
  rw [hA, hB]
  obtain ⟨x, hx⟩ : ∃ x, s.data.toList.getD o 0 = x := ⟨_, rfl⟩
  rw [hx] at hp ⊢
  clear hA hB hx
  obtain ⟨y, hy⟩ : ∃ y : ByteArray, (⟨#[x]⟩ : ByteArray) = y := ⟨_, rfl⟩
  have hys : 0 < y.size := by rw [← hy]; exact Nat.zero_lt_one
  have hy0 : y[0] = x := by subst hy; rfl
  have hye : y.toList.isEmpty = false := by subst hy; rw [Lib.toList_data]; rfl
  rw [hy] at hp
  clear hy
  by_cases h1 : 1 < x.toNat
  · rw [if_pos h1]
    have h1' : (1 : Int) < (x.toNat : Int) := by omega
    show Calls Try.prog 73 _ w fun e w' => e = .returned (.bool false) ∧ Cur w' b s (o : Int) 6 ∧ Only b w w'
    go_enter Try.func73, Try.ntmps73
    go_wp2_with fail
    refine hp.mono ?_
    rintro e w1 ⟨rfl, hk1, ho1⟩
    go_wp2_with fail
    refine (fail_at hk1 _).mono ?_
    rintro e w2 ⟨rfl, hk2, ho2⟩
    rw [if_pos rfl] at hk2
    go_wp2
    go_ret
    exact ⟨rfl, hk2, ho1.trans ho2⟩
  · rw [if_neg h1]
    have h1' : ¬ (1 : Int) < (x.toNat : Int) := by omega
    show Calls Try.prog 73 _ w fun e w' => e = .returned (.bool ((x.toNat : Int) == 1)) ∧ Cur w' b s ((o + 1 : Nat) : Int) 0 ∧ Only b w w'
    go_enter Try.func73, Try.ntmps73
    go_wp2_with fail
    refine hp.mono ?_
    rintro e w1 ⟨rfl, hk1, ho1⟩
    go_wp2_with fail
    refine (skip_ok hk1 _ (by omega) (by omega) (by omega) (by omega)).mono ?_
    rintro e w2 ⟨rfl, hk2, ho2⟩
    go_wp2
    go_ret
    exact ⟨rfl, hk2, ho1.trans ho2⟩
theorem bool_at {w : World} {b : Nat} {s : ByteArray} {o : Nat} {er : Int} (hcu : Cur w b s (o : Int) er) (ho : o ≤ s.size) (hs : s.size ≤ 4096) :
    Calls Try.prog 73 #[.pointer (some ⟨b, 0, none⟩)] w fun e w' => e = .returned (.bool (boolA s o er).v) ∧ Cur w' b s ((boolA s o er).o : Int) (boolA s o er).e ∧ Only b w w' := by
  by_cases h0 : er = 0
  · subst h0
    by_cases h1 : o < s.size
    · exact bool_here hcu h1 hs
    · have hA : boolA s o 0 = ⟨false, o, 4⟩ := by unfold boolA; rw [if_pos rfl, if_neg h1]
      rw [hA]
      exact bool_short (o := o) hcu (by omega) hs
  · have hA : boolA s o er = ⟨false, o, er⟩ := if_neg h0
    rw [hA]
    refine (bool_err hcu h0).mono ?_
    rintro e w' ⟨rfl, rfl⟩
    exact ⟨rfl, hcu, Only.refl _ _⟩
end Go.Proofs.Ytjmjlijmeahmfaa
