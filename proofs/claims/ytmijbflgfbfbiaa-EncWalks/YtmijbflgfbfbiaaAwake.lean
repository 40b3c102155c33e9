/- A number there and back (awake): the call returns true, and nothing that was there has changed. -/
import Derived.Test.YtmijbflgfbfbiaaBoo
import Derived.Test.YtmijbflgfbfbiaaRput
import Derived.WalkKit
import Derived.WalkSpells
import Derived.WalkLawsBesides
import Derived.Deep.QuietTactic
import Derived.BigQuiet
import Derived.Lib.Strings
namespace Go.Proofs.Ytmijbflgfbfbiaa
open Go.RowKit
theorem put300 : put 300 = [172, 2] := by
  rw [put_ge (by decide), put_lt (by decide)]; rfl
theorem put_300 (w : World) : Calls Try.prog 10 #[.int .u64 300] w fun e w' => e = .returned (.string ⟨#[172, 2]⟩) ∧ Below w.heap.size w w' := by
  have := put_any 300 (by decide) w
  rw [put300] at this
  exact this
theorem uintA_put (n : Nat) (hn : n < 18446744073709551616) : uintA ⟨(put n).toArray⟩ 0 0 = ⟨n, (put n).length, 0⟩ := by
  unfold uintA tkA
  rw [if_pos rfl]
  have h := take_put n hn []
  rw [List.append_nil] at h
  show (⟨(tk 0 0 (put n)).n, 0 + (tk 0 0 (put n)).sz, (tk 0 0 (put n)).er⟩ : Ans Nat) = _
  rw [h]
  simp
theorem cur_new (w : World) (s : ByteArray) : Cur (w.alloc (.cells #[.string s, .int .i64 0, .int .i64 0] 61)) w.heap.size s ((0 : Nat) : Int) 0 := heap_alloc_new _ _
theorem uint_put {w : World} {b : Nat} (n : Nat) (hn : n < 18446744073709551616) (hcu : Cur w b ⟨(put n).toArray⟩ ((0 : Nat) : Int) 0) :
    Calls Try.prog 13 #[.pointer (some ⟨b, 0, none⟩)] w fun e w' => e = .returned (.int .u64 (n : Int)) ∧ Cur w' b ⟨(put n).toArray⟩ (((put n).length : Nat) : Int) 0 ∧ Only b w w' := by
  have h10 := put_len10 hn
  have hz : (⟨(put n).toArray⟩ : ByteArray).size = (put n).length := by show (put n).toArray.size = _; simp
  have := uint_at hcu (by omega) (by rw [hz]; omega)
  rw [uintA_put n hn] at this
  exact this
theorem end_put {w : World} {b : Nat} (n : Nat) (hcu : Cur w b ⟨(put n).toArray⟩ (((put n).length : Nat) : Int) 0) :
    Calls Try.prog 14 #[.pointer (some ⟨b, 0, none⟩)] w fun e w' => e = .returned (.int .i64 0) ∧ Only b w w' := by
  have hz : (⟨(put n).toArray⟩ : ByteArray).size = (put n).length := by show (put n).toArray.size = _; simp
  have := end_ok hcu
  rw [if_neg (by omega)] at this
  exact this
set_option maxHeartbeats 1000000 in
theorem awake_any (w : World) : Calls Try.prog 11 #[] w fun e w' => e = .returned (.bool true) ∧ Below w.heap.size w w' := by
  have hup := fun (W : World) (b : Nat) => uint_put (w := W) (b := b) 300 (by decide)
  have hen := fun (W : World) (b : Nat) => end_put (w := W) (b := b) 300
  rw [put300] at hup hen
  go_enter Try.func11, Try.ntmps11
  go_wp2_with fail
  refine (put_300 _).mono ?_
  rintro e w1 ⟨rfl, hb1⟩
  go_wp2_with fail
  refine (at_any _ _).mono ?_
  rintro e w2 ⟨rfl, rfl⟩
  go_wp2_with fail
  refine (hup _ _ (cur_new _ _)).mono ?_
  rintro e w3 ⟨rfl, hk3, ho3⟩
  go_wp2_with fail
  refine (hen _ _ hk3).mono ?_
  rintro e w4 ⟨rfl, ho4⟩
  go_wp2
  go_ret
  exact ⟨rfl, (hb1.alloc hb1.size _).trans ((ho3.trans ho4).below hb1.size (by have := hb1.size; simp; omega))⟩
end Go.Proofs.Ytmijbflgfbfbiaa
