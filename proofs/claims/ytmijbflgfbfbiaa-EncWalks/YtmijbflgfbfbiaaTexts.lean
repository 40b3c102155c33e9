/- The law EncTexts, called: of any text, yes or no, and number the call returns true, and nothing that was there has changed. -/
import Derived.Test.YtmijbflgfbfbiaaRtat
import Derived.Test.YtmijbflgfbfbiaaAwake
import Derived.WalkKit
import Derived.WalkSpells
import Derived.WalkLawsBesides
import Derived.Deep.QuietTactic
import Derived.BigQuiet
import Derived.Lib.Strings
namespace Go.Proofs.Ytmijbflgfbfbiaa
open Go.RowKit
def fewB (s : ByteArray) : ByteArray := if 300 < s.size then s.extract 0 300 else s
theorem fewB_size (s : ByteArray) : (fewB s).size ≤ 300 := by
  unfold fewB
  split
  · simp; omega
  · omega
set_option maxHeartbeats 400000 in
theorem few_any (s : ByteArray) (w : World) : Calls Try.prog 18 #[.string s] w fun e w' => e = .returned (.string (fewB s)) ∧ w' = w := by
  by_cases h : 300 < s.size
  · have h' : (300 : Int) < (s.size : Int) := by omega
    have hf : fewB s = s.extract 0 300 := if_pos h
    rw [hf]
    clear hf
    go_enter Try.func18, Try.ntmps18
    go_wp2
    go_ret
    exact ⟨rfl, rfl⟩
  · have h' : ¬ (300 : Int) < (s.size : Int) := by omega
    have hf : fewB s = s := if_neg h
    rw [hf]
    clear hf
    go_enter Try.func18, Try.ntmps18
    go_wp2
    go_ret
    exact ⟨rfl, rfl⟩
def textB (t : ByteArray) : ByteArray := ⟨(put t.size).toArray⟩ ++ t
def boolB (b : Bool) : ByteArray := if b then ⟨#[1]⟩ else ⟨#[0]⟩
theorem put_size (n : Nat) : (⟨(put n).toArray⟩ : ByteArray).size = (put n).length := by show (put n).toArray.size = _; simp
set_option maxHeartbeats 400000 in
theorem etext_any (t : ByteArray) (ht : t.size ≤ 300) (w : World) : Calls Try.prog 33 #[.string t] w fun e w' => e = .returned (.string (textB t)) ∧ Below w.heap.size w w' := by
  have hpu := fun W => put_any t.size (by omega) W
  have hl := put_len10 (n := t.size) (by omega)
  have hz := put_size t.size
  have hT : textB t = ⟨(put t.size).toArray⟩ ++ t := rfl
  rw [hT]
  obtain ⟨x, hx⟩ : ∃ x : ByteArray, (⟨(put t.size).toArray⟩ : ByteArray) = x := ⟨_, rfl⟩
  rw [hx] at hpu hz ⊢
  have hz2 : x.size + t.size ≤ 9223372036854775807 := by omega
  have hw : IntKind.u64.wrap (t.size : Int) = (t.size : Int) := by rw [IntKind.wrap_u64]; omega
  clear hx hT hz hl
  go_enter Try.func33, Try.ntmps33
  go_wp2_with fail
  refine (hpu _).mono ?_
  rintro e w1 ⟨rfl, hb1⟩
  go_wp2
  go_ret
  exact ⟨rfl, hb1⟩
set_option maxHeartbeats 400000 in
theorem rtx_any (t : ByteArray) (ht : t.size ≤ 300) (w : World) : Calls Try.prog 35 #[.string t] w fun e w' => e = .returned (.string (textB t)) ∧ Below w.heap.size w w' := by
  have hpu := fun W => rput_any t.size (by omega) W
  have hl := put_len10 (n := t.size) (by omega)
  have hz := put_size t.size
  have hT : textB t = ⟨(put t.size).toArray⟩ ++ t := rfl
  rw [hT]
  obtain ⟨x, hx⟩ : ∃ x : ByteArray, (⟨(put t.size).toArray⟩ : ByteArray) = x := ⟨_, rfl⟩
  rw [hx] at hpu hz ⊢
  have hz2 : x.size + t.size ≤ 9223372036854775807 := by omega
  have hw : IntKind.u64.wrap (t.size : Int) = (t.size : Int) := by rw [IntKind.wrap_u64]; omega
  clear hx hT hz hl
  go_enter Try.func35, Try.ntmps35
  go_wp2_with fail
  refine (hpu _).mono ?_
  rintro e w1 ⟨rfl, hb1⟩
  go_wp2
  go_ret
  exact ⟨rfl, hb1⟩
set_option maxHeartbeats 400000 in
theorem ebool_any (b : Bool) (w : World) : Calls Try.prog 34 #[.bool b] w fun e w' => e = .returned (.string (boolB b)) ∧ w' = w := by
  cases b
  all_goals
    go_enter Try.func34, Try.ntmps34
    go_wp2
    go_ret
    exact ⟨rfl, rfl⟩
set_option maxHeartbeats 400000 in
theorem rbo_any (b : Bool) (w : World) : Calls Try.prog 36 #[.bool b] w fun e w' => e = .returned (.string (boolB b)) ∧ w' = w := by
  cases b
  all_goals
    go_enter Try.func36, Try.ntmps36
    go_wp2
    go_ret
    exact ⟨rfl, rfl⟩
theorem boolB_size (b : Bool) : (boolB b).size = 1 := by cases b <;> rfl
def allB (t : ByteArray) (b : Bool) : ByteArray := textB t ++ boolB b
theorem allB_list (t : ByteArray) (b : Bool) : (allB t b).data.toList = put t.size ++ (t.data.toList ++ [if b then 1 else 0]) := by
  unfold allB textB
  rw [ByteArray.data_append, ByteArray.data_append, Array.toList_append, Array.toList_append, List.append_assoc]
  cases b <;> rfl
theorem allB_size (t : ByteArray) (b : Bool) : (allB t b).size = (put t.size).length + t.size + 1 := by
  unfold allB textB
  rw [ByteArray.size_append, ByteArray.size_append, put_size, boolB_size]
theorem allB_tk (t : ByteArray) (b : Bool) (ht : t.size ≤ 300) : tkA (allB t b) 0 = ⟨t.size, (put t.size).length, 0⟩ := by
  unfold tkA
  rw [List.drop_zero, allB_list, take_put t.size (by omega)]
theorem allB_few (t : ByteArray) (b : Bool) (m : Int) (ht : t.size ≤ 300) (hm : m < (t.size : Int)) : textA (allB t b) 0 0 m = ⟨⟨#[]⟩, 0, 3⟩ := by
  have hc : cnt ⟨t.size, (put t.size).length, 0⟩ (min m 1048576) = ⟨0, 0, 3⟩ := if_pos ⟨rfl, Or.inr (by show min m 1048576 < (t.size : Int); omega)⟩
  unfold textA
  rw [allB_tk t b ht, hc, if_pos rfl, if_neg (by decide)]
theorem allB_text (t : ByteArray) (b : Bool) (m : Int) (ht : t.size ≤ 300) (hm : ¬ m < (t.size : Int)) : textA (allB t b) 0 0 m = ⟨t, (put t.size).length + t.size, 0⟩ := by
  have hc : cnt ⟨t.size, (put t.size).length, 0⟩ (min m 1048576) = ⟨t.size, (put t.size).length, 0⟩ := if_neg (fun h => by
    have h2 : min m 1048576 < 0 ∨ min m 1048576 < (t.size : Int) := h.2
    omega)
  unfold textA
  rw [allB_tk t b ht, hc, if_pos rfl, if_pos rfl, if_neg (by rw [allB_size]; show ¬ (put t.size).length + t.size + 1 < 0 + (put t.size).length + t.size; omega)]
  show (⟨(allB t b).extract (0 + (put t.size).length) (0 + (put t.size).length + t.size), 0 + (put t.size).length + t.size, 0⟩ : Ans ByteArray) = _
  rw [Nat.zero_add]
  congr 1
  apply ByteArray.ext
  apply Array.toList_inj.mp
  rw [Lib.extract_data, allB_list, List.drop_left, Nat.add_sub_cancel_left, List.take_append_of_le_length (by rw [← Lib.size_eq]; exact Nat.le_refl _), List.take_of_length_le (by rw [← Lib.size_eq]; exact Nat.le_refl _)]
theorem allB_bool (t : ByteArray) (b : Bool) : boolA (allB t b) ((put t.size).length + t.size) 0 = ⟨b, (put t.size).length + t.size + 1, 0⟩ := by
  have hb : byteAt (allB t b) ((put t.size).length + t.size) = if b then 1 else 0 := by
    unfold byteAt
    rw [allB_list, List.getD_eq_getElem?_getD, List.getElem?_append_right (by omega), Nat.add_sub_cancel_left, List.getElem?_append_right (by rw [← Lib.size_eq]; exact Nat.le_refl _), ← Lib.size_eq, Nat.sub_self]
    cases b <;> rfl
  unfold boolA
  rw [if_pos rfl, if_pos (by rw [allB_size]; omega), hb]
  cases b <;> rfl
end Go.Proofs.Ytmijbflgfbfbiaa
