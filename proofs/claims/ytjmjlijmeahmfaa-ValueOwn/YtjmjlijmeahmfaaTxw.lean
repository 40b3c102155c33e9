/- Texts and yes or no, in bytes (enc.Text, enc.Bool and the document's). -/
import Derived.Test.YtjmjlijmeahmfaaRput
import Derived.Test.YtjmjlijmeahmfaaInt
import Derived.WalkKit
import Derived.WalkSpells
import Derived.WalkLawsBesides
import Derived.Deep.QuietTactic
import Derived.BigQuiet
import Derived.Lib.Strings
namespace Go.Proofs.Ytjmjlijmeahmfaa
open Go.RowKit
def textB (t : ByteArray) : ByteArray := ⟨(put t.size).toArray⟩ ++ t
def boolB (b : Bool) : ByteArray := if b then ⟨#[1]⟩ else ⟨#[0]⟩
theorem put_size (n : Nat) : (⟨(put n).toArray⟩ : ByteArray).size = (put n).length := by show (put n).toArray.size = _; simp
set_option maxHeartbeats 400000 in
theorem etext_any (t : ByteArray) (ht : t.size ≤ 4294967296) (w : World) : Calls Try.prog 69 #[.string t] w fun e w' => e = .returned (.string (textB t)) ∧ Below w.heap.size w w' := by
  have hpu := fun W => put_any t.size (by omega) W
  have hl := put_len10 (n := t.size) (by omega)
  have hz := put_size t.size
  have hT : textB t = ⟨(put t.size).toArray⟩ ++ t := rfl
  rw [hT]
  obtain ⟨x, hx⟩ : ∃ x : ByteArray, (⟨(put t.size).toArray⟩ : ByteArray) = x := ⟨_, rfl⟩
  rw [hx] at hpu hz ⊢
  have hz2 : x.size + t.size ≤ 9223372036854775807 := by omega
  have hw : IntKind.u64.wrap (t.size : Int) = (t.size : Int) := by rw [IntKind.wrap_u64]; omega
  clear hx hT hz hl
  go_enter Try.func69, Try.ntmps69
  go_wp2_with fail
  refine (hpu _).mono ?_
  rintro e w1 ⟨rfl, hb1⟩
  go_wp2
  go_ret
  exact ⟨rfl, hb1⟩
set_option maxHeartbeats 400000 in
theorem rtx_any (t : ByteArray) (ht : t.size ≤ 4294967296) (w : World) : Calls Try.prog 46 #[.string t] w fun e w' => e = .returned (.string (textB t)) ∧ Below w.heap.size w w' := by
  have hpu := fun W => rput_any t.size (by omega) W
  have hl := put_len10 (n := t.size) (by omega)
  have hz := put_size t.size
  have hT : textB t = ⟨(put t.size).toArray⟩ ++ t := rfl
  rw [hT]
  obtain ⟨x, hx⟩ : ∃ x : ByteArray, (⟨(put t.size).toArray⟩ : ByteArray) = x := ⟨_, rfl⟩
  rw [hx] at hpu hz ⊢
  have hz2 : x.size + t.size ≤ 9223372036854775807 := by omega
  have hw : IntKind.u64.wrap (t.size : Int) = (t.size : Int) := by rw [IntKind.wrap_u64]; omega
  clear hx hT hz hl
  go_enter Try.func46, Try.ntmps46
  go_wp2_with fail
  refine (hpu _).mono ?_
  rintro e w1 ⟨rfl, hb1⟩
  go_wp2
  go_ret
  exact ⟨rfl, hb1⟩
set_option maxHeartbeats 400000 in
theorem ebool_any (b : Bool) (w : World) : Calls Try.prog 52 #[.bool b] w fun e w' => e = .returned (.string (boolB b)) ∧ w' = w := by
  cases b
  all_goals
    go_enter Try.func52, Try.ntmps52
    go_wp2
    go_ret
    exact ⟨rfl, rfl⟩
set_option maxHeartbeats 400000 in
theorem rbo_any (b : Bool) (w : World) : Calls Try.prog 44 #[.bool b] w fun e w' => e = .returned (.string (boolB b)) ∧ w' = w := by
  cases b
  all_goals
    go_enter Try.func44, Try.ntmps44
    go_wp2
    go_ret
    exact ⟨rfl, rfl⟩
theorem boolB_size (b : Bool) : (boolB b).size = 1 := by cases b <;> rfl
end Go.Proofs.Ytjmjlijmeahmfaa
