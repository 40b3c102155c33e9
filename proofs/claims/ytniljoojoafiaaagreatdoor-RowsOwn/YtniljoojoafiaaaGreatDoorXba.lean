/- Whether a text may be a name, as the document has it (its Name): the call returns what the program's does, and nothing that was there has changed. The first error of a value that stands within so many, as the document has it (its shape): where it stands too deep, and where it is not formed. The document's shape of a formed value that has no parts and no names by its kind: none. The document's shape of a formed value of kind five, with at most 32 parts: the first error of its parts. The document's shape of a formed value of kind six, with at most 32 parts: whether its names may be and rise, then the first error of its parts. The first error of a value that stands within so many, as the document has it (its shape): the program's own (sound). The document's bytes of a sound list or struct, and of any sound value. -/
import Derived.Test.YtniljoojoafiaaaGreatDoorXal
import Derived.Deep.DeepCutAuto
import Derived.Deep.CutRange
import Derived.Test.YtniljoojoafiaaaGreatDoorXam
import Derived.Test.YtniljoojoafiaaaGreatDoorXaz
import Derived.Test.YtniljoojoafiaaaGreatDoorXaq
namespace Go.Proofs.YtniljoojoafiaaaGreatDoor.V
open Go.RowKit
def letUB (x : Int) : Bool := decide (x = 95) || letterB x
set_option maxRecDepth 100000 in
theorem chr_range (s : ByteArray) (i : Nat) (h : i < s.size) : 0 ≤ chr s i ∧ chr s i < 256 := by
  rw [← chr_eq s i h]
  have := s[i].toNat_lt
  omega
set_option maxRecDepth 100000 in
theorem okB_of {x : Int} (h : letUB x = true ∨ digitB x = true) : okB x = true := by
  unfold letUB at h
  unfold okB
  rcases h with h | h
  · rcases Bool.or_eq_true _ _ ▸ h with h | h
    · rw [h]; simp
    · rw [h]; simp
  · rw [h]; simp
set_option maxRecDepth 100000 in
theorem okB_not {x : Int} (h1 : letUB x = false) (h2 : digitB x = false) : okB x = false := by
  unfold letUB at h1
  unfold okB
  rw [Bool.or_eq_false_iff] at h1
  rw [h1.1, h1.2, h2]; rfl
set_option maxRecDepth 100000 in
theorem ok_step {s : ByteArray} {i : Nat} (h : ∀ j, j < i → (letUB (chr s j) || (digitB (chr s j) && decide (0 < j))) = true) (h1 : (letUB (chr s i) || (digitB (chr s i) && decide (0 < i))) = true) :
    ∀ j, j < i + 1 → (letUB (chr s j) || (digitB (chr s j) && decide (0 < j))) = true := fun j hj => by
  by_cases hij : j < i
  · exact h j hij
  · obtain rfl : j = i := by omega
    exact h1
set_option maxRecDepth 100000 in
theorem name_digit {s : ByteArray} (h : digitB (chr s 0) = true) : nameB s = false := by
  unfold nameB; rw [h]; simp
set_option maxRecDepth 100000 in
theorem name_bad {s : ByteArray} {i : Nat} (h : i < s.size) (hb : okB (chr s i) = false) : nameB s = false := by
  unfold nameB
  rw [decide_eq_false (p := ∀ i, i < s.size → okB (chr s i) = true) (fun hh => by have := hh i h; rw [hb] at this; cases this)]
  simp
set_option maxRecDepth 100000 in
theorem digit_letter {x : Int} (h : letUB x = true) : digitB x = false := by
  simp only [letUB, letterB, Bool.or_eq_true, Bool.and_eq_true, decide_eq_true_eq] at h
  unfold digitB
  rw [Bool.and_eq_false_iff, decide_eq_false_iff_not, decide_eq_false_iff_not]
  omega
set_option maxRecDepth 100000 in
theorem name_all {s : ByteArray} (h : ∀ j, j < s.size → (letUB (chr s j) || (digitB (chr s j) && decide (0 < j))) = true) : nameB s = (decide (0 < s.size) && decide (s.size < 17)) := by
  by_cases h0 : 0 < s.size
  · have hok : ∀ j, j < s.size → okB (chr s j) = true := fun j hj => okB_of (by
      have := h j hj
      simp only [Bool.or_eq_true, Bool.and_eq_true] at this
      rcases this with h | h
      · exact .inl h
      · exact .inr h.1)
    have hd : digitB (chr s 0) = false := by
      have := h 0 h0
      simp at this
      exact digit_letter this
    unfold nameB
    rw [decide_eq_true hok, hd, Bool.eq_iff_iff]
    simp
    omega
  · unfold nameB
    rw [decide_eq_false h0]
    simp
end Go.Proofs.YtniljoojoafiaaaGreatDoor.V
namespace Go.Proofs.YtniljoojoafiaaaGreatDoor.V
open Go.RowKit
end Go.Proofs.YtniljoojoafiaaaGreatDoor.V
namespace Go.Proofs.YtniljoojoafiaaaGreatDoor.V
open Go.RowKit
end Go.Proofs.YtniljoojoafiaaaGreatDoor.V
namespace Go.Proofs.YtniljoojoafiaaaGreatDoor.V
open Go.RowKit
end Go.Proofs.YtniljoojoafiaaaGreatDoor.V
namespace Go.Proofs.YtniljoojoafiaaaGreatDoor.V
open Go.RowKit
end Go.Proofs.YtniljoojoafiaaaGreatDoor.V
namespace Go.Proofs.YtniljoojoafiaaaGreatDoor.V
open Go.RowKit
end Go.Proofs.YtniljoojoafiaaaGreatDoor.V
namespace Go.Proofs.YtniljoojoafiaaaGreatDoor.V
open Go.RowKit
set_option maxRecDepth 100000 in
theorem cat_le (F : Nat → List UInt8) {i m : Nat} (h : i < m) : (cat i F).length + (F i).length ≤ (cat m F).length := by
  obtain ⟨y, hy⟩ := cat_more F (i := i + 1) (m := m) (by omega)
  rw [hy, List.length_append]
  show _ ≤ (cat i F ++ F i).length + y.length
  rw [List.length_append]
  omega
end Go.Proofs.YtniljoojoafiaaaGreatDoor.V
