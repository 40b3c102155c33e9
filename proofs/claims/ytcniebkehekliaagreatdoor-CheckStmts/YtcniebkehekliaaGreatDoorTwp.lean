/- Names that come twice, plainly: sorted and compacted they are fewer. -/
import Derived.Test.YtcniebkehekliaaGreatDoorTwc
namespace Go.Proofs.YtcniebkehekliaaGreatDoor
open Go.RowKit Go.Shelf
theorem le_trans8 (a b c : List UInt8) (h1 : decide (a ≤ b) = true) (h2 : decide (b ≤ c) = true) : decide (a ≤ c) = true := by
  simp only [decide_eq_true_eq] at *
  exact List.le_trans h1 h2
theorem le_total8 (a b : List UInt8) : (decide (a ≤ b) || decide (b ≤ a)) = true := by
  simp only [Bool.or_eq_true, decide_eq_true_eq]
  exact List.le_total a b
theorem sorted8 (ss : List (List UInt8)) : (ss.mergeSort fun x y => decide (x ≤ y)).Pairwise (fun x y => x ≤ y) := by
  have h := List.pairwise_mergeSort (le := fun x y : List UInt8 => decide (x ≤ y)) le_trans8 le_total8 ss
  exact h.imp fun h => by simpa using h
/- In a list in order equals stand side by side. -/
theorem side_by_side : ∀ (s : List (List UInt8)), s.Pairwise (fun x y => x ≤ y) → (∀ j, 0 < j → j < s.length → ¬ s[j]? = s[j - 1]?) → s.Nodup
  | [], _, _ => List.nodup_nil
  | [_], _, _ => by simp
  | x :: y :: l, h, k => by
    have h2 := List.pairwise_cons.1 h
    have ih := side_by_side (y :: l) h2.2 (fun j h0 hj => by
      have := k (j + 1) (by omega) (by simp at hj ⊢; omega)
      obtain ⟨i, rfl⟩ : ∃ i, j = i + 1 := ⟨j - 1, by omega⟩
      simpa using this)
    rw [List.nodup_cons]
    refine ⟨fun hx => ?_, ih⟩
    have hxy : ¬ x = y := fun e => k 1 (by omega) (by simp) (by simp [e])
    rcases List.mem_cons.1 hx with e | hx
    · exact hxy e
    · have a1 := h2.1 y (by simp)
      have a2 := (List.pairwise_cons.1 h2.2).1 x hx
      exact hxy (List.le_antisymm a1 a2)
theorem nodup_at (s : List (List UInt8)) : s.Nodup ↔ ∀ i j, i < j → j < s.length → s[i]? ≠ s[j]? := by
  unfold List.Nodup
  rw [List.pairwise_iff_getElem]
  constructor
  · intro h i j hij hj e
    rw [List.getElem?_eq_getElem (by omega : i < s.length), List.getElem?_eq_getElem hj] at e
    exact h i j (by omega) hj hij (Option.some.inj e)
  · intro h i j hi hj hij e
    apply h i j hij hj
    rw [List.getElem?_eq_getElem hi, List.getElem?_eq_getElem hj, e]
theorem compact_len (s : List (List UInt8)) : (Lib.compact s).length < s.length ↔ ∃ j, 0 < j ∧ j < s.length ∧ s[j]? = s[j - 1]? := by
  unfold Lib.compact Lib.compactUpTo
  rw [List.length_map]
  constructor
  · intro h
    have h1 : ¬ ∀ j ∈ List.range s.length, Lib.keeps s.toArray j = true := fun k => by
      rw [List.filter_eq_self.2 k] at h
      simp at h
    obtain ⟨j, hj⟩ := Classical.not_forall.1 h1
    obtain ⟨hj1, hj2⟩ := Classical.not_imp.1 hj
    rw [List.mem_range] at hj1
    unfold Lib.keeps at hj2
    simp only [decide_eq_true_eq, not_or, Classical.not_not, List.getElem!_toArray] at hj2
    refine ⟨j, by omega, hj1, ?_⟩
    have h2 := hj2.2
    rw [getElem!_pos s j hj1, getElem!_pos s (j - 1) (by omega)] at h2
    rw [List.getElem?_eq_getElem hj1, List.getElem?_eq_getElem (by omega : j - 1 < s.length), h2]
  · rintro ⟨j, h0, hj, he⟩
    have h1 : ((List.range s.length).filter (Lib.keeps s.toArray)).length < (List.range s.length).length := by
      refine List.length_filter_lt_length_iff_exists.2 ⟨j, List.mem_range.2 hj, ?_⟩
      unfold Lib.keeps
      simp only [decide_eq_true_eq, not_or, Classical.not_not, List.getElem!_toArray]
      refine ⟨by omega, ?_⟩
      rw [List.getElem?_eq_getElem hj, List.getElem?_eq_getElem (by omega : j - 1 < s.length)] at he
      rw [getElem!_pos s j hj, getElem!_pos s (j - 1) (by omega)]
      exact Option.some.inj he
    simpa using h1
theorem twB_nodup (ss : List (List UInt8)) : twB ss = true ↔ ¬ ss.Nodup := by
  unfold twB
  rw [decide_eq_true_eq]
  have hp := List.mergeSort_perm ss (fun x y => decide (x ≤ y))
  have hs := sorted8 ss
  have hl : (ss.mergeSort fun x y => decide (x ≤ y)).length = ss.length := List.length_mergeSort ss
  rw [← hp.nodup_iff, ← hl]
  obtain ⟨s, hs'⟩ : ∃ s, (ss.mergeSort fun x y => decide (x ≤ y)) = s := ⟨_, rfl⟩
  rw [hs'] at hs ⊢
  rw [compact_len]
  constructor
  · rintro ⟨j, h0, hj, he⟩ hn
    rw [List.getElem?_eq_getElem hj, List.getElem?_eq_getElem (by omega : j - 1 < s.length)] at he
    have := ((nodup_at _).1 hn) (j - 1) j (by omega) hj
    apply this
    rw [List.getElem?_eq_getElem hj, List.getElem?_eq_getElem (by omega : j - 1 < s.length), he]
  · intro hn
    apply Classical.byContradiction
    intro k
    apply hn
    refine side_by_side s hs (fun j h0 hj he => k ⟨j, h0, hj, he⟩)
theorem twB_iff (m : Nat) (g : Nat → ByteArray) : twB (nmLs m g) = true ↔ ∃ a b, a < b ∧ b < m ∧ g b = g a := by
  rw [twB_nodup]
  have hl : (nmLs m g).length = m := by simp [nmLs]
  have hat : ∀ i, i < m → (nmLs m g)[i]? = some (g i).data.toList := fun i hi => by simp [nmLs, hi]
  have hinj : ∀ {x y : ByteArray}, x.data.toList = y.data.toList → x = y := fun {x y} h => by
    cases x with
    | mk a => cases y with
      | mk b => exact congrArg ByteArray.mk (Array.toList_inj.1 h)
  constructor
  · intro hn
    apply Classical.byContradiction
    intro k
    apply hn
    refine (nodup_at _).2 (fun i j hij hj he => ?_)
    rw [hl] at hj
    rw [hat i (by omega), hat j hj] at he
    exact k ⟨i, j, hij, hj, (hinj (Option.some.inj he)).symm⟩
  · rintro ⟨a, b, hab, hb, he⟩ hn
    have := ((nodup_at _).1 hn) a b hab (by omega)
    apply this
    rw [hat a (by omega), hat b hb, he]
end Go.Proofs.YtcniebkehekliaaGreatDoor
