/- Digits of a number, and the words of a text that is nothing but digits, quotes or blanks (plain). -/
import Derived.Test.YticmoapmolmcjaaDoorPl
namespace Go.Proofs.YticmoapmolmcjaaDoor
theorem valL_lin : ∀ (l : List UInt8) (a : Nat), valL a l = a * 10 ^ l.length + valL 0 l
  | [], a => by rw [valL_nil, valL_nil]; simp
  | c :: r, a => by
    rw [valL_cons, valL_cons, valL_lin r (stp a c), valL_lin r (stp 0 c), List.length_cons, Nat.pow_succ]
    unfold stp
    rw [Nat.zero_mul, Nat.zero_add, Nat.add_mul, Nat.mul_assoc, Nat.mul_comm (10 ^ r.length) 10]
    omega
structure DI (n k : Nat) (d : List UInt8) : Prop where
  dig : ∀ c ∈ d, digitB (c.toNat : Int) = true
  val : n = k * 10 ^ d.length + valL 0 d
  head : k = 0 → d ≠ [] → d.length = 1 ∨ d[0]? ≠ some 48
  len : d.length ≤ 20
theorem DI.start (n : Nat) : DI n n [] := ⟨fun _ h => (by cases h), by rw [valL_nil]; simp, fun _ h => absurd rfl h, Nat.zero_le _⟩
theorem dig_val {k : Nat} (hk : k < 10) : (UInt8.ofNat (48 + k)).toNat = 48 + k := by
  rw [UInt8.toNat_ofNat']
  omega
theorem DI.step {n k : Nat} {d : List UInt8} (h : DI n k d) (hn : n < 18446744073709551616) (hc : 0 < k ∨ d = []) : DI n (k / 10) (UInt8.ofNat (48 + k % 10) :: d) := by
  have hd := dig_val (k := k % 10) (Nat.mod_lt _ (by decide))
  have hlen : d.length ≤ 19 := by
    rcases hc with hc | hc
    · rcases Nat.lt_or_ge 19 d.length with hl | hl
      · exfalso
        have h1 := h.val
        have h2 : 10 ^ 20 ≤ 10 ^ d.length := Nat.pow_le_pow_right (by decide) hl
        have h3 : 10 ^ d.length ≤ k * 10 ^ d.length := Nat.le_mul_of_pos_left _ hc
        have h4 : (10 : Nat) ^ 20 = 100000000000000000000 := by decide
        omega
      · exact hl
    · rw [hc]; simp
  refine ⟨fun c hcm => ?_, ?_, fun h0 _ => ?_, by simp; omega⟩
  · rw [List.mem_cons] at hcm
    rcases hcm with rfl | hcm
    · rw [hd]
      unfold digitB
      simp
      omega
    · exact h.dig c hcm
  · rw [h.val, valL_cons, valL_lin d (stp 0 _), List.length_cons, Nat.pow_succ]
    unfold stp
    rw [hd, Nat.zero_mul, Nat.zero_add, Nat.add_sub_cancel_left, ← Nat.add_assoc, Nat.mul_comm (10 ^ d.length) 10, ← Nat.mul_assoc, ← Nat.add_mul]
    congr 2
    omega
  · rcases hc with hc | hc
    · refine Or.inr (fun e => ?_)
      injection e with e
      have := congrArg UInt8.toNat e
      rw [hd] at this
      have h48 : (48 : UInt8).toNat = 48 := rfl
      omega
    · exact Or.inl (by rw [hc]; rfl)
/- Words of one word alone. -/
theorem wds_one {l : List UInt8} {k n : Nat} {t : List UInt8} {c : UInt8} (hc : l[0]? = some c) (hb : blankB (c.toNat : Int) = false) (hf : fstA l = some (k, t, n)) (hn : n = l.length) : wordsR l = if 2000 < l.length then ([], 2000, 3) else ([⟨k, t, 0⟩, ⟨0, [], l.length⟩], 0, 0) := by
  cases l with
  | nil => cases hc
  | cons d r =>
    injection hc with hc
    subst hc
    have h1 := wdsL_some 0 hb hf
    rw [hn, List.drop_length, wdsL_nil] at h1
    unfold wordsR
    split
    · rfl
    · rw [h1]
      rfl
theorem wds_bad {l : List UInt8} {c : UInt8} (hc : l[0]? = some c) (hb : blankB (c.toNat : Int) = false) (hf : fstA l = none) (hl : l.length ≤ 2000) : wordsR l = ([], 0, 110) := by
  cases l with
  | nil => cases hc
  | cons d r =>
    injection hc with hc
    subst hc
    unfold wordsR
    rw [if_neg (by omega), wdsL_none 0 hb hf]
theorem digit_not (c : UInt8) (h : digitB (c.toNat : Int) = true) : blankB (c.toNat : Int) = false ∧ c ≠ 120 ∧ c ≠ 39 := by
  unfold digitB at h
  simp at h
  refine ⟨?_, ?_, ?_⟩
  · unfold blankB
    simp
    omega
  · rintro rfl
    simp at h
  · rintro rfl
    simp at h
theorem fst_digits {l : List UInt8} (h0 : l ≠ []) (h : ∀ c ∈ l, digitB (c.toNat : Int) = true) : fstA l = if numB l = true then some (3, l, l.length) else none := by
  cases l with
  | nil => exact absurd rfl h0
  | cons c r =>
    have hd := h c (by simp)
    have hn := digit_not c hd
    have hr : runL digitB (c :: r) = (c :: r).length := runL_eq digitB _ _ (Nat.le_refl _) (fun d hdm => h d (List.mem_of_mem_take hdm)) (fun d hdm => by simp at hdm)
    rw [fstA, if_neg, if_neg, if_pos hd]
    · simp only [hr, List.take_length]
    · rw [hd]; simp
    · intro e
      rw [List.isPrefixOf_iff_prefix] at e
      obtain ⟨t, ht⟩ := e
      injection ht with ht _
      exact hn.2.1 ht.symm
theorem num_words {n m : Nat} {d zl : List UInt8} (h : DI n 0 d) (hd : d ≠ []) (hz : zl = List.replicate m 48) (hm : m ≤ 3) : wordsR (zl ++ d) = if m ≠ 0 ∨ 9223372036854775807 < n then ([], 0, 110) else ([⟨3, d, 0⟩, ⟨0, [], d.length⟩], 0, 0) := by
  have hlen := h.len
  have hv := h.val
  rw [Nat.zero_mul, Nat.zero_add] at hv
  have hzl : zl.length = m := by rw [hz]; simp
  have hall : ∀ c ∈ zl ++ d, digitB (c.toNat : Int) = true := by
    intro c hc
    rw [List.mem_append] at hc
    rcases hc with hc | hc
    · rw [hz] at hc
      rw [List.eq_of_mem_replicate hc]
      rfl
    · exact h.dig c hc
  have hne : zl ++ d ≠ [] := by simp [hd]
  have hf := fst_digits hne hall
  obtain ⟨c0, hc0⟩ : ∃ c, (zl ++ d)[0]? = some c := by
    cases hx : zl ++ d with
    | nil => exact absurd hx hne
    | cons c r => exact ⟨c, rfl⟩
  have hb := (digit_not c0 (hall c0 (List.mem_of_getElem? hc0))).1
  have hd0 : 0 < d.length := List.length_pos_iff.2 hd
  have hll : (zl ++ d).length = m + d.length := by rw [List.length_append, hzl]
  by_cases hm0 : m = 0
  · obtain rfl : zl = [] := by rw [hz, hm0]; rfl
    rw [List.nil_append] at hf hc0 hll ⊢
    have hnum : numB d = decide (n ≤ 9223372036854775807) := by
      unfold numB
      rw [← hv]
      have : (decide (1 < d.length) && decide (d[0]? = some 48)) = false := by
        rcases h.head rfl hd with h1 | h1
        · rw [h1]; rfl
        · rw [decide_eq_false h1, Bool.and_false]
      rw [this]
      rfl
    by_cases hmax : 9223372036854775807 < n
    · rw [if_pos (Or.inr hmax)]
      rw [hnum, decide_eq_false (by omega)] at hf
      exact wds_bad hc0 hb hf (by omega)
    · rw [if_neg (by simp [hm0]; omega)]
      rw [hnum, decide_eq_true (by omega)] at hf
      have := wds_one hc0 hb hf rfl
      rw [if_neg (by omega)] at this
      exact this
  · rw [if_pos (Or.inl hm0)]
    have hnum : numB (zl ++ d) = false := by
      unfold numB
      have h1 : (zl ++ d)[0]? = some 48 := by
        obtain ⟨q, rfl⟩ : ∃ q, m = q + 1 := ⟨m - 1, by omega⟩
        rw [hz, List.replicate_succ]
        rfl
      rw [decide_eq_true (by omega), decide_eq_true h1]
      rfl
    rw [hnum] at hf
    exact wds_bad hc0 hb hf (by omega)
end Go.Proofs.YticmoapmolmcjaaDoor
