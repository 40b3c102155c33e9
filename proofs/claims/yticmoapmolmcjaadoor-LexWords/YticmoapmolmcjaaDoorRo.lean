/- The document's number. -/
import Derived.Test.YticmoapmolmcjaaDoorRn
namespace Go.Proofs.YticmoapmolmcjaaDoor
open Go.RowKit Go.Shelf
theorem val_lt : ∀ l : List UInt8, (∀ c ∈ l, digitB (c.toNat : Int) = true) → valL 0 l < 10 ^ l.length
  | [], _ => by rw [valL_nil]; decide
  | c :: r, h => by
    have hc := h c (by simp)
    unfold digitB at hc
    simp at hc
    have ih := val_lt r (fun d hd => h d (List.mem_cons_of_mem _ hd))
    rw [valL_cons, valL_lin, List.length_cons, Nat.pow_succ]
    unfold stp
    have : (0 * 10 + (c.toNat - 48)) * 10 ^ r.length ≤ 9 * 10 ^ r.length := Nat.mul_le_mul_right _ (by omega)
    omega
theorem val_ge {c : UInt8} {r : List UInt8} (h1 : digitB (c.toNat : Int) = true) (h2 : c ≠ 48) : 10 ^ r.length ≤ valL 0 (c :: r) := by
  unfold digitB at h1
  simp at h1
  have h3 : c.toNat ≠ 48 := fun e => h2 (byte_of (n := 48) (by omega) (by decide))
  rw [valL_cons, valL_lin]
  unfold stp
  have : 1 * 10 ^ r.length ≤ (0 * 10 + (c.toNat - 48)) * 10 ^ r.length := Nat.mul_le_mul_right _ (by omega)
  omega
theorem less_val : ∀ (l m : List UInt8), l.length = m.length → (∀ c ∈ l, digitB (c.toNat : Int) = true) → (∀ c ∈ m, digitB (c.toNat : Int) = true) → (Op.bytesLess l m = true ↔ valL 0 l < valL 0 m)
  | [], [], _, _, _ => by simp [Op.bytesLess]
  | [], d :: m, h, _, _ => by simp at h
  | c :: l, [], h, _, _ => by simp at h
  | c :: l, d :: m, h, hl, hm => by
    have hc := hl c (by simp)
    have hd := hm d (by simp)
    unfold digitB at hc hd
    simp at hc hd
    have hlen : l.length = m.length := by simpa using h
    have ih := less_val l m hlen (fun x hx => hl x (List.mem_cons_of_mem _ hx)) (fun x hx => hm x (List.mem_cons_of_mem _ hx))
    have v1 := val_lt l (fun x hx => hl x (List.mem_cons_of_mem _ hx))
    have v2 := val_lt m (fun x hx => hm x (List.mem_cons_of_mem _ hx))
    rw [valL_cons, valL_cons, valL_lin l, valL_lin m, ← hlen]
    rw [← hlen] at v2
    unfold stp
    obtain ⟨P, hP⟩ : ∃ P, 10 ^ l.length = P := ⟨_, rfl⟩
    rw [hP] at v1 v2 ⊢
    obtain ⟨x, hx⟩ : ∃ x, valL 0 l = x := ⟨_, rfl⟩
    obtain ⟨y, hy⟩ : ∃ y, valL 0 m = y := ⟨_, rfl⟩
    rw [hx, hy] at ih
    rw [hx] at v1 ⊢
    rw [hy] at v2 ⊢
    have hlow : Op.bytesLess (c :: l) (d :: m) = (decide (c < d) || (c == d && Op.bytesLess l m)) := rfl
    rw [hlow]
    rcases Nat.lt_trichotomy c.toNat d.toNat with hlt | heq | hgt
    · have h1 : (0 * 10 + (c.toNat - 48) + 1) * P ≤ (0 * 10 + (d.toNat - 48)) * P := Nat.mul_le_mul_right _ (by omega)
      rw [Nat.add_mul, Nat.one_mul] at h1
      have hcd : c < d := UInt8.lt_iff_toNat_lt.2 hlt
      rw [decide_eq_true hcd]
      simp only [Bool.true_or, true_iff]
      omega
    · have hcd : c = d := UInt8.toNat_inj.1 heq
      subst hcd
      rw [decide_eq_false (fun h => by rw [UInt8.lt_iff_toNat_lt] at h; omega)]
      simp only [beq_self_eq_true, Bool.false_or, Bool.true_and]
      rw [ih]
      omega
    · have h1 : (0 * 10 + (d.toNat - 48) + 1) * P ≤ (0 * 10 + (c.toNat - 48)) * P := Nat.mul_le_mul_right _ (by omega)
      rw [Nat.add_mul, Nat.one_mul] at h1
      have hcd : ¬ c < d := fun h => by rw [UInt8.lt_iff_toNat_lt] at h; omega
      have hne : (c == d) = false := by
        rw [beq_eq_false_iff_ne]
        intro e
        rw [e] at hgt
        omega
      rw [decide_eq_false hcd, hne]
      simp only [Bool.false_or, Bool.false_and, Bool.false_eq_true, false_iff]
      omega
theorem val_inj : ∀ (l m : List UInt8), l.length = m.length → (∀ c ∈ l, digitB (c.toNat : Int) = true) → (∀ c ∈ m, digitB (c.toNat : Int) = true) → valL 0 l = valL 0 m → l = m
  | [], [], _, _, _, _ => rfl
  | [], d :: m, h, _, _, _ => by simp at h
  | c :: l, [], h, _, _, _ => by simp at h
  | c :: l, d :: m, h, hl, hm, hv => by
    have h1 := less_val (c :: l) (d :: m) h hl hm
    have h2 := less_val (d :: m) (c :: l) h.symm hm hl
    have hlen : l.length = m.length := by simpa using h
    have e1 : Op.bytesLess (c :: l) (d :: m) = (decide (c < d) || (c == d && Op.bytesLess l m)) := rfl
    have e2 : Op.bytesLess (d :: m) (c :: l) = (decide (d < c) || (d == c && Op.bytesLess m l)) := rfl
    rw [hv] at h1 h2
    have hcd : c = d := by
      rcases Nat.lt_trichotomy c.toNat d.toNat with hlt | heq | hgt
      · have : c < d := UInt8.lt_iff_toNat_lt.2 hlt
        rw [e1, decide_eq_true this] at h1
        simp at h1
      · exact UInt8.toNat_inj.1 heq
      · have : d < c := UInt8.lt_iff_toNat_lt.2 hgt
        rw [e2, decide_eq_true this] at h2
        simp at h2
    subst hcd
    have hv' : valL 0 l = valL 0 m := by
      rw [valL_cons, valL_cons, valL_lin l, valL_lin m, ← hlen] at hv
      omega
    rw [val_inj l m hlen (fun x hx => hl x (List.mem_cons_of_mem _ hx)) (fun x hx => hm x (List.mem_cons_of_mem _ hx)) hv']
def maxL : List UInt8 := [57, 50, 50, 51, 51, 55, 50, 48, 51, 54, 56, 53, 52, 55, 55, 53, 56, 48, 55]
theorem maxL_val : valL 0 maxL = 9223372036854775807 := by decide +kernel
theorem maxL_dig : ∀ c ∈ maxL, digitB (c.toNat : Int) = true := by decide +kernel
theorem numB_doc {l : List UInt8} {c : UInt8} {r : List UInt8} (hl : l = c :: r) (hd : ∀ c ∈ l, digitB (c.toNat : Int) = true) : numB l = if 1 < l.length ∧ c = 48 then false else if 19 < l.length then false else if l.length < 19 then true else (Op.bytesLess l maxL || l == maxL) := by
  have h0 : l[0]? = some c := by rw [hl]; rfl
  unfold numB
  rw [h0]
  by_cases h1 : 1 < l.length ∧ c = 48
  · rw [if_pos h1, decide_eq_true h1.1, h1.2]
    rfl
  · rw [if_neg h1]
    have hn : (decide (1 < l.length) && decide (some c = some 48)) = false := by
      rw [Bool.and_eq_false_iff]
      by_cases h2 : 1 < l.length
      · exact Or.inr (decide_eq_false (fun e => h1 ⟨h2, Option.some.inj e⟩))
      · exact Or.inl (decide_eq_false h2)
    rw [hn, Bool.not_false, Bool.true_and]
    by_cases h3 : 19 < l.length
    · rw [if_pos h3]
      refine decide_eq_false ?_
      have hc : c ≠ 48 := fun e => h1 ⟨by omega, e⟩
      have h4 := val_ge (r := r) (hd c (by rw [hl]; simp)) hc
      rw [← hl] at h4
      have h5 : 10 ^ 19 ≤ 10 ^ r.length := Nat.pow_le_pow_right (by decide) (by rw [hl] at h3; simp at h3; omega)
      have h6 : (10 : Nat) ^ 19 = 10000000000000000000 := by decide
      omega
    · rw [if_neg h3]
      have hv := val_lt l hd
      by_cases h4 : l.length < 19
      · rw [if_pos h4]
        refine decide_eq_true ?_
        have h5 : 10 ^ l.length ≤ 10 ^ 18 := Nat.pow_le_pow_right (by decide) (by omega)
        have h6 : (10 : Nat) ^ 18 = 1000000000000000000 := by decide
        omega
      · rw [if_neg h4]
        have hlen : l.length = maxL.length := by show l.length = 19; omega
        have hlt := less_val l maxL hlen hd maxL_dig
        rw [maxL_val] at hlt
        rw [Bool.eq_iff_iff, decide_eq_true_iff, Bool.or_eq_true, hlt, beq_iff_eq]
        constructor
        · intro h
          rcases Nat.lt_or_eq_of_le h with h | h
          · exact Or.inl h
          · exact Or.inr (val_inj l maxL hlen hd maxL_dig (by rw [maxL_val]; exact h))
        · rintro (h | h)
          · omega
          · rw [h, maxL_val]
            exact Nat.le_refl _
set_option maxRecDepth 20000 in
set_option maxHeartbeats 4000000 in
theorem rnumber_any (s : ByteArray) (h0 : 0 < s.size) (hd : ∀ c ∈ s.data.toList, digitB (c.toNat : Int) = true) (w : World) :
    Calls Tryd.prog 29 #[.string s] w fun e w' => e = .returned (.bool (numB s.data.toList)) ∧ w' = w := by
  have h0' : (0 : Int) < (s.size : Int) := by omega
  obtain ⟨c, hc, hec⟩ := at_chr h0
  have hce : ((s[0].toNat : Nat) : Int) = (c.toNat : Int) := by rw [chr_eq s 0 h0, hec]
  have hdr := drop_at hc
  rw [List.drop_zero] at hdr
  have hnd := numB_doc hdr hd
  rw [← Lib.size_eq, ← Lib.toList_data] at hnd
  rw [← Lib.toList_data]
  obtain ⟨F, hF⟩ : ∃ F, numB s.toList = F := ⟨_, rfl⟩
  rw [hF] at hnd ⊢
  have HF : Hid (F = if 1 < s.size ∧ c = 48 then false else if 19 < s.size then false else if s.size < 19 then true else (Op.bytesLess s.toList maxL || s.toList == maxL)) := hnd
  clear hF hnd hdr hec hc hd
  go_enter Tryd.func29, Tryd.ntmps29
  by_cases h1 : 1 < s.size ∧ c = 48
  · have h1' : (1 : Int) < (s.size : Int) := by omega
    have h2' : ((c.toNat : Nat) : Int) = 48 := by rw [h1.2]; rfl
    rw [if_pos h1] at HF
    clear h1
    go_wp2
    go_ret
    exact ⟨by rw [HF.out]; rfl, rfl⟩
  · rw [if_neg h1] at HF
    have hne : ¬ ((1 : Int) < (s.size : Int) ∧ ((c.toNat : Nat) : Int) = 48) := by
      rintro ⟨h2, h3⟩
      exact h1 ⟨by omega, byte_of h3 (by decide)⟩
    clear h1
    by_cases h3 : 19 < s.size
    · have h3' : (19 : Int) < (s.size : Int) := by omega
      rw [if_pos h3] at HF
      go_wp2
      all_goals (first | (exfalso; omega) | (go_ret; exact ⟨by rw [HF.out]; rfl, rfl⟩))
    · have h3' : ¬ (19 : Int) < (s.size : Int) := by omega
      rw [if_neg h3] at HF
      by_cases h4 : s.size < 19
      · have h4' : (s.size : Int) < 19 := by omega
        rw [if_pos h4] at HF
        go_wp2
        all_goals (first | (exfalso; omega) | (go_ret; exact ⟨by rw [HF.out]; rfl, rfl⟩))
      · have h4' : ¬ (s.size : Int) < 19 := by omega
        rw [if_neg h4] at HF
        go_wp2
        all_goals (first | (exfalso; omega) | (go_ret; exact ⟨by rw [HF.out]; rfl, rfl⟩))
end Go.Proofs.YticmoapmolmcjaaDoor
