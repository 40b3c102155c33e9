/- Plain facts of numbers in bytes: what is taken of bytes (tk), the bytes of a number (put), and that the two are each other's. -/
namespace Go.Proofs.Ytjmjlijmeahmfaa
structure Tk where
  n : Nat
  sz : Nat
  er : Int
def tk : Nat → Nat → List UInt8 → Tk
  | _, _, [] => ⟨0, 0, 4⟩
  | n, i, b :: r =>
    if (0 < i ∧ b.toNat = 0) ∨ (i = 9 ∧ 1 < b.toNat) then ⟨0, 0, 6⟩
    else if b.toNat < 128 then ⟨n + b.toNat % 128 * 128 ^ i, i + 1, 0⟩
    else tk (n + b.toNat % 128 * 128 ^ i) (i + 1) r
def put (n : Nat) : List UInt8 := if n < 128 then [UInt8.ofNat n] else UInt8.ofNat (n % 128 + 128) :: put (n / 128)
  termination_by n
  decreasing_by omega
theorem put_lt {n : Nat} (h : n < 128) : put n = [UInt8.ofNat n] := by rw [put, if_pos h]
theorem put_ge {n : Nat} (h : 128 ≤ n) : put n = UInt8.ofNat (n % 128 + 128) :: put (n / 128) := by rw [put, if_neg (by omega)]
theorem toNat_ofNat_lt {n : Nat} (h : n < 256) : (UInt8.ofNat n).toNat = n := by
  rw [UInt8.toNat_ofNat']; omega
theorem put_len_pos (n : Nat) : 0 < (put n).length := by
  rw [put]; split <;> simp
theorem tk_err {r : List UInt8} : ∀ {n i : Nat}, (tk n i r).er ≠ 0 → (tk n i r).n = 0 ∧ (tk n i r).sz = 0 := by
  induction r with
  | nil => intro n i _; exact ⟨rfl, rfl⟩
  | cons b r ih =>
    intro n i h
    unfold tk at h ⊢
    by_cases h1 : (0 < i ∧ b.toNat = 0) ∨ (i = 9 ∧ 1 < b.toNat)
    · rw [if_pos h1]; exact ⟨rfl, rfl⟩
    · rw [if_neg h1] at h ⊢
      by_cases h2 : b.toNat < 128
      · rw [if_pos h2] at h; exact absurd rfl h
      · rw [if_neg h2] at h ⊢; exact ih h
theorem tk_er {r : List UInt8} : ∀ {n i : Nat}, (tk n i r).er = 0 ∨ (tk n i r).er = 4 ∨ (tk n i r).er = 6 := by
  induction r with
  | nil => intro n i; exact Or.inr (Or.inl rfl)
  | cons b r ih =>
    intro n i
    unfold tk
    by_cases h1 : (0 < i ∧ b.toNat = 0) ∨ (i = 9 ∧ 1 < b.toNat)
    · rw [if_pos h1]; exact Or.inr (Or.inr rfl)
    · rw [if_neg h1]
      by_cases h2 : b.toNat < 128
      · rw [if_pos h2]; exact Or.inl rfl
      · rw [if_neg h2]; exact ih
theorem pow9 {i : Nat} (hi : i ≤ 9) : 128 ^ i ≤ 9223372036854775808 := by
  have : (128 : Nat) ^ i ≤ 128 ^ 9 := Nat.pow_le_pow_right (by omega) hi
  exact Nat.le_trans this (by decide)
theorem step_lt {n i b : Nat} (hn : n < 128 ^ i) : n + b % 128 * 128 ^ i < 128 ^ (i + 1) := by
  have h1 : b % 128 ≤ 127 := by omega
  have h2 : b % 128 * 128 ^ i ≤ 127 * 128 ^ i := Nat.mul_le_mul_right _ h1
  rw [Nat.pow_succ]; omega
theorem step_lt64 {n i b : Nat} (hi : i ≤ 9) (hn : n < 128 ^ i) (hb : i = 9 → b ≤ 1) : n + b % 128 * 128 ^ i < 18446744073709551616 := by
  by_cases h : i = 9
  · subst h
    have hb1 := hb rfl
    have h9 : (128 : Nat) ^ 9 = 9223372036854775808 := by decide
    rw [h9] at hn ⊢
    have : b % 128 ≤ 1 := by omega
    omega
  · have h1 := step_lt (b := b) hn
    have h2 := pow9 (i := i + 1) (by omega)
    omega
theorem tk_bound {r : List UInt8} : ∀ {n i : Nat}, i ≤ 9 → n < 128 ^ i → (tk n i r).n < 18446744073709551616 ∧ (tk n i r).sz ≤ i + r.length ∧ (tk n i r).sz ≤ 10 := by
  induction r with
  | nil => intro n i _ _; exact ⟨by show (0 : Nat) < 18446744073709551616; decide, Nat.zero_le _, Nat.zero_le _⟩
  | cons b r ih =>
    intro n i hi hn
    unfold tk
    by_cases h1 : (0 < i ∧ b.toNat = 0) ∨ (i = 9 ∧ 1 < b.toNat)
    · rw [if_pos h1]; exact ⟨by decide, Nat.zero_le _, Nat.zero_le _⟩
    · rw [if_neg h1]
      have h9 : i = 9 → b.toNat ≤ 1 := fun h => by
        rcases Nat.lt_or_ge 1 b.toNat with hb | hb
        · exact absurd (Or.inr ⟨h, hb⟩) h1
        · exact hb
      by_cases h2 : b.toNat < 128
      · rw [if_pos h2]
        refine ⟨step_lt64 hi hn h9, ?_, ?_⟩
        · simp only [List.length_cons]; omega
        · show i + 1 ≤ 10; omega
      · rw [if_neg h2]
        have hi9 : i ≠ 9 := fun h => by have := h9 h; omega
        obtain ⟨a, b', c⟩ := ih (n := n + b.toNat % 128 * 128 ^ i) (i := i + 1) (by omega) (step_lt hn)
        refine ⟨a, ?_, c⟩
        simp only [List.length_cons]; omega
theorem mul_split (m p : Nat) : m % 128 * p + m / 128 * (p * 128) = m * p := by
  have h := Nat.div_add_mod m 128
  have : m / 128 * (p * 128) = 128 * (m / 128) * p := by
    rw [Nat.mul_comm p 128, ← Nat.mul_assoc, Nat.mul_comm (m / 128) 128]
  rw [this, ← Nat.add_mul, Nat.add_comm, h]
theorem tk_put : ∀ (m n i : Nat) (r : List UInt8), i ≤ 9 → (0 < i → 0 < m) → m * 128 ^ i < 18446744073709551616 →
    tk n i (put m ++ r) = ⟨n + m * 128 ^ i, i + (put m).length, 0⟩ := by
  intro m
  induction m using Nat.strongRecOn with
  | ind m ih =>
    intro n i r hi hm hb
    have h9 : i = 9 → m ≤ 1 := fun h => by
      subst h
      have e : (128 : Nat) ^ 9 = 9223372036854775808 := by decide
      rw [e] at hb; omega
    by_cases h : m < 128
    · rw [put_lt h]
      show tk n i (UInt8.ofNat m :: r) = _
      unfold tk
      rw [toNat_ofNat_lt (by omega : m < 256)]
      have h1 : ¬ ((0 < i ∧ m = 0) ∨ (i = 9 ∧ 1 < m)) := by
        rintro (⟨a, b⟩ | ⟨a, b⟩)
        · have := hm a; omega
        · have := h9 a; omega
      rw [if_neg h1, if_pos h, Nat.mod_eq_of_lt h]
      rfl
    · have hge : 128 ≤ m := by omega
      rw [put_ge hge]
      show tk n i (UInt8.ofNat (m % 128 + 128) :: (put (m / 128) ++ r)) = _
      unfold tk
      rw [toNat_ofNat_lt (by omega : m % 128 + 128 < 256)]
      have hi9 : i ≠ 9 := fun h => by have := h9 h; omega
      have h1 : ¬ ((0 < i ∧ m % 128 + 128 = 0) ∨ (i = 9 ∧ 1 < m % 128 + 128)) := by
        rintro (⟨a, b⟩ | ⟨a, b⟩)
        · omega
        · exact hi9 a
      rw [if_neg h1, if_neg (by omega)]
      have e1 : (m % 128 + 128) % 128 = m % 128 := by omega
      rw [e1]
      have hs := mul_split m (128 ^ i)
      have hp : (128 : Nat) ^ (i + 1) = 128 ^ i * 128 := Nat.pow_succ ..
      rw [ih (m / 128) (by omega) _ (i + 1) r (by omega) (fun _ => by omega) (by rw [hp]; omega), hp]
      congr 1
      · omega
      · simp only [List.length_cons]; omega
theorem put_tk : ∀ (l : List UInt8) (n i : Nat), (tk n i l).er = 0 →
    ∃ m, (0 < i → 0 < m) ∧ (tk n i l).n = n + m * 128 ^ i ∧ (tk n i l).sz = i + (put m).length ∧ l.take (put m).length = put m := by
  intro l
  induction l with
  | nil => intro n i h; exact absurd h (by show ¬ ((4 : Int) = 0); decide)
  | cons b r ih =>
    intro n i h
    unfold tk at h ⊢
    by_cases h1 : (0 < i ∧ b.toNat = 0) ∨ (i = 9 ∧ 1 < b.toNat)
    · rw [if_pos h1] at h; exact absurd h (by show ¬ ((6 : Int) = 0); decide)
    · rw [if_neg h1] at h ⊢
      have h0 : 0 < i → 0 < b.toNat := fun hi => by
        rcases Nat.eq_zero_or_pos b.toNat with hb | hb
        · exact absurd (Or.inl ⟨hi, hb⟩) h1
        · exact hb
      by_cases h2 : b.toNat < 128
      · rw [if_pos h2]
        refine ⟨b.toNat, h0, ?_, ?_, ?_⟩
        · show n + b.toNat % 128 * 128 ^ i = _
          rw [Nat.mod_eq_of_lt h2]
        · rw [put_lt h2]; rfl
        · rw [put_lt h2]; simp
      · rw [if_neg h2] at h ⊢
        obtain ⟨m, hm, hv, hs, ht⟩ := ih _ _ h
        have hm0 := hm (by omega)
        have hb8 : b.toNat < 256 := UInt8.toNat_lt b
        have hge : 128 ≤ b.toNat % 128 + m * 128 := by omega
        have e1 : (b.toNat % 128 + m * 128) % 128 = b.toNat % 128 := by omega
        have e2 : (b.toNat % 128 + m * 128) / 128 = m := by omega
        have e3 : b.toNat % 128 + 128 = b.toNat := by omega
        have hput : put (b.toNat % 128 + m * 128) = b :: put m := by
          rw [put_ge hge, e1, e2, e3, UInt8.ofNat_toNat]
        refine ⟨b.toNat % 128 + m * 128, fun _ => by omega, ?_, ?_, ?_⟩
        · rw [hv, Nat.pow_succ, Nat.add_mul, Nat.add_assoc]
          congr 2
          rw [Nat.mul_assoc, Nat.mul_comm 128 (128 ^ i)]
        · rw [hs, hput]; simp only [List.length_cons]; omega
        · rw [hput, List.length_cons, List.take_succ_cons, ht]
theorem put_len : ∀ (n k : Nat), n < 128 ^ (k + 1) → (put n).length ≤ k + 1 := by
  intro n
  induction n using Nat.strongRecOn with
  | ind n ih =>
    intro k hk
    by_cases h : n < 128
    · rw [put_lt h]; simp
    · have hge : 128 ≤ n := by omega
      cases k with
      | zero => omega
      | succ k =>
        rw [put_ge hge, List.length_cons]
        have := ih (n / 128) (by omega) k (by rw [Nat.pow_succ] at hk; omega)
        omega
theorem put_len10 {n : Nat} (h : n < 18446744073709551616) : (put n).length ≤ 10 := put_len n 9 (Nat.lt_trans h (by decide))
theorem take_put (n : Nat) (hn : n < 18446744073709551616) (r : List UInt8) : tk 0 0 (put n ++ r) = ⟨n, (put n).length, 0⟩ := by
  have := tk_put n 0 0 r (by omega) (fun h => absurd h (by omega)) (by simpa using hn)
  simpa using this
theorem put_take (l : List UInt8) (h : (tk 0 0 l).er = 0) : (tk 0 0 l).sz = (put (tk 0 0 l).n).length ∧ l.take (tk 0 0 l).sz = put (tk 0 0 l).n := by
  obtain ⟨m, _, hv, hs, ht⟩ := put_tk l 0 0 h
  have hv' : (tk 0 0 l).n = m := by simpa using hv
  have hs' : (tk 0 0 l).sz = (put m).length := by simpa using hs
  rw [hv', hs']
  exact ⟨rfl, ht⟩
theorem put_inj {n m : Nat} (hn : n < 18446744073709551616) (hm : m < 18446744073709551616) (h : put n = put m) : n = m := by
  have h1 := take_put n hn []
  have h2 := take_put m hm []
  rw [h] at h1
  exact (Tk.mk.inj (h1.symm.trans h2)).1
end Go.Proofs.Ytjmjlijmeahmfaa
