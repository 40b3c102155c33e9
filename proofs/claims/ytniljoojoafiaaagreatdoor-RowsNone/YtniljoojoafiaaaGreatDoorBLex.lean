/- The order of texts, byte by byte: plain facts. -/
import GoSem.Op.String
import Derived.Laws.Strings
namespace Go.Proofs.YtniljoojoafiaaaGreatDoor.B
def lt8 (x y : List UInt8) : Bool := Op.bytesLess x y
set_option maxRecDepth 100000 in
theorem lt8_nil_r (x : List UInt8) : lt8 x [] = false := by cases x <;> simp [lt8, Op.bytesLess]
set_option maxRecDepth 100000 in
theorem lt8_nil_l (c : UInt8) (y : List UInt8) : lt8 [] (c :: y) = true := by simp [lt8, Op.bytesLess]
set_option maxRecDepth 100000 in
theorem lt8_cons (a b : UInt8) (x y : List UInt8) : lt8 (a :: x) (b :: y) = (decide (a < b) || (a == b && lt8 x y)) := by simp [lt8, Op.bytesLess]
set_option maxRecDepth 100000 in
theorem u8_lt {a b : UInt8} : a < b ↔ a.toNat < b.toNat := UInt8.lt_iff_toNat_lt
set_option maxRecDepth 100000 in
theorem u8_eq {a b : UInt8} : a = b ↔ a.toNat = b.toNat := UInt8.toNat_inj.symm
set_option maxRecDepth 100000 in
theorem lt8_irrefl (x : List UInt8) : lt8 x x = false := by
  induction x with
  | nil => rfl
  | cons a x ih => rw [lt8_cons, ih]; simp
set_option maxRecDepth 100000 in
theorem lt8_trans {x y z : List UInt8} (h : lt8 x y = true) (k : lt8 y z = true) : lt8 x z = true := by
  induction x generalizing y z with
  | nil =>
    cases z with
    | nil => rw [lt8_nil_r] at k; cases k
    | cons c z => exact lt8_nil_l c z
  | cons a x ih =>
    cases y with
    | nil => rw [lt8_nil_r] at h; cases h
    | cons b y =>
      cases z with
      | nil => rw [lt8_nil_r] at k; cases k
      | cons c z =>
        rw [lt8_cons] at h k ⊢
        simp only [Bool.or_eq_true, decide_eq_true_eq, Bool.and_eq_true, beq_iff_eq] at h k ⊢
        rw [u8_lt, u8_eq] at h k ⊢
        rcases h with h | ⟨h1, h2⟩ <;> rcases k with k | ⟨k1, k2⟩
        · left; omega
        · left; omega
        · left; omega
        · right; exact ⟨by omega, ih h2 k2⟩
set_option maxRecDepth 100000 in
theorem lt8_total (x y : List UInt8) : lt8 x y = true ∨ x = y ∨ lt8 y x = true := by
  induction x generalizing y with
  | nil =>
    cases y with
    | nil => exact Or.inr (Or.inl rfl)
    | cons c y => exact Or.inl (lt8_nil_l c y)
  | cons a x ih =>
    cases y with
    | nil => exact Or.inr (Or.inr (lt8_nil_l a x))
    | cons b y =>
      rw [lt8_cons, lt8_cons]
      rcases Nat.lt_trichotomy a.toNat b.toNat with h | h | h
      · left; simp [u8_lt.2 h]
      · have e : a = b := u8_eq.2 h
        subst e
        rcases ih y with h | h | h
        · left; simp [h]
        · right; left; rw [h]
        · right; right; simp [h]
      · right; right; simp [u8_lt.2 h]
set_option maxRecDepth 100000 in
theorem lt8_asymm {x y : List UInt8} (h : lt8 x y = true) : lt8 y x = false := by
  cases k : lt8 y x with
  | false => rfl
  | true => have := lt8_trans h k; rw [lt8_irrefl] at this; cases this
set_option maxRecDepth 100000 in
theorem lt8_ne {x y : List UInt8} (h : lt8 x y = true) : x ≠ y := fun e => by rw [e, lt8_irrefl] at h; cases h
set_option maxRecDepth 100000 in
theorem toList_inj {a b : ByteArray} (h : a.toList = b.toList) : a = b := by
  have h1 : ∀ x : ByteArray, x.toList = x.data.toList := fun x => ByteArray.toList_eq x
  rw [h1, h1] at h
  cases a; cases b
  simp only at h
  congr 1
  exact Array.toList_inj.1 h
end Go.Proofs.YtniljoojoafiaaaGreatDoor.B
