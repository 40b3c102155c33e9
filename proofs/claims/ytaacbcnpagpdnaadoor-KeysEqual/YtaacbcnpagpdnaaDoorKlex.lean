/- The order of texts, byte by byte, and the least text above all that begin with one: plain facts. -/
import GoSem.Op.String
namespace Go.Proofs.YtaacbcnpagpdnaaDoor
def lt8 (x y : List UInt8) : Bool := Op.bytesLess x y
theorem lt8_nil_r (x : List UInt8) : lt8 x [] = false := by cases x <;> simp [lt8, Op.bytesLess]
theorem lt8_nil_l (c : UInt8) (y : List UInt8) : lt8 [] (c :: y) = true := by simp [lt8, Op.bytesLess]
theorem lt8_cons (a b : UInt8) (x y : List UInt8) : lt8 (a :: x) (b :: y) = (decide (a < b) || (a == b && lt8 x y)) := by simp [lt8, Op.bytesLess]
theorem u8_lt {a b : UInt8} : a < b ↔ a.toNat < b.toNat := UInt8.lt_iff_toNat_lt
theorem u8_eq {a b : UInt8} : a = b ↔ a.toNat = b.toNat := UInt8.toNat_inj.symm
theorem lt8_irrefl (x : List UInt8) : lt8 x x = false := by
  induction x with
  | nil => rfl
  | cons a x ih => rw [lt8_cons, ih]; simp
theorem lt8_trans {x y z : List UInt8} (h : lt8 x y = true) (k : lt8 y z = true) : lt8 x z = true := by
  induction x generalizing y z with
  | nil =>
    cases z with
    | nil => rw [lt8_nil_r] at k; cases k
    | cons c z => exact lt8_nil_l c z
  | cons a x ih =>
    cases y with
    | nil => rw [lt8_nil_r] at h; cases h
    | cons b y =>
      cases z with
      | nil => rw [lt8_nil_r] at k; cases k
      | cons c z =>
        rw [lt8_cons] at h k ⊢
        simp only [Bool.or_eq_true, decide_eq_true_eq, Bool.and_eq_true, beq_iff_eq] at h k ⊢
        rw [u8_lt, u8_eq] at h k ⊢
        rcases h with h | ⟨h1, h2⟩ <;> rcases k with k | ⟨k1, k2⟩
        · left; omega
        · left; omega
        · left; omega
        · right; exact ⟨by omega, ih h2 k2⟩
theorem lt8_total (x y : List UInt8) : lt8 x y = true ∨ x = y ∨ lt8 y x = true := by
  induction x generalizing y with
  | nil =>
    cases y with
    | nil => exact Or.inr (Or.inl rfl)
    | cons c y => exact Or.inl (lt8_nil_l c y)
  | cons a x ih =>
    cases y with
    | nil => exact Or.inr (Or.inr (lt8_nil_l a x))
    | cons b y =>
      rw [lt8_cons, lt8_cons]
      rcases Nat.lt_trichotomy a.toNat b.toNat with h | h | h
      · left; simp [u8_lt.2 h]
      · have e : a = b := u8_eq.2 h
        subst e
        rcases ih y with h | h | h
        · left; simp [h]
        · right; left; rw [h]
        · right; right; simp [h]
      · right; right; simp [u8_lt.2 h]
theorem lt8_asymm {x y : List UInt8} (h : lt8 x y = true) : lt8 y x = false := by
  cases k : lt8 y x with
  | false => rfl
  | true => have := lt8_trans h k; rw [lt8_irrefl] at this; cases this
theorem lt8_ne {x y : List UInt8} (h : lt8 x y = true) : x ≠ y := fun e => by rw [e, lt8_irrefl] at h; cases h
theorem lt8_append (p x y : List UInt8) : lt8 (p ++ x) (p ++ y) = lt8 x y := by
  induction p with
  | nil => rfl
  | cons a p ih => rw [List.cons_append, List.cons_append, lt8_cons, ih]; simp
theorem lt8_more (p : List UInt8) (c : UInt8) (y : List UInt8) : lt8 p (p ++ c :: y) = true := by
  have := lt8_append p [] (c :: y)
  rw [List.append_nil, lt8_nil_l] at this
  exact this
def nextF : List UInt8 → Option (List UInt8)
  | [] => none
  | c :: r => match nextF r with
    | some x => some (c :: x)
    | none => if c = 255 then none else some [c + 1]
def nextL (s : List UInt8) : List UInt8 := (nextF s).getD []
theorem nextF_ff (l : List UInt8) : nextF (l ++ [255]) = nextF l := by
  induction l with
  | nil => rfl
  | cons c r ih => rw [List.cons_append, nextF, nextF, ih]
theorem nextF_up (l : List UInt8) (c : UInt8) (h : c ≠ 255) : nextF (l ++ [c]) = some (l ++ [c + 1]) := by
  induction l with
  | nil => simp [nextF, h]
  | cons d r ih => rw [List.cons_append, nextF, ih]; rfl
theorem nextF_ne {s n : List UInt8} (h : nextF s = some n) : n ≠ [] := by
  intro e
  subst e
  cases s with
  | nil => cases h
  | cons c r =>
    rw [nextF] at h
    split at h
    · cases h
    · split at h <;> cases h
theorem up_lt {c : UInt8} (h : c ≠ 255) : c < c + 1 := by
  rw [u8_lt, UInt8.toNat_add]
  have h1 : c.toNat ≠ 255 := fun e => h (u8_eq.2 e)
  have h2 := c.toNat_lt
  have h3 : (1 : UInt8).toNat = 1 := rfl
  rw [h3]
  omega
theorem next_above {s n : List UInt8} (t : List UInt8) (h : nextF s = some n) : lt8 (s ++ t) n = true := by
  induction s generalizing n with
  | nil => cases h
  | cons c r ih =>
    rw [nextF] at h
    split at h
    · rename_i x hx
      injection h with h
      subst h
      rw [List.cons_append, lt8_cons, ih hx]
      simp
    · split at h
      · cases h
      · rename_i hc
        injection h with h
        subst h
        rw [List.cons_append, lt8_cons]
        simp [up_lt hc]
theorem next_least {s t : List UInt8} (h : lt8 s t = true) (hp : ¬ s <+: t) : ∃ n, nextF s = some n ∧ lt8 t n = false := by
  induction s generalizing t with
  | nil => exact absurd (List.nil_prefix) hp
  | cons c r ih =>
    cases t with
    | nil => rw [lt8_nil_r] at h; cases h
    | cons d t =>
      rw [lt8_cons] at h
      simp only [Bool.or_eq_true, decide_eq_true_eq, Bool.and_eq_true, beq_iff_eq] at h
      rcases h with h | ⟨rfl, h⟩
      · cases hx : nextF r with
        | some x =>
          refine ⟨c :: x, by rw [nextF, hx], ?_⟩
          rw [lt8_cons]
          have h1 : ¬ d < c := by rw [u8_lt] at h ⊢; omega
          have h2 : ¬ d = c := by rw [u8_lt] at h; rw [u8_eq]; omega
          simp [h1, h2]
        | none =>
          have hc : c ≠ 255 := fun e => by subst e; rw [u8_lt] at h; have := d.toNat_lt; have h3 : (255 : UInt8).toNat = 255 := rfl; omega
          refine ⟨[c + 1], by rw [nextF, hx]; simp [hc], ?_⟩
          rw [lt8_cons, lt8_nil_r]
          have h1 : ¬ d < c + 1 := by
            rw [u8_lt] at h ⊢
            rw [UInt8.toNat_add]
            have h3 : (1 : UInt8).toNat = 1 := rfl
            have h2 := d.toNat_lt
            rw [h3]
            omega
          simp [h1]
      · have hp' : ¬ r <+: t := fun k => hp ((List.prefix_cons_inj c).2 k)
        obtain ⟨x, hx, hl⟩ := ih h hp'
        refine ⟨c :: x, by rw [nextF, hx], ?_⟩
        rw [lt8_cons, hl]
        simp
end Go.Proofs.YtaacbcnpagpdnaaDoor
