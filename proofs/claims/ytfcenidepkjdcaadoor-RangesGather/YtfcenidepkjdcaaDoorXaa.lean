/- Plain facts of numbers in bytes: what is taken of bytes (tk), the bytes of a number (put), and that the two are each other's. What a call leaves as it was (Only), a cursor's block (Cur), and the small calls of a cursor: Err, Off, Fail, skip, At; each of a nil cursor and of one that is there. A value as a tree (Tr), what its memory holds (Lies), and that it stays where only new memory is made. -/
import Derived.Test.YtfcenidepkjdcaaDoorRows
import Derived.WalkKit
import Derived.WalkSpells
import Derived.WalkLawsBesides
import Derived.Deep.QuietTactic
import Derived.BigQuiet
import Derived.Lib.Strings
namespace Go.Proofs.YtfcenidepkjdcaaDoor.V
structure Tk where
  n : Nat
  sz : Nat
  er : Int
def tk : Nat → Nat → List UInt8 → Tk
  | _, _, [] => ⟨0, 0, 4⟩
  | n, i, b :: r =>
    if (0 < i ∧ b.toNat = 0) ∨ (i = 9 ∧ 1 < b.toNat) then ⟨0, 0, 6⟩
    else if b.toNat < 128 then ⟨n + b.toNat % 128 * 128 ^ i, i + 1, 0⟩
    else tk (n + b.toNat % 128 * 128 ^ i) (i + 1) r
def put (n : Nat) : List UInt8 := if n < 128 then [UInt8.ofNat n] else UInt8.ofNat (n % 128 + 128) :: put (n / 128)
  termination_by n
  decreasing_by omega
set_option maxRecDepth 100000 in
theorem put_lt {n : Nat} (h : n < 128) : put n = [UInt8.ofNat n] := by rw [put, if_pos h]
set_option maxRecDepth 100000 in
theorem put_ge {n : Nat} (h : 128 ≤ n) : put n = UInt8.ofNat (n % 128 + 128) :: put (n / 128) := by rw [put, if_neg (by omega)]
set_option maxRecDepth 100000 in
theorem toNat_ofNat_lt {n : Nat} (h : n < 256) : (UInt8.ofNat n).toNat = n := by
  rw [UInt8.toNat_ofNat']; omega
set_option maxRecDepth 100000 in
theorem put_len_pos (n : Nat) : 0 < (put n).length := by
  rw [put]; split <;> simp
set_option maxRecDepth 100000 in
theorem tk_err {r : List UInt8} : ∀ {n i : Nat}, (tk n i r).er ≠ 0 → (tk n i r).n = 0 ∧ (tk n i r).sz = 0 := by
  induction r with
  | nil => intro n i _; exact ⟨rfl, rfl⟩
  | cons b r ih =>
    intro n i h
    unfold tk at h ⊢
    by_cases h1 : (0 < i ∧ b.toNat = 0) ∨ (i = 9 ∧ 1 < b.toNat)
    · rw [if_pos h1]; exact ⟨rfl, rfl⟩
    · rw [if_neg h1] at h ⊢
      by_cases h2 : b.toNat < 128
      · rw [if_pos h2] at h; exact absurd rfl h
      · rw [if_neg h2] at h ⊢; exact ih h
set_option maxRecDepth 100000 in
theorem tk_er {r : List UInt8} : ∀ {n i : Nat}, (tk n i r).er = 0 ∨ (tk n i r).er = 4 ∨ (tk n i r).er = 6 := by
  induction r with
  | nil => intro n i; exact Or.inr (Or.inl rfl)
  | cons b r ih =>
    intro n i
    unfold tk
    by_cases h1 : (0 < i ∧ b.toNat = 0) ∨ (i = 9 ∧ 1 < b.toNat)
    · rw [if_pos h1]; exact Or.inr (Or.inr rfl)
    · rw [if_neg h1]
      by_cases h2 : b.toNat < 128
      · rw [if_pos h2]; exact Or.inl rfl
      · rw [if_neg h2]; exact ih
set_option maxRecDepth 100000 in
theorem pow9 {i : Nat} (hi : i ≤ 9) : 128 ^ i ≤ 9223372036854775808 := by
  have : (128 : Nat) ^ i ≤ 128 ^ 9 := Nat.pow_le_pow_right (by omega) hi
  exact Nat.le_trans this (by decide)
set_option maxRecDepth 100000 in
theorem step_lt {n i b : Nat} (hn : n < 128 ^ i) : n + b % 128 * 128 ^ i < 128 ^ (i + 1) := by
  have h1 : b % 128 ≤ 127 := by omega
  have h2 : b % 128 * 128 ^ i ≤ 127 * 128 ^ i := Nat.mul_le_mul_right _ h1
  rw [Nat.pow_succ]; omega
set_option maxRecDepth 100000 in
theorem step_lt64 {n i b : Nat} (hi : i ≤ 9) (hn : n < 128 ^ i) (hb : i = 9 → b ≤ 1) : n + b % 128 * 128 ^ i < 18446744073709551616 := by
  by_cases h : i = 9
  · subst h
    have hb1 := hb rfl
    have h9 : (128 : Nat) ^ 9 = 9223372036854775808 := by decide
    rw [h9] at hn ⊢
    have : b % 128 ≤ 1 := by omega
    omega
  · have h1 := step_lt (b := b) hn
    have h2 := pow9 (i := i + 1) (by omega)
    omega
set_option maxRecDepth 100000 in
theorem tk_bound {r : List UInt8} : ∀ {n i : Nat}, i ≤ 9 → n < 128 ^ i → (tk n i r).n < 18446744073709551616 ∧ (tk n i r).sz ≤ i + r.length ∧ (tk n i r).sz ≤ 10 := by
  induction r with
  | nil => intro n i _ _; exact ⟨by show (0 : Nat) < 18446744073709551616; decide, Nat.zero_le _, Nat.zero_le _⟩
  | cons b r ih =>
    intro n i hi hn
    unfold tk
    by_cases h1 : (0 < i ∧ b.toNat = 0) ∨ (i = 9 ∧ 1 < b.toNat)
    · rw [if_pos h1]; exact ⟨by decide, Nat.zero_le _, Nat.zero_le _⟩
    · rw [if_neg h1]
      have h9 : i = 9 → b.toNat ≤ 1 := fun h => by
        rcases Nat.lt_or_ge 1 b.toNat with hb | hb
        · exact absurd (Or.inr ⟨h, hb⟩) h1
        · exact hb
      by_cases h2 : b.toNat < 128
      · rw [if_pos h2]
        refine ⟨step_lt64 hi hn h9, ?_, ?_⟩
        · simp only [List.length_cons]; omega
        · show i + 1 ≤ 10; omega
      · rw [if_neg h2]
        have hi9 : i ≠ 9 := fun h => by have := h9 h; omega
        obtain ⟨a, b', c⟩ := ih (n := n + b.toNat % 128 * 128 ^ i) (i := i + 1) (by omega) (step_lt hn)
        refine ⟨a, ?_, c⟩
        simp only [List.length_cons]; omega
set_option maxRecDepth 100000 in
theorem mul_split (m p : Nat) : m % 128 * p + m / 128 * (p * 128) = m * p := by
  have h := Nat.div_add_mod m 128
  have : m / 128 * (p * 128) = 128 * (m / 128) * p := by
    rw [Nat.mul_comm p 128, ← Nat.mul_assoc, Nat.mul_comm (m / 128) 128]
  rw [this, ← Nat.add_mul, Nat.add_comm, h]
set_option maxRecDepth 100000 in
theorem tk_put : ∀ (m n i : Nat) (r : List UInt8), i ≤ 9 → (0 < i → 0 < m) → m * 128 ^ i < 18446744073709551616 →
    tk n i (put m ++ r) = ⟨n + m * 128 ^ i, i + (put m).length, 0⟩ := by
  intro m
  induction m using Nat.strongRecOn with
  | ind m ih =>
    intro n i r hi hm hb
    have h9 : i = 9 → m ≤ 1 := fun h => by
      subst h
      have e : (128 : Nat) ^ 9 = 9223372036854775808 := by decide
      rw [e] at hb; omega
    by_cases h : m < 128
    · rw [put_lt h]
      show tk n i (UInt8.ofNat m :: r) = _
      unfold tk
      rw [toNat_ofNat_lt (by omega : m < 256)]
      have h1 : ¬ ((0 < i ∧ m = 0) ∨ (i = 9 ∧ 1 < m)) := by
        rintro (⟨a, b⟩ | ⟨a, b⟩)
        · have := hm a; omega
        · have := h9 a; omega
      rw [if_neg h1, if_pos h, Nat.mod_eq_of_lt h]
      rfl
    · have hge : 128 ≤ m := by omega
      rw [put_ge hge]
      show tk n i (UInt8.ofNat (m % 128 + 128) :: (put (m / 128) ++ r)) = _
      unfold tk
      rw [toNat_ofNat_lt (by omega : m % 128 + 128 < 256)]
      have hi9 : i ≠ 9 := fun h => by have := h9 h; omega
      have h1 : ¬ ((0 < i ∧ m % 128 + 128 = 0) ∨ (i = 9 ∧ 1 < m % 128 + 128)) := by
        rintro (⟨a, b⟩ | ⟨a, b⟩)
        · omega
        · exact hi9 a
      rw [if_neg h1, if_neg (by omega)]
      have e1 : (m % 128 + 128) % 128 = m % 128 := by omega
      rw [e1]
      have hs := mul_split m (128 ^ i)
      have hp : (128 : Nat) ^ (i + 1) = 128 ^ i * 128 := Nat.pow_succ ..
      rw [ih (m / 128) (by omega) _ (i + 1) r (by omega) (fun _ => by omega) (by rw [hp]; omega), hp]
      congr 1
      · omega
      · simp only [List.length_cons]; omega
set_option maxRecDepth 100000 in
theorem put_tk : ∀ (l : List UInt8) (n i : Nat), (tk n i l).er = 0 →
    ∃ m, (0 < i → 0 < m) ∧ (tk n i l).n = n + m * 128 ^ i ∧ (tk n i l).sz = i + (put m).length ∧ l.take (put m).length = put m := by
  intro l
  induction l with
  | nil => intro n i h; exact absurd h (by show ¬ ((4 : Int) = 0); decide)
  | cons b r ih =>
    intro n i h
    unfold tk at h ⊢
    by_cases h1 : (0 < i ∧ b.toNat = 0) ∨ (i = 9 ∧ 1 < b.toNat)
    · rw [if_pos h1] at h; exact absurd h (by show ¬ ((6 : Int) = 0); decide)
    · rw [if_neg h1] at h ⊢
      have h0 : 0 < i → 0 < b.toNat := fun hi => by
        rcases Nat.eq_zero_or_pos b.toNat with hb | hb
        · exact absurd (Or.inl ⟨hi, hb⟩) h1
        · exact hb
      by_cases h2 : b.toNat < 128
      · rw [if_pos h2]
        refine ⟨b.toNat, h0, ?_, ?_, ?_⟩
        · show n + b.toNat % 128 * 128 ^ i = _
          rw [Nat.mod_eq_of_lt h2]
        · rw [put_lt h2]; rfl
        · rw [put_lt h2]; simp
      · rw [if_neg h2] at h ⊢
        obtain ⟨m, hm, hv, hs, ht⟩ := ih _ _ h
        have hm0 := hm (by omega)
        have hb8 : b.toNat < 256 := UInt8.toNat_lt b
        have hge : 128 ≤ b.toNat % 128 + m * 128 := by omega
        have e1 : (b.toNat % 128 + m * 128) % 128 = b.toNat % 128 := by omega
        have e2 : (b.toNat % 128 + m * 128) / 128 = m := by omega
        have e3 : b.toNat % 128 + 128 = b.toNat := by omega
        have hput : put (b.toNat % 128 + m * 128) = b :: put m := by
          rw [put_ge hge, e1, e2, e3, UInt8.ofNat_toNat]
        refine ⟨b.toNat % 128 + m * 128, fun _ => by omega, ?_, ?_, ?_⟩
        · rw [hv, Nat.pow_succ, Nat.add_mul, Nat.add_assoc]
          congr 2
          rw [Nat.mul_assoc, Nat.mul_comm 128 (128 ^ i)]
        · rw [hs, hput]; simp only [List.length_cons]; omega
        · rw [hput, List.length_cons, List.take_succ_cons, ht]
set_option maxRecDepth 100000 in
theorem put_len : ∀ (n k : Nat), n < 128 ^ (k + 1) → (put n).length ≤ k + 1 := by
  intro n
  induction n using Nat.strongRecOn with
  | ind n ih =>
    intro k hk
    by_cases h : n < 128
    · rw [put_lt h]; simp
    · have hge : 128 ≤ n := by omega
      cases k with
      | zero => omega
      | succ k =>
        rw [put_ge hge, List.length_cons]
        have := ih (n / 128) (by omega) k (by rw [Nat.pow_succ] at hk; omega)
        omega
set_option maxRecDepth 100000 in
theorem put_len10 {n : Nat} (h : n < 18446744073709551616) : (put n).length ≤ 10 := put_len n 9 (Nat.lt_trans h (by decide))
set_option maxRecDepth 100000 in
theorem take_put (n : Nat) (hn : n < 18446744073709551616) (r : List UInt8) : tk 0 0 (put n ++ r) = ⟨n, (put n).length, 0⟩ := by
  have := tk_put n 0 0 r (by omega) (fun h => absurd h (by omega)) (by simpa using hn)
  simpa using this
set_option maxRecDepth 100000 in
theorem put_take (l : List UInt8) (h : (tk 0 0 l).er = 0) : (tk 0 0 l).sz = (put (tk 0 0 l).n).length ∧ l.take (tk 0 0 l).sz = put (tk 0 0 l).n := by
  obtain ⟨m, _, hv, hs, ht⟩ := put_tk l 0 0 h
  have hv' : (tk 0 0 l).n = m := by simpa using hv
  have hs' : (tk 0 0 l).sz = (put m).length := by simpa using hs
  rw [hv', hs']
  exact ⟨rfl, ht⟩
set_option maxRecDepth 100000 in
theorem put_inj {n m : Nat} (hn : n < 18446744073709551616) (hm : m < 18446744073709551616) (h : put n = put m) : n = m := by
  have h1 := take_put n hn []
  have h2 := take_put m hm []
  rw [h] at h1
  exact (Tk.mk.inj (h1.symm.trans h2)).1
end Go.Proofs.YtfcenidepkjdcaaDoor.V
namespace Go.Proofs.YtfcenidepkjdcaaDoor.V
open Go.RowKit
structure Only (b : Nat) (w w' : World) : Prop where
  os : w'.os = w.os
  tape : w'.tape = w.tape
  output : w'.output = w.output
  size : w.heap.size ≤ w'.heap.size
  block : ∀ k, k < w.heap.size → k ≠ b → w'.heap[k]? = w.heap[k]?
set_option maxRecDepth 100000 in
theorem Only.refl (b : Nat) (w : World) : Only b w w := ⟨rfl, rfl, rfl, Nat.le_refl _, fun _ _ _ => rfl⟩
set_option maxRecDepth 100000 in
theorem Only.trans {b : Nat} {u v w : World} (h : Only b u v) (k : Only b v w) : Only b u w :=
  ⟨k.os.trans h.os, k.tape.trans h.tape, k.output.trans h.output, Nat.le_trans h.size k.size, fun i hi hb => (k.block i (Nat.lt_of_lt_of_le hi h.size) hb).trans (h.block i hi hb)⟩
set_option maxRecDepth 100000 in
theorem Only.drewN {b : Nat} {u v : World} (h : Only b u v) (n : Nat) : Only b u (v.drewN n) := ⟨h.os, h.tape, h.output, h.size, h.block⟩
set_option maxRecDepth 100000 in
theorem Only.setCell {b : Nat} {u v : World} (h : Only b u v) (o : Nat) (x : Value) : Only b u (v.setCell ⟨b, o, none⟩ x) :=
  ⟨h.os, h.tape, h.output, by simpa using h.size, fun k hk hb => (Below.heap_setCell v ⟨b, o, none⟩ x k hb).trans (h.block k hk hb)⟩
set_option maxRecDepth 100000 in
theorem Only.ofBelow {b : Nat} {u v : World} (h : Below u.heap.size u v) : Only b u v := ⟨h.os, h.tape, h.output, h.size, fun k hk _ => h.block k hk⟩
set_option maxRecDepth 100000 in
theorem Only.below {b B : Nat} {u v : World} (h : Only b u v) (hb : B ≤ b) (hB : B ≤ u.heap.size) : Below B u v :=
  ⟨h.os, h.tape, h.output, h.size, fun k hk => h.block k (by omega) (by omega)⟩
set_option maxRecDepth 100000 in
theorem lt_of_row {W : World} {g : Nat} {o : Obj} (h1 : W.heap[g]? = some o) : g < W.heap.size := by
  rcases Nat.lt_or_ge g W.heap.size with h | h
  · exact h
  · rw [Array.getElem?_eq_none h] at h1; cases h1
set_option maxRecDepth 100000 in
theorem row_setCell {W : World} {g k : Nat} {cs : Array Value} {t : TypeId} {fr : Nat × Nat} (h : W.heap[g]? = some (.cells cs t fr)) (x : Value) :
    (W.setCell ⟨g, k, none⟩ x).heap[g]? = some (.cells (cs.setIfInBounds k x) t fr) := by
  have hl := lt_of_row h
  rw [Array.getElem?_eq_getElem hl] at h
  injection h with h
  unfold World.setCell
  rw [Array.getElem?_modify]
  simp [hl, h]
end Go.Proofs.YtfcenidepkjdcaaDoor.V
namespace Go.Proofs.YtfcenidepkjdcaaDoor.V
open Go.RowKit
inductive Tr where
  | no : Tr
  | mk (k : Int) (b : Bool) (n : Int) (s : ByteArray) (m : Nat) (f : Nat → Tr) (q : Nat) (g : Nat → ByteArray) : Tr
def Tr.k : Tr → Int | .no => 0 | .mk k _ _ _ _ _ _ _ => k
def Tr.b : Tr → Bool | .no => false | .mk _ b _ _ _ _ _ _ => b
def Tr.n : Tr → Int | .no => 0 | .mk _ _ n _ _ _ _ _ => n
def Tr.s : Tr → ByteArray | .no => ⟨#[]⟩ | .mk _ _ _ s _ _ _ _ => s
def Tr.m : Tr → Nat | .no => 0 | .mk _ _ _ _ m _ _ _ => m
def Tr.f : Tr → Nat → Tr | .no => fun _ => .no | .mk _ _ _ _ _ f _ _ => f
def Tr.q : Tr → Nat | .no => 0 | .mk _ _ _ _ _ _ q _ => q
def Tr.g : Tr → Nat → ByteArray | .no => fun _ => ⟨#[]⟩ | .mk _ _ _ _ _ _ _ g => g
structure Ad where
  pa : Option Addr
  pc : Nat
  na : Option Addr
  nc : Nat
def Tr.cs (t : Tr) (x : Ad) : List Value := [.int .i64 t.k, .bool t.b, .int .i64 t.n, .string t.s, .slice x.pa t.m x.pc, .slice x.na t.q x.nc]
def Tr.val (t : Tr) (x : Ad) : Value := .agg #[.int .i64 t.k, .bool t.b, .int .i64 t.n, .string t.s, .slice x.pa t.m x.pc, .slice x.na t.q x.nc]
structure At6 (w : World) (b o : Nat) (t : Tr) (x : Ad) : Prop where
  c0 : w.cell? ⟨b, o, none⟩ = some (.int .i64 t.k)
  c1 : w.cell? ⟨b, o + 1, none⟩ = some (.bool t.b)
  c2 : w.cell? ⟨b, o + 2, none⟩ = some (.int .i64 t.n)
  c3 : w.cell? ⟨b, o + 3, none⟩ = some (.string t.s)
  c4 : w.cell? ⟨b, o + 4, none⟩ = some (.slice x.pa t.m x.pc)
  c5 : w.cell? ⟨b, o + 5, none⟩ = some (.slice x.na t.q x.nc)
def NamesS (S : Nat → Prop) (w : World) (q : Nat) (g : Nat → ByteArray) (na : Option Addr) (nc : Nat) : Prop :=
  q ≤ nc ∧ nc ≤ maxLen ∧ (∀ i, i < q → (g i).size ≤ maxLen) ∧ (0 < q → ∃ b o, na = some ⟨b, o, none⟩ ∧ S b ∧ ∀ i, i < q → w.cell? ⟨b, o + i, none⟩ = some (.string (g i)))
def Names (B : Nat) : World → Nat → (Nat → ByteArray) → Option Addr → Nat → Prop := NamesS (fun k => k < B)
inductive LiesS (S : Nat → Prop) (w : World) : Tr → Ad → Prop where
  | mk {k : Int} {b : Bool} {n : Int} {s : ByteArray} {m : Nat} {f : Nat → Tr} {q : Nat} {g : Nat → ByteArray} {x : Ad}
      (A : Nat → Ad)
      (hk : -9223372036854775808 ≤ k ∧ k < 9223372036854775808) (hn : -9223372036854775808 ≤ n ∧ n < 9223372036854775808) (hs : s.size ≤ maxLen)
      (hm : m ≤ x.pc ∧ x.pc ≤ maxLen)
      (hp : 0 < m → ∃ b o, x.pa = some ⟨b, o, none⟩ ∧ S b ∧ ∀ i, i < m → At6 w b (o + i * 6) (f i) (A i))
      (hr : ∀ i, i < m → LiesS S w (f i) (A i))
      (hq : NamesS S w q g x.na x.nc) : LiesS S w (.mk k b n s m f q g) x
def Lies (B : Nat) : World → Tr → Ad → Prop := LiesS (fun k => k < B)
set_option maxRecDepth 100000 in
theorem block_lt {W : World} {x : Addr} {v : Value} (h : W.cell? x = some v) : x.block < W.heap.size := by
  rcases Nat.lt_or_ge x.block W.heap.size with k | k
  · exact k
  · unfold World.cell? at h
    rw [Array.getElem?_eq_none k] at h
    cases h
set_option maxRecDepth 100000 in
theorem cell_kept {w w' : World} {a : Addr} {v : Value} (h : w.cell? a = some v) (hb : w'.heap[a.block]? = w.heap[a.block]?) : w'.cell? a = some v := by
  rw [← h]
  exact World.cell?_of_block hb
set_option maxRecDepth 100000 in
theorem cell_later {w w' : World} {a : Addr} {v : Value} {B : Nat} (h : w.cell? a = some v) (ha : a.block < B) (hb : Below B w w') : w'.cell? a = some v := cell_kept h (hb.block _ ha)
set_option maxRecDepth 100000 in
theorem At6.kept {w w' : World} {b o : Nat} {t : Tr} {x : Ad} (h : At6 w b o t x) (hb : w'.heap[b]? = w.heap[b]?) : At6 w' b o t x :=
  ⟨cell_kept h.c0 hb, cell_kept h.c1 hb, cell_kept h.c2 hb, cell_kept h.c3 hb, cell_kept h.c4 hb, cell_kept h.c5 hb⟩
set_option maxRecDepth 100000 in
theorem At6.later {B : Nat} {w w' : World} {b o : Nat} {t : Tr} {x : Ad} (h : At6 w b o t x) (hB : b < B) (hb : Below B w w') : At6 w' b o t x := h.kept (hb.block b hB)
set_option maxRecDepth 100000 in
theorem NamesS.kept {S : Nat → Prop} {w w' : World} {q : Nat} {g : Nat → ByteArray} {na : Option Addr} {nc : Nat} (hk : ∀ k, S k → w'.heap[k]? = w.heap[k]?) (h : NamesS S w q g na nc) : NamesS S w' q g na nc := by
  obtain ⟨h1, h2, h3, h4⟩ := h
  refine ⟨h1, h2, h3, fun h0 => ?_⟩
  obtain ⟨b, o, h5, h7, h6⟩ := h4 h0
  exact ⟨b, o, h5, h7, fun i hi => cell_kept (h6 i hi) (hk b h7)⟩
set_option maxRecDepth 100000 in
theorem LiesS.kept {S : Nat → Prop} {w w' : World} (hk : ∀ k, S k → w'.heap[k]? = w.heap[k]?) {t : Tr} {x : Ad} (h : LiesS S w t x) : LiesS S w' t x := by
  induction h with
  | mk A h1 hn hs hm hp _ hq ih =>
    refine .mk A h1 hn hs hm (fun h0 => ?_) ih (hq.kept hk)
    obtain ⟨b, o, h1, h3, h2⟩ := hp h0
    exact ⟨b, o, h1, h3, fun i hi => (h2 i hi).kept (hk b h3)⟩
set_option maxRecDepth 100000 in
theorem NamesS.up {S T : Nat → Prop} (hST : ∀ k, S k → T k) {w : World} {q : Nat} {g : Nat → ByteArray} {na : Option Addr} {nc : Nat} (h : NamesS S w q g na nc) : NamesS T w q g na nc := by
  obtain ⟨h1, h2, h3, h4⟩ := h
  refine ⟨h1, h2, h3, fun h0 => ?_⟩
  obtain ⟨b, o, h5, h7, h6⟩ := h4 h0
  exact ⟨b, o, h5, hST b h7, h6⟩
set_option maxRecDepth 100000 in
theorem LiesS.up {S T : Nat → Prop} (hST : ∀ k, S k → T k) {w : World} {t : Tr} {x : Ad} (h : LiesS S w t x) : LiesS T w t x := by
  induction h with
  | mk A hk hn hs hm hp _ hq ih =>
    refine .mk A hk hn hs hm (fun h0 => ?_) ih (hq.up hST)
    obtain ⟨b, o, h1, h3, h2⟩ := hp h0
    exact ⟨b, o, h1, hST b h3, h2⟩
set_option maxRecDepth 100000 in
theorem Names.later {B : Nat} {w w' : World} {q : Nat} {g : Nat → ByteArray} {na : Option Addr} {nc : Nat} (h : Names B w q g na nc) (hb : Below B w w') : Names B w' q g na nc := NamesS.kept (fun k hk => hb.block k hk) h
set_option maxRecDepth 100000 in
theorem Lies.later {B : Nat} {w w' : World} (hb : Below B w w') {t : Tr} {x : Ad} (h : Lies B w t x) : Lies B w' t x := LiesS.kept (fun k hk => hb.block k hk) h
set_option maxRecDepth 100000 in
theorem Lies.up {B C : Nat} (hBC : B ≤ C) {w : World} {t : Tr} {x : Ad} (h : Lies B w t x) : Lies C w t x := LiesS.up (fun _ hk => Nat.lt_of_lt_of_le hk hBC) h
set_option maxRecDepth 100000 in
theorem LiesS.part {S : Nat → Prop} {w : World} {k : Int} {b : Bool} {n : Int} {s : ByteArray} {m : Nat} {f : Nat → Tr} {q : Nat} {g : Nat → ByteArray} {x : Ad} (h : LiesS S w (.mk k b n s m f q g) x) :
    ∃ A : Nat → Ad, (0 < m → ∃ b o, x.pa = some ⟨b, o, none⟩ ∧ S b ∧ ∀ i, i < m → At6 w b (o + i * 6) (f i) (A i)) ∧ ∀ i, i < m → LiesS S w (f i) (A i) := by
  cases h with
  | mk A _ _ _ _ hp hr _ => exact ⟨A, hp, hr⟩
set_option maxRecDepth 100000 in
theorem Lies.part {B : Nat} {w : World} {k : Int} {b : Bool} {n : Int} {s : ByteArray} {m : Nat} {f : Nat → Tr} {q : Nat} {g : Nat → ByteArray} {x : Ad} (h : Lies B w (.mk k b n s m f q g) x) :
    ∃ A : Nat → Ad, (0 < m → ∃ b o, x.pa = some ⟨b, o, none⟩ ∧ b < B ∧ ∀ i, i < m → At6 w b (o + i * 6) (f i) (A i)) ∧ ∀ i, i < m → Lies B w (f i) (A i) := LiesS.part h
set_option maxRecDepth 100000 in
theorem LiesS.lims {S : Nat → Prop} {w : World} {t : Tr} {x : Ad} (h : LiesS S w t x) :
    (-9223372036854775808 ≤ t.k ∧ t.k < 9223372036854775808) ∧ (-9223372036854775808 ≤ t.n ∧ t.n < 9223372036854775808) ∧ t.s.size ≤ maxLen ∧ (t.m ≤ x.pc ∧ x.pc ≤ maxLen) ∧ NamesS S w t.q t.g x.na x.nc := by
  cases h with
  | mk A hk hn hs hm hp hr hq => exact ⟨hk, hn, hs, hm, hq⟩
set_option maxRecDepth 100000 in
theorem Lies.lims {B : Nat} {w : World} {t : Tr} {x : Ad} (h : Lies B w t x) :
    (-9223372036854775808 ≤ t.k ∧ t.k < 9223372036854775808) ∧ (-9223372036854775808 ≤ t.n ∧ t.n < 9223372036854775808) ∧ t.s.size ≤ maxLen ∧ (t.m ≤ x.pc ∧ x.pc ≤ maxLen) ∧ Names B w t.q t.g x.na x.nc := LiesS.lims h
set_option maxRecDepth 100000 in
theorem LiesS.no {S : Nat → Prop} {w : World} {x : Ad} (h : LiesS S w .no x) : False := by cases h
set_option maxRecDepth 100000 in
theorem Lies.no {B : Nat} {w : World} {x : Ad} (h : Lies B w .no x) : False := LiesS.no h
end Go.Proofs.YtfcenidepkjdcaaDoor.V
