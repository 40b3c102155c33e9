/- Plain facts of numbers in bytes: what is taken of bytes (tk), the bytes of a number (put), and that the two are each other's. What a call leaves as it was (Only), a cursor's block (Cur), and the small calls of a cursor: Err, Off, Fail, skip, At; each of a nil cursor and of one that is there. A value as a tree (Tr), what its memory holds (Lies), and that it stays where only new memory is made. A list of values that a call makes itself, one behind the other (Mine): how it grows, and what lies there at the end. Two lists that a call makes itself side by side: values (Twin), and their names (Nms). The number with which bytes begin (first): of any bytes, at most 8192, the call returns what the plain facts take of them, and changes nothing. The calls of a cursor that look ahead: number, count, piece; of a nil cursor, of one that has an error, and of one that has none. The calls of a cursor that take something: Uint, Int, Count, Bytes, Text, Bool, and End; what each answers, and the cursor behind it, in plain words (the functions ..A). The calls of a cursor that take something: Uint, Int, Count, Bytes, Text, Bool; what each answers, and the cursor behind it, in plain words (the functions ..A). The calls of a cursor that take bytes: Bytes, Text, Bool; what each answers, and the cursor behind it, in plain words. The calls of a cursor that take a text, and yes or no (Text, Bool). The call of a cursor that takes yes or no (Bool). What is taken of bytes as a value (takeA): plain facts. A clone of a value without parts and names (Clone, cloneAll). -/
import Derived.Test.YtnnclhmhbmbkfaaGreatDoorRows
import Derived.WalkKit
import Derived.WalkSpells
import Derived.WalkLawsBesides
import Derived.Deep.QuietTactic
import Derived.BigQuiet
import Derived.Lib.Strings
import Derived.Deep.AppendLies
import Derived.OwnWalk
import Derived.Laws.BitsAllLaws
import Derived.Laws.AppendOwnNone
namespace Go.Proofs.YtnnclhmhbmbkfaaGreatDoor.V
structure Tk where
  n : Nat
  sz : Nat
  er : Int
def tk : Nat → Nat → List UInt8 → Tk
  | _, _, [] => ⟨0, 0, 4⟩
  | n, i, b :: r =>
    if (0 < i ∧ b.toNat = 0) ∨ (i = 9 ∧ 1 < b.toNat) then ⟨0, 0, 6⟩
    else if b.toNat < 128 then ⟨n + b.toNat % 128 * 128 ^ i, i + 1, 0⟩
    else tk (n + b.toNat % 128 * 128 ^ i) (i + 1) r
def put (n : Nat) : List UInt8 := if n < 128 then [UInt8.ofNat n] else UInt8.ofNat (n % 128 + 128) :: put (n / 128)
  termination_by n
  decreasing_by omega
set_option maxRecDepth 100000 in
theorem put_lt {n : Nat} (h : n < 128) : put n = [UInt8.ofNat n] := by rw [put, if_pos h]
set_option maxRecDepth 100000 in
theorem put_ge {n : Nat} (h : 128 ≤ n) : put n = UInt8.ofNat (n % 128 + 128) :: put (n / 128) := by rw [put, if_neg (by omega)]
set_option maxRecDepth 100000 in
theorem toNat_ofNat_lt {n : Nat} (h : n < 256) : (UInt8.ofNat n).toNat = n := by
  rw [UInt8.toNat_ofNat']; omega
set_option maxRecDepth 100000 in
theorem put_len_pos (n : Nat) : 0 < (put n).length := by
  rw [put]; split <;> simp
set_option maxRecDepth 100000 in
theorem tk_err {r : List UInt8} : ∀ {n i : Nat}, (tk n i r).er ≠ 0 → (tk n i r).n = 0 ∧ (tk n i r).sz = 0 := by
  induction r with
  | nil => intro n i _; exact ⟨rfl, rfl⟩
  | cons b r ih =>
    intro n i h
    unfold tk at h ⊢
    by_cases h1 : (0 < i ∧ b.toNat = 0) ∨ (i = 9 ∧ 1 < b.toNat)
    · rw [if_pos h1]; exact ⟨rfl, rfl⟩
    · rw [if_neg h1] at h ⊢
      by_cases h2 : b.toNat < 128
      · rw [if_pos h2] at h; exact absurd rfl h
      · rw [if_neg h2] at h ⊢; exact ih h
set_option maxRecDepth 100000 in
theorem tk_er {r : List UInt8} : ∀ {n i : Nat}, (tk n i r).er = 0 ∨ (tk n i r).er = 4 ∨ (tk n i r).er = 6 := by
  induction r with
  | nil => intro n i; exact Or.inr (Or.inl rfl)
  | cons b r ih =>
    intro n i
    unfold tk
    by_cases h1 : (0 < i ∧ b.toNat = 0) ∨ (i = 9 ∧ 1 < b.toNat)
    · rw [if_pos h1]; exact Or.inr (Or.inr rfl)
    · rw [if_neg h1]
      by_cases h2 : b.toNat < 128
      · rw [if_pos h2]; exact Or.inl rfl
      · rw [if_neg h2]; exact ih
set_option maxRecDepth 100000 in
theorem pow9 {i : Nat} (hi : i ≤ 9) : 128 ^ i ≤ 9223372036854775808 := by
  have : (128 : Nat) ^ i ≤ 128 ^ 9 := Nat.pow_le_pow_right (by omega) hi
  exact Nat.le_trans this (by decide)
set_option maxRecDepth 100000 in
theorem step_lt {n i b : Nat} (hn : n < 128 ^ i) : n + b % 128 * 128 ^ i < 128 ^ (i + 1) := by
  have h1 : b % 128 ≤ 127 := by omega
  have h2 : b % 128 * 128 ^ i ≤ 127 * 128 ^ i := Nat.mul_le_mul_right _ h1
  rw [Nat.pow_succ]; omega
set_option maxRecDepth 100000 in
theorem step_lt64 {n i b : Nat} (hi : i ≤ 9) (hn : n < 128 ^ i) (hb : i = 9 → b ≤ 1) : n + b % 128 * 128 ^ i < 18446744073709551616 := by
  by_cases h : i = 9
  · subst h
    have hb1 := hb rfl
    have h9 : (128 : Nat) ^ 9 = 9223372036854775808 := by decide
    rw [h9] at hn ⊢
    have : b % 128 ≤ 1 := by omega
    omega
  · have h1 := step_lt (b := b) hn
    have h2 := pow9 (i := i + 1) (by omega)
    omega
set_option maxRecDepth 100000 in
theorem tk_bound {r : List UInt8} : ∀ {n i : Nat}, i ≤ 9 → n < 128 ^ i → (tk n i r).n < 18446744073709551616 ∧ (tk n i r).sz ≤ i + r.length ∧ (tk n i r).sz ≤ 10 := by
  induction r with
  | nil => intro n i _ _; exact ⟨by show (0 : Nat) < 18446744073709551616; decide, Nat.zero_le _, Nat.zero_le _⟩
  | cons b r ih =>
    intro n i hi hn
    unfold tk
    by_cases h1 : (0 < i ∧ b.toNat = 0) ∨ (i = 9 ∧ 1 < b.toNat)
    · rw [if_pos h1]; exact ⟨by decide, Nat.zero_le _, Nat.zero_le _⟩
    · rw [if_neg h1]
      have h9 : i = 9 → b.toNat ≤ 1 := fun h => by
        rcases Nat.lt_or_ge 1 b.toNat with hb | hb
        · exact absurd (Or.inr ⟨h, hb⟩) h1
        · exact hb
      by_cases h2 : b.toNat < 128
      · rw [if_pos h2]
        refine ⟨step_lt64 hi hn h9, ?_, ?_⟩
        · simp only [List.length_cons]; omega
        · show i + 1 ≤ 10; omega
      · rw [if_neg h2]
        have hi9 : i ≠ 9 := fun h => by have := h9 h; omega
        obtain ⟨a, b', c⟩ := ih (n := n + b.toNat % 128 * 128 ^ i) (i := i + 1) (by omega) (step_lt hn)
        refine ⟨a, ?_, c⟩
        simp only [List.length_cons]; omega
set_option maxRecDepth 100000 in
theorem mul_split (m p : Nat) : m % 128 * p + m / 128 * (p * 128) = m * p := by
  have h := Nat.div_add_mod m 128
  have : m / 128 * (p * 128) = 128 * (m / 128) * p := by
    rw [Nat.mul_comm p 128, ← Nat.mul_assoc, Nat.mul_comm (m / 128) 128]
  rw [this, ← Nat.add_mul, Nat.add_comm, h]
set_option maxRecDepth 100000 in
theorem tk_put : ∀ (m n i : Nat) (r : List UInt8), i ≤ 9 → (0 < i → 0 < m) → m * 128 ^ i < 18446744073709551616 →
    tk n i (put m ++ r) = ⟨n + m * 128 ^ i, i + (put m).length, 0⟩ := by
  intro m
  induction m using Nat.strongRecOn with
  | ind m ih =>
    intro n i r hi hm hb
    have h9 : i = 9 → m ≤ 1 := fun h => by
      subst h
      have e : (128 : Nat) ^ 9 = 9223372036854775808 := by decide
      rw [e] at hb; omega
    by_cases h : m < 128
    · rw [put_lt h]
      show tk n i (UInt8.ofNat m :: r) = _
      unfold tk
      rw [toNat_ofNat_lt (by omega : m < 256)]
      have h1 : ¬ ((0 < i ∧ m = 0) ∨ (i = 9 ∧ 1 < m)) := by
        rintro (⟨a, b⟩ | ⟨a, b⟩)
        · have := hm a; omega
        · have := h9 a; omega
      rw [if_neg h1, if_pos h, Nat.mod_eq_of_lt h]
      rfl
    · have hge : 128 ≤ m := by omega
      rw [put_ge hge]
      show tk n i (UInt8.ofNat (m % 128 + 128) :: (put (m / 128) ++ r)) = _
      unfold tk
      rw [toNat_ofNat_lt (by omega : m % 128 + 128 < 256)]
      have hi9 : i ≠ 9 := fun h => by have := h9 h; omega
      have h1 : ¬ ((0 < i ∧ m % 128 + 128 = 0) ∨ (i = 9 ∧ 1 < m % 128 + 128)) := by
        rintro (⟨a, b⟩ | ⟨a, b⟩)
        · omega
        · exact hi9 a
      rw [if_neg h1, if_neg (by omega)]
      have e1 : (m % 128 + 128) % 128 = m % 128 := by omega
      rw [e1]
      have hs := mul_split m (128 ^ i)
      have hp : (128 : Nat) ^ (i + 1) = 128 ^ i * 128 := Nat.pow_succ ..
      rw [ih (m / 128) (by omega) _ (i + 1) r (by omega) (fun _ => by omega) (by rw [hp]; omega), hp]
      congr 1
      · omega
      · simp only [List.length_cons]; omega
set_option maxRecDepth 100000 in
theorem put_tk : ∀ (l : List UInt8) (n i : Nat), (tk n i l).er = 0 →
    ∃ m, (0 < i → 0 < m) ∧ (tk n i l).n = n + m * 128 ^ i ∧ (tk n i l).sz = i + (put m).length ∧ l.take (put m).length = put m := by
  intro l
  induction l with
  | nil => intro n i h; exact absurd h (by show ¬ ((4 : Int) = 0); decide)
  | cons b r ih =>
    intro n i h
    unfold tk at h ⊢
    by_cases h1 : (0 < i ∧ b.toNat = 0) ∨ (i = 9 ∧ 1 < b.toNat)
    · rw [if_pos h1] at h; exact absurd h (by show ¬ ((6 : Int) = 0); decide)
    · rw [if_neg h1] at h ⊢
      have h0 : 0 < i → 0 < b.toNat := fun hi => by
        rcases Nat.eq_zero_or_pos b.toNat with hb | hb
        · exact absurd (Or.inl ⟨hi, hb⟩) h1
        · exact hb
      by_cases h2 : b.toNat < 128
      · rw [if_pos h2]
        refine ⟨b.toNat, h0, ?_, ?_, ?_⟩
        · show n + b.toNat % 128 * 128 ^ i = _
          rw [Nat.mod_eq_of_lt h2]
        · rw [put_lt h2]; rfl
        · rw [put_lt h2]; simp
      · rw [if_neg h2] at h ⊢
        obtain ⟨m, hm, hv, hs, ht⟩ := ih _ _ h
        have hm0 := hm (by omega)
        have hb8 : b.toNat < 256 := UInt8.toNat_lt b
        have hge : 128 ≤ b.toNat % 128 + m * 128 := by omega
        have e1 : (b.toNat % 128 + m * 128) % 128 = b.toNat % 128 := by omega
        have e2 : (b.toNat % 128 + m * 128) / 128 = m := by omega
        have e3 : b.toNat % 128 + 128 = b.toNat := by omega
        have hput : put (b.toNat % 128 + m * 128) = b :: put m := by
          rw [put_ge hge, e1, e2, e3, UInt8.ofNat_toNat]
        refine ⟨b.toNat % 128 + m * 128, fun _ => by omega, ?_, ?_, ?_⟩
        · rw [hv, Nat.pow_succ, Nat.add_mul, Nat.add_assoc]
          congr 2
          rw [Nat.mul_assoc, Nat.mul_comm 128 (128 ^ i)]
        · rw [hs, hput]; simp only [List.length_cons]; omega
        · rw [hput, List.length_cons, List.take_succ_cons, ht]
set_option maxRecDepth 100000 in
theorem put_len : ∀ (n k : Nat), n < 128 ^ (k + 1) → (put n).length ≤ k + 1 := by
  intro n
  induction n using Nat.strongRecOn with
  | ind n ih =>
    intro k hk
    by_cases h : n < 128
    · rw [put_lt h]; simp
    · have hge : 128 ≤ n := by omega
      cases k with
      | zero => omega
      | succ k =>
        rw [put_ge hge, List.length_cons]
        have := ih (n / 128) (by omega) k (by rw [Nat.pow_succ] at hk; omega)
        omega
set_option maxRecDepth 100000 in
theorem put_len10 {n : Nat} (h : n < 18446744073709551616) : (put n).length ≤ 10 := put_len n 9 (Nat.lt_trans h (by decide))
set_option maxRecDepth 100000 in
theorem take_put (n : Nat) (hn : n < 18446744073709551616) (r : List UInt8) : tk 0 0 (put n ++ r) = ⟨n, (put n).length, 0⟩ := by
  have := tk_put n 0 0 r (by omega) (fun h => absurd h (by omega)) (by simpa using hn)
  simpa using this
set_option maxRecDepth 100000 in
theorem put_take (l : List UInt8) (h : (tk 0 0 l).er = 0) : (tk 0 0 l).sz = (put (tk 0 0 l).n).length ∧ l.take (tk 0 0 l).sz = put (tk 0 0 l).n := by
  obtain ⟨m, _, hv, hs, ht⟩ := put_tk l 0 0 h
  have hv' : (tk 0 0 l).n = m := by simpa using hv
  have hs' : (tk 0 0 l).sz = (put m).length := by simpa using hs
  rw [hv', hs']
  exact ⟨rfl, ht⟩
set_option maxRecDepth 100000 in
theorem put_inj {n m : Nat} (hn : n < 18446744073709551616) (hm : m < 18446744073709551616) (h : put n = put m) : n = m := by
  have h1 := take_put n hn []
  have h2 := take_put m hm []
  rw [h] at h1
  exact (Tk.mk.inj (h1.symm.trans h2)).1
end Go.Proofs.YtnnclhmhbmbkfaaGreatDoor.V
namespace Go.Proofs.YtnnclhmhbmbkfaaGreatDoor.V
open Go.RowKit
structure Only (b : Nat) (w w' : World) : Prop where
  os : w'.os = w.os
  tape : w'.tape = w.tape
  output : w'.output = w.output
  size : w.heap.size ≤ w'.heap.size
  block : ∀ k, k < w.heap.size → k ≠ b → w'.heap[k]? = w.heap[k]?
set_option maxRecDepth 100000 in
theorem Only.refl (b : Nat) (w : World) : Only b w w := ⟨rfl, rfl, rfl, Nat.le_refl _, fun _ _ _ => rfl⟩
set_option maxRecDepth 100000 in
theorem Only.trans {b : Nat} {u v w : World} (h : Only b u v) (k : Only b v w) : Only b u w :=
  ⟨k.os.trans h.os, k.tape.trans h.tape, k.output.trans h.output, Nat.le_trans h.size k.size, fun i hi hb => (k.block i (Nat.lt_of_lt_of_le hi h.size) hb).trans (h.block i hi hb)⟩
set_option maxRecDepth 100000 in
theorem Only.drewN {b : Nat} {u v : World} (h : Only b u v) (n : Nat) : Only b u (v.drewN n) := ⟨h.os, h.tape, h.output, h.size, h.block⟩
set_option maxRecDepth 100000 in
theorem Only.setCell {b : Nat} {u v : World} (h : Only b u v) (o : Nat) (x : Value) : Only b u (v.setCell ⟨b, o, none⟩ x) :=
  ⟨h.os, h.tape, h.output, by simpa using h.size, fun k hk hb => (Below.heap_setCell v ⟨b, o, none⟩ x k hb).trans (h.block k hk hb)⟩
set_option maxRecDepth 100000 in
theorem Only.ofBelow {b : Nat} {u v : World} (h : Below u.heap.size u v) : Only b u v := ⟨h.os, h.tape, h.output, h.size, fun k hk _ => h.block k hk⟩
set_option maxRecDepth 100000 in
theorem Only.below {b B : Nat} {u v : World} (h : Only b u v) (hb : B ≤ b) (hB : B ≤ u.heap.size) : Below B u v :=
  ⟨h.os, h.tape, h.output, h.size, fun k hk => h.block k (by omega) (by omega)⟩
set_option maxRecDepth 100000 in
theorem lt_of_row {W : World} {g : Nat} {o : Obj} (h1 : W.heap[g]? = some o) : g < W.heap.size := by
  rcases Nat.lt_or_ge g W.heap.size with h | h
  · exact h
  · rw [Array.getElem?_eq_none h] at h1; cases h1
set_option maxRecDepth 100000 in
theorem row_setCell {W : World} {g k : Nat} {cs : Array Value} {t : TypeId} {fr : Nat × Nat} (h : W.heap[g]? = some (.cells cs t fr)) (x : Value) :
    (W.setCell ⟨g, k, none⟩ x).heap[g]? = some (.cells (cs.setIfInBounds k x) t fr) := by
  have hl := lt_of_row h
  rw [Array.getElem?_eq_getElem hl] at h
  injection h with h
  unfold World.setCell
  rw [Array.getElem?_modify]
  simp [hl, h]
end Go.Proofs.YtnnclhmhbmbkfaaGreatDoor.V
namespace Go.Proofs.YtnnclhmhbmbkfaaGreatDoor.V
open Go.RowKit
inductive Tr where
  | no : Tr
  | mk (k : Int) (b : Bool) (n : Int) (s : ByteArray) (m : Nat) (f : Nat → Tr) (q : Nat) (g : Nat → ByteArray) : Tr
def Tr.k : Tr → Int | .no => 0 | .mk k _ _ _ _ _ _ _ => k
def Tr.b : Tr → Bool | .no => false | .mk _ b _ _ _ _ _ _ => b
def Tr.n : Tr → Int | .no => 0 | .mk _ _ n _ _ _ _ _ => n
def Tr.s : Tr → ByteArray | .no => ⟨#[]⟩ | .mk _ _ _ s _ _ _ _ => s
def Tr.m : Tr → Nat | .no => 0 | .mk _ _ _ _ m _ _ _ => m
def Tr.f : Tr → Nat → Tr | .no => fun _ => .no | .mk _ _ _ _ _ f _ _ => f
def Tr.q : Tr → Nat | .no => 0 | .mk _ _ _ _ _ _ q _ => q
def Tr.g : Tr → Nat → ByteArray | .no => fun _ => ⟨#[]⟩ | .mk _ _ _ _ _ _ _ g => g
structure Ad where
  pa : Option Addr
  pc : Nat
  na : Option Addr
  nc : Nat
def Tr.cs (t : Tr) (x : Ad) : List Value := [.int .i64 t.k, .bool t.b, .int .i64 t.n, .string t.s, .slice x.pa t.m x.pc, .slice x.na t.q x.nc]
def Tr.val (t : Tr) (x : Ad) : Value := .agg #[.int .i64 t.k, .bool t.b, .int .i64 t.n, .string t.s, .slice x.pa t.m x.pc, .slice x.na t.q x.nc]
structure At6 (w : World) (b o : Nat) (t : Tr) (x : Ad) : Prop where
  c0 : w.cell? ⟨b, o, none⟩ = some (.int .i64 t.k)
  c1 : w.cell? ⟨b, o + 1, none⟩ = some (.bool t.b)
  c2 : w.cell? ⟨b, o + 2, none⟩ = some (.int .i64 t.n)
  c3 : w.cell? ⟨b, o + 3, none⟩ = some (.string t.s)
  c4 : w.cell? ⟨b, o + 4, none⟩ = some (.slice x.pa t.m x.pc)
  c5 : w.cell? ⟨b, o + 5, none⟩ = some (.slice x.na t.q x.nc)
def NamesS (S : Nat → Prop) (w : World) (q : Nat) (g : Nat → ByteArray) (na : Option Addr) (nc : Nat) : Prop :=
  q ≤ nc ∧ nc ≤ maxLen ∧ (∀ i, i < q → (g i).size ≤ maxLen) ∧ (0 < q → ∃ b o, na = some ⟨b, o, none⟩ ∧ S b ∧ ∀ i, i < q → w.cell? ⟨b, o + i, none⟩ = some (.string (g i)))
def Names (B : Nat) : World → Nat → (Nat → ByteArray) → Option Addr → Nat → Prop := NamesS (fun k => k < B)
inductive LiesS (S : Nat → Prop) (w : World) : Tr → Ad → Prop where
  | mk {k : Int} {b : Bool} {n : Int} {s : ByteArray} {m : Nat} {f : Nat → Tr} {q : Nat} {g : Nat → ByteArray} {x : Ad}
      (A : Nat → Ad)
      (hk : -9223372036854775808 ≤ k ∧ k < 9223372036854775808) (hn : -9223372036854775808 ≤ n ∧ n < 9223372036854775808) (hs : s.size ≤ maxLen)
      (hm : m ≤ x.pc ∧ x.pc ≤ maxLen)
      (hp : 0 < m → ∃ b o, x.pa = some ⟨b, o, none⟩ ∧ S b ∧ ∀ i, i < m → At6 w b (o + i * 6) (f i) (A i))
      (hr : ∀ i, i < m → LiesS S w (f i) (A i))
      (hq : NamesS S w q g x.na x.nc) : LiesS S w (.mk k b n s m f q g) x
def Lies (B : Nat) : World → Tr → Ad → Prop := LiesS (fun k => k < B)
set_option maxRecDepth 100000 in
theorem block_lt {W : World} {x : Addr} {v : Value} (h : W.cell? x = some v) : x.block < W.heap.size := by
  rcases Nat.lt_or_ge x.block W.heap.size with k | k
  · exact k
  · unfold World.cell? at h
    rw [Array.getElem?_eq_none k] at h
    cases h
set_option maxRecDepth 100000 in
theorem cell_kept {w w' : World} {a : Addr} {v : Value} (h : w.cell? a = some v) (hb : w'.heap[a.block]? = w.heap[a.block]?) : w'.cell? a = some v := by
  rw [← h]
  exact World.cell?_of_block hb
set_option maxRecDepth 100000 in
theorem cell_later {w w' : World} {a : Addr} {v : Value} {B : Nat} (h : w.cell? a = some v) (ha : a.block < B) (hb : Below B w w') : w'.cell? a = some v := cell_kept h (hb.block _ ha)
set_option maxRecDepth 100000 in
theorem At6.kept {w w' : World} {b o : Nat} {t : Tr} {x : Ad} (h : At6 w b o t x) (hb : w'.heap[b]? = w.heap[b]?) : At6 w' b o t x :=
  ⟨cell_kept h.c0 hb, cell_kept h.c1 hb, cell_kept h.c2 hb, cell_kept h.c3 hb, cell_kept h.c4 hb, cell_kept h.c5 hb⟩
set_option maxRecDepth 100000 in
theorem At6.later {B : Nat} {w w' : World} {b o : Nat} {t : Tr} {x : Ad} (h : At6 w b o t x) (hB : b < B) (hb : Below B w w') : At6 w' b o t x := h.kept (hb.block b hB)
set_option maxRecDepth 100000 in
theorem NamesS.kept {S : Nat → Prop} {w w' : World} {q : Nat} {g : Nat → ByteArray} {na : Option Addr} {nc : Nat} (hk : ∀ k, S k → w'.heap[k]? = w.heap[k]?) (h : NamesS S w q g na nc) : NamesS S w' q g na nc := by
  obtain ⟨h1, h2, h3, h4⟩ := h
  refine ⟨h1, h2, h3, fun h0 => ?_⟩
  obtain ⟨b, o, h5, h7, h6⟩ := h4 h0
  exact ⟨b, o, h5, h7, fun i hi => cell_kept (h6 i hi) (hk b h7)⟩
set_option maxRecDepth 100000 in
theorem LiesS.kept {S : Nat → Prop} {w w' : World} (hk : ∀ k, S k → w'.heap[k]? = w.heap[k]?) {t : Tr} {x : Ad} (h : LiesS S w t x) : LiesS S w' t x := by
  induction h with
  | mk A h1 hn hs hm hp _ hq ih =>
    refine .mk A h1 hn hs hm (fun h0 => ?_) ih (hq.kept hk)
    obtain ⟨b, o, h1, h3, h2⟩ := hp h0
    exact ⟨b, o, h1, h3, fun i hi => (h2 i hi).kept (hk b h3)⟩
set_option maxRecDepth 100000 in
theorem NamesS.up {S T : Nat → Prop} (hST : ∀ k, S k → T k) {w : World} {q : Nat} {g : Nat → ByteArray} {na : Option Addr} {nc : Nat} (h : NamesS S w q g na nc) : NamesS T w q g na nc := by
  obtain ⟨h1, h2, h3, h4⟩ := h
  refine ⟨h1, h2, h3, fun h0 => ?_⟩
  obtain ⟨b, o, h5, h7, h6⟩ := h4 h0
  exact ⟨b, o, h5, hST b h7, h6⟩
set_option maxRecDepth 100000 in
theorem LiesS.up {S T : Nat → Prop} (hST : ∀ k, S k → T k) {w : World} {t : Tr} {x : Ad} (h : LiesS S w t x) : LiesS T w t x := by
  induction h with
  | mk A hk hn hs hm hp _ hq ih =>
    refine .mk A hk hn hs hm (fun h0 => ?_) ih (hq.up hST)
    obtain ⟨b, o, h1, h3, h2⟩ := hp h0
    exact ⟨b, o, h1, hST b h3, h2⟩
set_option maxRecDepth 100000 in
theorem Names.later {B : Nat} {w w' : World} {q : Nat} {g : Nat → ByteArray} {na : Option Addr} {nc : Nat} (h : Names B w q g na nc) (hb : Below B w w') : Names B w' q g na nc := NamesS.kept (fun k hk => hb.block k hk) h
set_option maxRecDepth 100000 in
theorem Lies.later {B : Nat} {w w' : World} (hb : Below B w w') {t : Tr} {x : Ad} (h : Lies B w t x) : Lies B w' t x := LiesS.kept (fun k hk => hb.block k hk) h
set_option maxRecDepth 100000 in
theorem Lies.up {B C : Nat} (hBC : B ≤ C) {w : World} {t : Tr} {x : Ad} (h : Lies B w t x) : Lies C w t x := LiesS.up (fun _ hk => Nat.lt_of_lt_of_le hk hBC) h
set_option maxRecDepth 100000 in
theorem LiesS.part {S : Nat → Prop} {w : World} {k : Int} {b : Bool} {n : Int} {s : ByteArray} {m : Nat} {f : Nat → Tr} {q : Nat} {g : Nat → ByteArray} {x : Ad} (h : LiesS S w (.mk k b n s m f q g) x) :
    ∃ A : Nat → Ad, (0 < m → ∃ b o, x.pa = some ⟨b, o, none⟩ ∧ S b ∧ ∀ i, i < m → At6 w b (o + i * 6) (f i) (A i)) ∧ ∀ i, i < m → LiesS S w (f i) (A i) := by
  cases h with
  | mk A _ _ _ _ hp hr _ => exact ⟨A, hp, hr⟩
set_option maxRecDepth 100000 in
theorem Lies.part {B : Nat} {w : World} {k : Int} {b : Bool} {n : Int} {s : ByteArray} {m : Nat} {f : Nat → Tr} {q : Nat} {g : Nat → ByteArray} {x : Ad} (h : Lies B w (.mk k b n s m f q g) x) :
    ∃ A : Nat → Ad, (0 < m → ∃ b o, x.pa = some ⟨b, o, none⟩ ∧ b < B ∧ ∀ i, i < m → At6 w b (o + i * 6) (f i) (A i)) ∧ ∀ i, i < m → Lies B w (f i) (A i) := LiesS.part h
set_option maxRecDepth 100000 in
theorem LiesS.lims {S : Nat → Prop} {w : World} {t : Tr} {x : Ad} (h : LiesS S w t x) :
    (-9223372036854775808 ≤ t.k ∧ t.k < 9223372036854775808) ∧ (-9223372036854775808 ≤ t.n ∧ t.n < 9223372036854775808) ∧ t.s.size ≤ maxLen ∧ (t.m ≤ x.pc ∧ x.pc ≤ maxLen) ∧ NamesS S w t.q t.g x.na x.nc := by
  cases h with
  | mk A hk hn hs hm hp hr hq => exact ⟨hk, hn, hs, hm, hq⟩
set_option maxRecDepth 100000 in
theorem Lies.lims {B : Nat} {w : World} {t : Tr} {x : Ad} (h : Lies B w t x) :
    (-9223372036854775808 ≤ t.k ∧ t.k < 9223372036854775808) ∧ (-9223372036854775808 ≤ t.n ∧ t.n < 9223372036854775808) ∧ t.s.size ≤ maxLen ∧ (t.m ≤ x.pc ∧ x.pc ≤ maxLen) ∧ Names B w t.q t.g x.na x.nc := LiesS.lims h
set_option maxRecDepth 100000 in
theorem LiesS.no {S : Nat → Prop} {w : World} {x : Ad} (h : LiesS S w .no x) : False := by cases h
set_option maxRecDepth 100000 in
theorem Lies.no {B : Nat} {w : World} {x : Ad} (h : Lies B w .no x) : False := LiesS.no h
end Go.Proofs.YtnnclhmhbmbkfaaGreatDoor.V
namespace Go.Proofs.YtnnclhmhbmbkfaaGreatDoor.V
open Go.RowKit
def flat : Nat → (Nat → List Value) → List Value
  | 0, _ => []
  | n + 1, F => flat n F ++ F n
set_option maxRecDepth 100000 in
theorem flat_congr {F G : Nat → List Value} : ∀ {n : Nat}, (∀ j, j < n → F j = G j) → flat n F = flat n G
  | 0, _ => rfl
  | n + 1, h => by
    show flat n F ++ F n = flat n G ++ G n
    rw [flat_congr (fun j hj => h j (by omega)), h n (by omega)]
set_option maxRecDepth 100000 in
theorem flat_len {F : Nat → List Value} (h : ∀ j, (F j).length = 6) : ∀ n, (flat n F).length = n * 6
  | 0 => rfl
  | n + 1 => by
    show (flat n F ++ F n).length = _
    rw [List.length_append, flat_len h n, h n]; omega
set_option maxRecDepth 100000 in
theorem flat_get {F : Nat → List Value} (h : ∀ j, (F j).length = 6) : ∀ n i c, i < n → c < 6 → (flat n F)[i * 6 + c]? = (F i)[c]?
  | 0, i, c, hi, _ => by omega
  | n + 1, i, c, hi, hc => by
    show (flat n F ++ F n)[i * 6 + c]? = _
    rcases Nat.lt_or_ge i n with k | k
    · rw [List.getElem?_append_left (by rw [flat_len h n]; omega)]
      exact flat_get h n i c k hc
    · obtain rfl : i = n := by omega
      rw [List.getElem?_append_right (by rw [flat_len h]; omega), flat_len h]
      congr 1
      omega
structure Mine (e : TypeId) (S : Nat → Prop) (base : Nat) (wr : World) (v : Value) (i : Nat) (T : Nat → Tr) (A : Nat → Ad) : Prop where
  own : wr.ownsRow base e 6 v i (flat i (fun j => (T j).cs (A j)))
  lies : ∀ j, j < i → LiesS (fun k => S k ∨ (base ≤ k ∧ k < wr.heap.size ∧ some k ≠ v.ownBlock)) wr (T j) (A j)
set_option maxRecDepth 100000 in
theorem cs_len (t : Tr) (x : Ad) : (t.cs x).length = 6 := rfl
set_option maxRecDepth 100000 in
theorem Mine.start (e : TypeId) (S : Nat → Prop) (base : Nat) (wr : World) (T : Nat → Tr) (A : Nat → Ad) : Mine e S base wr (.slice none 0 0) 0 T A :=
  ⟨⟨rfl, Or.inl ⟨rfl, rfl⟩⟩, fun j hj => by omega⟩
set_option maxRecDepth 100000 in
theorem Mine.kept {e : TypeId} {S : Nat → Prop} {base : Nat} {w w' : World} {v : Value} {i : Nat} {T : Nat → Tr} {A : Nat → Ad} (h : Mine e S base w v i T A) (hsz : w.heap.size ≤ w'.heap.size)
    (hS : ∀ k, S k → w'.heap[k]? = w.heap[k]?) (hk : ∀ k, base ≤ k → k < w.heap.size → w'.heap[k]? = w.heap[k]?) : Mine e S base w' v i T A := by
  refine ⟨⟨h.own.1, ?_⟩, fun j hj => ?_⟩
  · rcases h.own.2 with h1 | ⟨g, cap, cur, h1, h2, h3, h4⟩
    · exact Or.inl h1
    · exact Or.inr ⟨g, cap, cur, h1, h2, (hk g h2 (lt_of_row h3)).trans h3, h4⟩
  · refine (LiesS.kept (w' := w') (fun k hh => ?_) (h.lies j hj)).up (fun k hh => ?_)
    · rcases hh with hh | ⟨h1, h2, _⟩
      · exact hS k hh
      · exact hk k h1 h2
    · rcases hh with hh | ⟨h1, h2, h3⟩
      · exact Or.inl hh
      · exact Or.inr ⟨h1, by omega, h3⟩
set_option maxRecDepth 100000 in
theorem Mine.step {e : TypeId} {S : Nat → Prop} {base : Nat} {wr w2 w3 : World} {v : Value} {i : Nat} {T : Nat → Tr} {A : Nat → Ad} {a : Ad} {g cap H : Nat} (h : Mine e S base w2 v i T A)
    (hwr : wr.heap.size ≤ w2.heap.size) (hbase : base ≤ wr.heap.size) (hvw : ∀ k, v.ownBlock = some k → k < wr.heap.size) (hSw : ∀ k, S k → k < base)
    (hT : LiesS (fun k => S k ∨ (wr.heap.size ≤ k ∧ k < w2.heap.size)) w2 (T i) a)
    (hown : w3.ownsRow base e 6 (.slice (some ⟨g, 0, none⟩) (i + 1) cap) (i + 1) (flat i (fun j => (T j).cs (A j)) ++ (T i).cs a)) (hgr : w2.grownBy w3 v.ownBlock) (hat : v.ownBlock = some g ∨ g = H) (hH : w2.heap.size = H) :
    Mine e S base w3 (.slice (some ⟨g, 0, none⟩) (i + 1) cap) (i + 1) T (fun j => if j = i then a else A j) := by
  subst hH
  have hob : ∀ k, v.ownBlock = some k → base ≤ k := fun k hk => by
    rcases h.own.2 with ⟨rfl, _⟩ | ⟨g', cap', cur, rfl, h2, _⟩
    · cases hk
    · injection hk with hk
      have hk' : g' = k := hk
      omega
  refine ⟨?_, fun j hj => ?_⟩
  · have e1 : flat (i + 1) (fun j => (T j).cs (if j = i then a else A j)) = flat i (fun j => (T j).cs (A j)) ++ (T i).cs a := by
      show flat i (fun j => (T j).cs (if j = i then a else A j)) ++ (T i).cs (if i = i then a else A i) = _
      rw [if_pos rfl, flat_congr (fun j hj => by rw [if_neg (by omega)])]
    rw [e1]
    exact hown
  · have hgo : ∀ k, k < w2.heap.size → some k ≠ v.ownBlock → some k ≠ (Value.slice (some ⟨g, 0, none⟩) (i + 1) cap).ownBlock := fun k hk hne he => by
      injection he with he
      have he' : k = g := he
      rcases hat with h1 | h1
      · rw [h1, he'] at hne; exact hne rfl
      · omega
    have hfix : ∀ k, S k ∨ (base ≤ k ∧ k < w2.heap.size ∧ some k ≠ v.ownBlock) → S k ∨ (base ≤ k ∧ k < w3.heap.size ∧ some k ≠ (Value.slice (some ⟨g, 0, none⟩) (i + 1) cap).ownBlock) := fun k hh => by
      rcases hh with hh | ⟨h1, h2, h3⟩
      · exact Or.inl hh
      · exact Or.inr ⟨h1, Nat.lt_of_lt_of_le h2 hgr.size, hgo k h2 h3⟩
    have hsame : ∀ k, S k ∨ (base ≤ k ∧ k < w2.heap.size ∧ some k ≠ v.ownBlock) → w3.heap[k]? = w2.heap[k]? := fun k hh => by
      rcases hh with hh | ⟨h1, h2, h3⟩
      · have := hSw k hh
        exact hgr.block k (by omega) (fun he => by have := hob k he.symm; omega)
      · exact hgr.block k h2 h3
    by_cases hji : j = i
    · subst hji
      show LiesS _ w3 (T j) (if j = j then a else A j)
      rw [if_pos rfl]
      refine ((hT.up (fun k hh => ?_)).kept hsame).up hfix
      rcases hh with hh | ⟨h1, h2⟩
      · exact Or.inl hh
      · exact Or.inr ⟨by omega, h2, fun he => by have := hvw k he.symm; omega⟩
    · show LiesS _ w3 (T j) (if j = i then a else A j)
      rw [if_neg hji]
      exact ((h.lies j (by omega)).kept hsame).up hfix
set_option maxRecDepth 100000 in
theorem at6_of_flat {w : World} {g : Nat} {cur : Array Value} {e : TypeId} {n : Nat} {T : Nat → Tr} {A : Nat → Ad} {i : Nat} (hg : w.heap[g]? = some (.cells cur e (0, 0))) (hc : cur.toList.take (n * 6) = flat n (fun j => (T j).cs (A j))) (hi : i < n) :
    At6 w g (0 + i * 6) (T i) (A i) := by
  have key : ∀ c, c < 6 → w.cell? ⟨g, i * 6 + c, none⟩ = ((T i).cs (A i))[c]? := fun c hc6 => by
    rw [cell_of_row w g _ cur e _ hg, ← flat_get (F := fun j => (T j).cs (A j)) (fun j => cs_len _ _) n i c hi hc6, ← hc, List.getElem?_take_of_lt (by omega)]
    simp
  rw [Nat.zero_add]
  exact ⟨key 0 (by omega), key 1 (by omega), key 2 (by omega), key 3 (by omega), key 4 (by omega), key 5 (by omega)⟩
set_option maxRecDepth 100000 in
theorem Mine.done {e : TypeId} {S S' : Nat → Prop} {base : Nat} {wr : World} {v : Value} {m : Nat} {T : Nat → Tr} {A : Nat → Ad} (h : Mine e S base wr v m T A) (hS : ∀ k, S k → S' k) (hb : ∀ k, base ≤ k → k < wr.heap.size → S' k) :
    ∃ pa pc, v = .slice pa m pc ∧ (m ≤ pc ∧ pc ≤ maxLen) ∧ (0 < m → ∃ b o, pa = some ⟨b, o, none⟩ ∧ S' b ∧ ∀ i, i < m → At6 wr b (o + i * 6) (T i) (A i)) ∧ ∀ i, i < m → LiesS S' wr (T i) (A i) := by
  have hl : ∀ i, i < m → LiesS S' wr (T i) (A i) := fun i hi => (h.lies i hi).up (fun k hh => by
    rcases hh with hh | ⟨h1, h2, _⟩
    · exact hS k hh
    · exact hb k h1 h2)
  rcases h.own.2 with ⟨rfl, h0⟩ | ⟨g, cap, cur, rfl, h1, h2, h3, h4, _, h6⟩
  · exact ⟨none, 0, by rw [h0], ⟨by omega, by unfold maxLen; omega⟩, fun hm => by omega, hl⟩
  · exact ⟨_, _, rfl, ⟨h3, h4⟩, fun _ => ⟨g, 0, rfl, hb g h1 (lt_of_row h2), fun i hi => at6_of_flat h2 h6 hi⟩, hl⟩
set_option maxRecDepth 100000 in
theorem Mine.block_lt {e : TypeId} {S : Nat → Prop} {base : Nat} {wr : World} {v : Value} {m : Nat} {T : Nat → Tr} {A : Nat → Ad} (h : Mine e S base wr v m T A) : ∀ k, v.ownBlock = some k → k < wr.heap.size := fun k hk => by
  rcases h.own.2 with ⟨rfl, _⟩ | ⟨g, cap, cur, rfl, _, h2, _⟩
  · cases hk
  · injection hk with hk
    have hk' : g = k := hk
    rw [← hk']
    exact lt_of_row h2
set_option maxRecDepth 100000 in
theorem Mine.block_ge {e : TypeId} {S : Nat → Prop} {base : Nat} {wr : World} {v : Value} {m : Nat} {T : Nat → Tr} {A : Nat → Ad} (h : Mine e S base wr v m T A) : ∀ k, v.ownBlock = some k → base ≤ k := fun k hk => by
  rcases h.own.2 with ⟨rfl, _⟩ | ⟨g, cap, cur, rfl, h2, _⟩
  · cases hk
  · injection hk with hk
    have hk' : g = k := hk
    omega
set_option maxRecDepth 100000 in
theorem info25 : (Tryz.prog.info? 25).map (fun i => (i.zero, i.size, i.bytes)) = some (some (.agg #[.int .i64 0, .bool false, .int .i64 0, .string ⟨#[]⟩, .slice none 0 0, .slice none 0 0]), 6, 88) := by kernel_rfl
set_option maxRecDepth 100000 in
theorem info33 : (Tryz.prog.info? 38).map (fun i => (i.zero, i.size, i.bytes)) = some (some (.agg #[.int .i64 0, .bool false, .int .i64 0, .string ⟨#[]⟩, .slice none 0 0, .slice none 0 0]), 6, 88) := by kernel_rfl
def set6 (w : World) (z : Nat) (c0 c1 c2 c3 c4 c5 : Value) : World :=
  (((((w.setCell ⟨z, 0, none⟩ c0).setCell ⟨z, 1, none⟩ c1).setCell ⟨z, 2, none⟩ c2).setCell ⟨z, 3, none⟩ c3).setCell ⟨z, 4, none⟩ c4).setCell ⟨z, 5, none⟩ c5
set_option maxRecDepth 100000 in
theorem set6_block (w : World) (z : Nat) (c0 c1 c2 c3 c4 c5 : Value) (k : Nat) (h : k ≠ z) : (set6 w z c0 c1 c2 c3 c4 c5).heap[k]? = w.heap[k]? := by
  unfold set6
  rw [Below.heap_setCell _ _ _ k h, Below.heap_setCell _ _ _ k h, Below.heap_setCell _ _ _ k h, Below.heap_setCell _ _ _ k h, Below.heap_setCell _ _ _ k h, Below.heap_setCell _ _ _ k h]
set_option maxRecDepth 100000 in
theorem set6_size (w : World) (z : Nat) (c0 c1 c2 c3 c4 c5 : Value) : (set6 w z c0 c1 c2 c3 c4 c5).heap.size = w.heap.size := by unfold set6; simp
set_option maxRecDepth 100000 in
theorem set6_below {B : Nat} {a w : World} (hb : Below B a w) (z : Nat) (hz : B ≤ z) (c0 c1 c2 c3 c4 c5 : Value) : Below B a (set6 w z c0 c1 c2 c3 c4 c5) :=
  (((((hb.setCell (p := ⟨z, 0, none⟩) hz c0).setCell (p := ⟨z, 1, none⟩) hz c1).setCell (p := ⟨z, 2, none⟩) hz c2).setCell (p := ⟨z, 3, none⟩) hz c3).setCell (p := ⟨z, 4, none⟩) hz c4).setCell (p := ⟨z, 5, none⟩) hz c5
set_option maxRecDepth 100000 in
theorem set6_row {w : World} {z : Nat} {t : TypeId} {fr : Nat × Nat} {a0 a1 a2 a3 a4 a5 : Value} (h : w.heap[z]? = some (.cells #[a0, a1, a2, a3, a4, a5] t fr)) (c0 c1 c2 c3 c4 c5 : Value) :
    (set6 w z c0 c1 c2 c3 c4 c5).heap[z]? = some (.cells #[c0, c1, c2, c3, c4, c5] t fr) :=
  row_setCell (k := 5) (row_setCell (k := 4) (row_setCell (k := 3) (row_setCell (k := 2) (row_setCell (k := 1) (row_setCell (k := 0) h c0) c1) c2) c3) c4) c5
end Go.Proofs.YtnnclhmhbmbkfaaGreatDoor.V
namespace Go.Proofs.YtnnclhmhbmbkfaaGreatDoor.V
open Go.RowKit
structure Twin (n : Option Nat) (base : Nat) (wr : World) (v : Value) (i : Nat) (T : Nat → Tr) (A : Nat → Ad) : Prop where
  own : wr.ownsRow base 25 6 v i (flat i (fun j => (T j).cs (A j)))
  lies : ∀ j, j < i → LiesS (fun k => base ≤ k ∧ k < wr.heap.size ∧ some k ≠ v.ownBlock ∧ some k ≠ n) wr (T j) (A j)
def strs (l : List ByteArray) : List Value := l.map Value.string
def Nms (base : Nat) (wr : World) (v : Value) (l : List ByteArray) : Prop := wr.ownsRow base 9 1 v l.length (strs l)
set_option maxRecDepth 100000 in
theorem Twin.start (n : Option Nat) (base : Nat) (wr : World) (T : Nat → Tr) (A : Nat → Ad) : Twin n base wr (.slice none 0 0) 0 T A := ⟨⟨rfl, Or.inl ⟨rfl, rfl⟩⟩, fun j hj => by omega⟩
set_option maxRecDepth 100000 in
theorem Nms.start (base : Nat) (wr : World) : Nms base wr (.slice none 0 0) [] := ⟨rfl, Or.inl ⟨rfl, rfl⟩⟩
set_option maxRecDepth 100000 in
theorem own_lt {wr : World} {base : Nat} {e : TypeId} {size : Nat} {v : Value} {n : Nat} {xs : List Value} (h : wr.ownsRow base e size v n xs) : ∀ k, v.ownBlock = some k → base ≤ k ∧ k < wr.heap.size ∧ ∃ cs, wr.heap[k]? = some (.cells cs e (0, 0)) := fun k hk => by
  rcases h.2 with ⟨rfl, _⟩ | ⟨g, cap, cur, rfl, h1, h2, _⟩
  · cases hk
  · injection hk with hk
    have hk' : g = k := hk
    subst hk'
    exact ⟨h1, lt_of_row h2, cur, h2⟩
set_option maxRecDepth 100000 in
theorem own_kept {w w' : World} {base : Nat} {e : TypeId} {size : Nat} {v : Value} {n : Nat} {xs : List Value} (h : w.ownsRow base e size v n xs) (hk : ∀ k, v.ownBlock = some k → w'.heap[k]? = w.heap[k]?) : w'.ownsRow base e size v n xs := by
  refine ⟨h.1, ?_⟩
  rcases h.2 with h1 | ⟨g, cap, cur, rfl, h2, h3, h4⟩
  · exact Or.inl h1
  · exact Or.inr ⟨g, cap, cur, rfl, h2, (hk g rfl).trans h3, h4⟩
set_option maxRecDepth 100000 in
theorem own_ne {w : World} {base : Nat} {e e' : TypeId} {size size' : Nat} {v v' : Value} {n n' : Nat} {xs xs' : List Value} (h : w.ownsRow base e size v n xs) (h' : w.ownsRow base e' size' v' n' xs') (he : e ≠ e') : ∀ k, v.ownBlock = some k → some k ≠ v'.ownBlock := fun k hk hk' => by
  obtain ⟨_, _, cs, h1⟩ := own_lt h k hk
  obtain ⟨_, _, cs', h2⟩ := own_lt h' k hk'.symm
  rw [h1] at h2
  injection h2 with h2
  injection h2 with _ h3 _
  exact he h3
set_option maxRecDepth 100000 in
theorem Twin.kept {n : Option Nat} {base : Nat} {w w' : World} {v : Value} {i : Nat} {T : Nat → Tr} {A : Nat → Ad} (h : Twin n base w v i T A) (hsz : w.heap.size ≤ w'.heap.size) (hk : ∀ k, base ≤ k → k < w.heap.size → w'.heap[k]? = w.heap[k]?) : Twin n base w' v i T A :=
  ⟨own_kept h.own (fun k hv => hk k (own_lt h.own k hv).1 (own_lt h.own k hv).2.1), fun j hj => (LiesS.kept (w' := w') (fun k hh => hk k hh.1 hh.2.1) (h.lies j hj)).up (fun k hh => ⟨hh.1, by omega, hh.2.2⟩)⟩
set_option maxRecDepth 100000 in
theorem Nms.kept {base : Nat} {w w' : World} {v : Value} {l : List ByteArray} (h : Nms base w v l) (hk : ∀ k, base ≤ k → k < w.heap.size → w'.heap[k]? = w.heap[k]?) : Nms base w' v l := own_kept h (fun k hv => hk k (own_lt h k hv).1 (own_lt h k hv).2.1)
set_option maxRecDepth 100000 in
theorem Twin.named {base : Nat} {w2 w3 : World} {v u : Value} {l : List ByteArray} {i : Nat} {T : Nat → Tr} {A : Nat → Ad} {g cap c : Nat} (h : Twin u.ownBlock base w2 v i T A) (hN : Nms base w2 u l) (hgr : w2.grownBy w3 u.ownBlock) (hat : u.ownBlock = some g ∨ g = w2.heap.size) :
    Twin (Value.slice (some ⟨g, 0, none⟩) c cap).ownBlock base w3 v i T A := by
  refine ⟨own_kept h.own (fun k hv => hgr.block k (own_lt h.own k hv).2.1 (own_ne h.own hN (by decide) k hv)), fun j hj => ?_⟩
  refine (LiesS.kept (w' := w3) (fun k hh => hgr.block k hh.2.1 hh.2.2.2) (h.lies j hj)).up (fun k hh => ⟨hh.1, Nat.lt_of_lt_of_le hh.2.1 hgr.size, hh.2.2.1, fun he => ?_⟩)
  injection he with he
  have he' : k = g := he
  rcases hat with h1 | h1
  · exact hh.2.2.2 (by rw [h1, he'])
  · omega
set_option maxRecDepth 100000 in
theorem Twin.step {n : Option Nat} {base : Nat} {wr w2 w3 : World} {v : Value} {i : Nat} {T : Nat → Tr} {A : Nat → Ad} {a : Ad} {g cap : Nat} (h : Twin n base w2 v i T A)
    (_hwr : wr.heap.size ≤ w2.heap.size) (hbase : base ≤ wr.heap.size) (hvw : ∀ k, v.ownBlock = some k → k < wr.heap.size) (hnw : ∀ k, n = some k → k < wr.heap.size)
    (hT : LiesS (fun k => wr.heap.size ≤ k ∧ k < w2.heap.size) w2 (T i) a)
    (hown : w3.ownsRow base 25 6 (.slice (some ⟨g, 0, none⟩) (i + 1) cap) (i + 1) (flat i (fun j => (T j).cs (A j)) ++ (T i).cs a)) (hgr : w2.grownBy w3 v.ownBlock) (hat : v.ownBlock = some g ∨ g = w2.heap.size) :
    Twin n base w3 (.slice (some ⟨g, 0, none⟩) (i + 1) cap) (i + 1) T (fun j => if j = i then a else A j) := by
  refine ⟨?_, fun j hj => ?_⟩
  · have e1 : flat (i + 1) (fun j => (T j).cs (if j = i then a else A j)) = flat i (fun j => (T j).cs (A j)) ++ (T i).cs a := by
      show flat i (fun j => (T j).cs (if j = i then a else A j)) ++ (T i).cs (if i = i then a else A i) = _
      rw [if_pos rfl, flat_congr (fun j hj => by rw [if_neg (by omega)])]
    rw [e1]
    exact hown
  · have hfix : ∀ k, (base ≤ k ∧ k < w2.heap.size ∧ some k ≠ v.ownBlock ∧ some k ≠ n) → (base ≤ k ∧ k < w3.heap.size ∧ some k ≠ (Value.slice (some ⟨g, 0, none⟩) (i + 1) cap).ownBlock ∧ some k ≠ n) := fun k hh => ⟨hh.1, Nat.lt_of_lt_of_le hh.2.1 hgr.size, fun he => by
      injection he with he
      have he' : k = g := he
      rcases hat with h1 | h1
      · exact hh.2.2.1 (by rw [h1, he'])
      · omega, hh.2.2.2⟩
    by_cases hji : j = i
    · subst hji
      show LiesS _ w3 (T j) (if j = j then a else A j)
      rw [if_pos rfl]
      refine ((hT.up (fun k hh => ?_)).kept (fun k (hh : base ≤ k ∧ k < w2.heap.size ∧ some k ≠ v.ownBlock ∧ some k ≠ n) => hgr.block k hh.2.1 hh.2.2.1)).up hfix
      exact ⟨by omega, hh.2, fun he => by have := hvw k he.symm; omega, fun he => by have := hnw k he.symm; omega⟩
    · show LiesS _ w3 (T j) (if j = i then a else A j)
      rw [if_neg hji]
      exact ((h.lies j (by omega)).kept (fun k hh => hgr.block k hh.2.1 hh.2.2.1)).up hfix
set_option maxRecDepth 100000 in
theorem Nms.parts {base : Nat} {w2 w3 : World} {v u : Value} {l : List ByteArray} {i : Nat} {xs : List Value} (hN : Nms base w2 u l) (h : w2.ownsRow base 25 6 v i xs) (hgr : w2.grownBy w3 v.ownBlock) : Nms base w3 u l :=
  own_kept hN (fun k hv => hgr.block k (own_lt hN k hv).2.1 (own_ne hN h (by decide) k hv))
set_option maxRecDepth 100000 in
theorem Twin.done {n : Option Nat} {S : Nat → Prop} {base : Nat} {wr : World} {v : Value} {m : Nat} {T : Nat → Tr} {A : Nat → Ad} (h : Twin n base wr v m T A) (hb : ∀ k, base ≤ k → k < wr.heap.size → S k) :
    ∃ pa pc, v = .slice pa m pc ∧ (m ≤ pc ∧ pc ≤ maxLen) ∧ (0 < m → ∃ b o, pa = some ⟨b, o, none⟩ ∧ S b ∧ ∀ i, i < m → At6 wr b (o + i * 6) (T i) (A i)) ∧ ∀ i, i < m → LiesS S wr (T i) (A i) := by
  have hl : ∀ i, i < m → LiesS S wr (T i) (A i) := fun i hi => (h.lies i hi).up (fun k hh => hb k hh.1 hh.2.1)
  rcases h.own.2 with ⟨rfl, h0⟩ | ⟨g, cap, cur, rfl, h1, h2, h3, h4, _, h6⟩
  · exact ⟨none, 0, by rw [h0], ⟨by omega, by unfold maxLen; omega⟩, fun hm => by omega, hl⟩
  · exact ⟨_, _, rfl, ⟨h3, h4⟩, fun _ => ⟨g, 0, rfl, hb g h1 (lt_of_row h2), fun i hi => at6_of_flat h2 h6 hi⟩, hl⟩
set_option maxRecDepth 100000 in
theorem Nms.done {S : Nat → Prop} {base : Nat} {wr : World} {u : Value} {l : List ByteArray} (h : Nms base wr u l) (hs : ∀ s ∈ l, s.size ≤ maxLen) (hb : ∀ k, base ≤ k → k < wr.heap.size → S k) :
    ∃ na nc, u = .slice na l.length nc ∧ NamesS S wr l.length (fun i => l.getD i ⟨#[]⟩) na nc := by
  have hsz : ∀ i, i < l.length → (l.getD i ⟨#[]⟩).size ≤ maxLen := fun i hi => by
    rw [List.getD_eq_getElem?_getD, List.getElem?_eq_getElem hi]
    exact hs _ (List.getElem_mem hi)
  rcases h.2 with ⟨rfl, h0⟩ | ⟨g, cap, cur, rfl, h1, h2, h3, h4, _, h6⟩
  · exact ⟨none, 0, by rw [h0], by omega, by unfold maxLen; omega, hsz, fun hm => by omega⟩
  · refine ⟨_, _, rfl, h3, h4, hsz, fun _ => ⟨g, 0, rfl, hb g h1 (lt_of_row h2), fun i hi => ?_⟩⟩
    rw [Nat.zero_add, cell_of_row wr g i cur _ _ h2]
    have h7 : (cur.toList.take (l.length * 1))[i]? = (strs l)[i]? := by rw [h6]
    rw [List.getElem?_take_of_lt (by omega)] at h7
    rw [← Array.getElem?_toList, h7, strs, List.getElem?_map, List.getElem?_eq_getElem hi]
    show _ = some (Value.string (l.getD i ⟨#[]⟩))
    rw [List.getD_eq_getElem?_getD, List.getElem?_eq_getElem hi]
    rfl
set_option maxRecDepth 100000 in
theorem info9 : (Tryz.prog.info? 9).map (fun i => (i.zero, i.size, i.bytes)) = some (some (.string ⟨#[]⟩), 1, 16) := by kernel_rfl
end Go.Proofs.YtnnclhmhbmbkfaaGreatDoor.V
namespace Go.Proofs.YtnnclhmhbmbkfaaGreatDoor.V
open Go.RowKit
set_option maxRecDepth 100000 in
theorem tk_bad {n i : Nat} {b : UInt8} {r : List UInt8} (h : (0 < i ∧ b.toNat = 0) ∨ (i = 9 ∧ 1 < b.toNat)) : tk n i (b :: r) = ⟨0, 0, 6⟩ := by unfold tk; rw [if_pos h]
set_option maxRecDepth 100000 in
theorem tk_end {n i : Nat} {b : UInt8} {r : List UInt8} (h : ¬ ((0 < i ∧ b.toNat = 0) ∨ (i = 9 ∧ 1 < b.toNat))) (h2 : b.toNat < 128) : tk n i (b :: r) = ⟨n + b.toNat % 128 * 128 ^ i, i + 1, 0⟩ := by unfold tk; rw [if_neg h, if_pos h2]
set_option maxRecDepth 100000 in
theorem tk_on {n i : Nat} {b : UInt8} {r : List UInt8} (h : ¬ ((0 < i ∧ b.toNat = 0) ∨ (i = 9 ∧ 1 < b.toNat))) (h2 : ¬ b.toNat < 128) : tk n i (b :: r) = tk (n + b.toNat % 128 * 128 ^ i) (i + 1) r := by rw [tk, if_neg h, if_neg h2]
set_option maxRecDepth 100000 in
theorem drop_at (s : ByteArray) (i : Nat) (h : i < s.size) : s.data.toList.drop i = s[i] :: s.data.toList.drop (i + 1) := by
  have hl : i < s.data.toList.length := by simpa using h
  rw [List.drop_eq_getElem_cons hl]; rfl
set_option maxRecDepth 100000 in
theorem pow128 (i : Nat) : (2 : Nat) ^ (i * 7) = 128 ^ i := by
  rw [Nat.mul_comm, Nat.pow_mul]
set_option maxRecDepth 100000 in
theorem or_val {n i b : Nat} (hi : i ≤ 9) (hn : n < 128 ^ i) (hb : i = 9 → b ≤ 1) : bits BinOp.or IntKind.u64 (n : Int) (IntKind.u64.wrap ((b : Int) % 128 * 2 ^ (i * 7))) = ((n + b % 128 * 128 ^ i : Nat) : Int) := by
  have h64 := step_lt64 hi hn hb
  have e : ((b : Int) % 128 * 2 ^ (i * 7)) = ((b % 128 * 128 ^ i : Nat) : Int) := by
    rw [← pow128]; push_cast; rfl
  rw [e, IntKind.wrap_u64, Int.emod_eq_of_lt (by omega) (by omega), u64_or_nat _ _ (by omega) (by omega)]
  congr 1
  rw [← pow128] at hn ⊢
  rw [Nat.mul_comm (b % 128), Nat.add_comm n, Nat.two_pow_add_eq_or_of_lt hn, Nat.or_comm]
set_option maxRecDepth 100000 in
theorem or_val9 {n b : Nat} (hn : n < 128 ^ 9) (hb : b ≤ 1) : bits BinOp.or IntKind.u64 (n : Int) ((b : Int) % 128 * 9223372036854775808) = ((n + b % 128 * 128 ^ 9 : Nat) : Int) := by
  have h := or_val (i := 9) (b := b) (by omega) hn (fun _ => hb)
  rw [← h]
  congr 1
  rw [IntKind.wrap_u64]
  have e : (2 : Int) ^ (9 * 7) = 9223372036854775808 := by decide
  rw [e]
  omega
set_option maxRecDepth 100000 in
theorem or_val0 {n b : Nat} (hn : n < 128 ^ 0) : bits BinOp.or IntKind.u64 (n : Int) ((b : Int) % 128) = ((n + b % 128 * 128 ^ 0 : Nat) : Int) := by
  have h := or_val (i := 0) (b := b) (by omega) hn (by omega)
  rw [← h]
  congr 1
  rw [IntKind.wrap_u64]
  simp only [Nat.zero_mul, Int.pow_zero, Int.mul_one]
  omega
end Go.Proofs.YtnnclhmhbmbkfaaGreatDoor.V
namespace Go.Proofs.YtnnclhmhbmbkfaaGreatDoor.V
open Go.RowKit
set_option maxRecDepth 100000 in
theorem drop_extract (s : ByteArray) (o : Nat) : (s.extract o s.size).data.toList = s.data.toList.drop o := by
  rw [Lib.extract_data, List.take_of_length_le]
  rw [List.length_drop, ← Lib.size_eq]; exact Nat.le_refl _
def cnt (T : Tk) (most : Int) : Tk := if T.er = 0 ∧ (most < 0 ∨ most < (T.n : Int)) then ⟨0, 0, 3⟩ else T
set_option maxRecDepth 100000 in
theorem extract2 (s : ByteArray) (a n : Nat) (h : a + n ≤ s.size) : (s.extract a s.size).extract 0 n = s.extract a (a + n) := by
  have e : ((s.extract a s.size).extract 0 n).data.toList = (s.extract a (a + n)).data.toList := by
    rw [Lib.extract_data, Lib.extract_data, Lib.extract_data, List.drop_zero, Nat.sub_zero, List.take_take]
    congr 1; omega
  have e2 := Array.toList_inj.mp e
  exact ByteArray.ext e2
end Go.Proofs.YtnnclhmhbmbkfaaGreatDoor.V
namespace Go.Proofs.YtnnclhmhbmbkfaaGreatDoor.V
open Go.RowKit
end Go.Proofs.YtnnclhmhbmbkfaaGreatDoor.V
namespace Go.Proofs.YtnnclhmhbmbkfaaGreatDoor.V
open Go.RowKit
structure Ans (α : Type) where
  v : α
  o : Nat
  e : Int
def tkA (s : ByteArray) (o : Nat) : Tk := tk 0 0 (s.data.toList.drop o)
set_option maxRecDepth 100000 in
theorem tkA_err {s : ByteArray} {o : Nat} : (tkA s o).er ≠ 0 → (tkA s o).n = 0 ∧ (tkA s o).sz = 0 := tk_err
set_option maxRecDepth 100000 in
theorem tkA_bound {s : ByteArray} {o : Nat} (ho : o ≤ s.size) : (tkA s o).n < 18446744073709551616 ∧ o + (tkA s o).sz ≤ s.size ∧ (tkA s o).sz ≤ 10 := by
  obtain ⟨h1, h2, h3⟩ := tk_bound (r := s.data.toList.drop o) (n := 0) (i := 0) (by omega) (by decide)
  refine ⟨h1, ?_, h3⟩
  rw [List.length_drop, ← Lib.size_eq] at h2
  show o + (tk 0 0 (s.data.toList.drop o)).sz ≤ s.size
  omega
def uintA (s : ByteArray) (o : Nat) (er : Int) : Ans Nat := if er = 0 then ⟨(tkA s o).n, o + (tkA s o).sz, (tkA s o).er⟩ else ⟨0, o, er⟩
def zag (n : Nat) : Int := if n % 2 = 1 then -((n / 2 : Nat) : Int) - 1 else ((n / 2 : Nat) : Int)
def countA (s : ByteArray) (o : Nat) (er m : Int) : Ans Nat := if er = 0 then ⟨(cnt (tkA s o) m).n, o + (cnt (tkA s o) m).sz, (cnt (tkA s o) m).er⟩ else ⟨0, o, er⟩
set_option maxRecDepth 100000 in
theorem cnt_err {T : Tk} {m : Int} (h : T.er ≠ 0 → T.n = 0 ∧ T.sz = 0) : (cnt T m).er ≠ 0 → (cnt T m).n = 0 ∧ (cnt T m).sz = 0 := by
  unfold cnt
  split
  · exact fun _ => ⟨rfl, rfl⟩
  · exact h
set_option maxRecDepth 100000 in
theorem cnt_sz {T : Tk} {m : Int} : (cnt T m).sz ≤ T.sz ∧ (cnt T m).n ≤ T.n := by
  unfold cnt
  split
  · exact ⟨Nat.zero_le _, Nat.zero_le _⟩
  · exact ⟨Nat.le_refl _, Nat.le_refl _⟩
set_option maxRecDepth 100000 in
theorem cnt_most {T : Tk} {m : Int} (h : (cnt T m).er = 0) : 0 ≤ m ∧ ((cnt T m).n : Int) ≤ m := by
  unfold cnt at h ⊢
  split
  · rename_i h1; rw [if_pos h1] at h; exact absurd h (by decide)
  · rename_i h1; rw [if_neg h1] at h
    have : ¬ (m < 0 ∨ m < (T.n : Int)) := fun k => h1 ⟨h, k⟩
    omega
set_option maxRecDepth 100000 in
theorem uintA_lt {s : ByteArray} {o : Nat} {er : Int} (ho : o ≤ s.size) : (uintA s o er).v < 18446744073709551616 := by
  unfold uintA
  split
  · exact (tkA_bound ho).1
  · show (0 : Nat) < _; decide
end Go.Proofs.YtnnclhmhbmbkfaaGreatDoor.V
namespace Go.Proofs.YtnnclhmhbmbkfaaGreatDoor.V
open Go.RowKit
def bytesA (s : ByteArray) (o : Nat) (er n : Int) : Ans ByteArray :=
  if er = 0 then (if n < 0 then ⟨⟨#[]⟩, o, 1⟩ else if (s.size : Int) - (o : Int) < n then ⟨⟨#[]⟩, o, 4⟩ else ⟨s.extract o (o + n.toNat), o + n.toNat, 0⟩) else ⟨⟨#[]⟩, o, er⟩
def textA (s : ByteArray) (o : Nat) (er m : Int) : Ans ByteArray :=
  if er = 0 then
    (if (cnt (tkA s o) (min m 1048576)).er = 0 then
      (if s.size < o + (cnt (tkA s o) (min m 1048576)).sz + (cnt (tkA s o) (min m 1048576)).n then ⟨⟨#[]⟩, o, 4⟩
       else ⟨s.extract (o + (cnt (tkA s o) (min m 1048576)).sz) (o + (cnt (tkA s o) (min m 1048576)).sz + (cnt (tkA s o) (min m 1048576)).n), o + (cnt (tkA s o) (min m 1048576)).sz + (cnt (tkA s o) (min m 1048576)).n, 0⟩)
     else ⟨⟨#[]⟩, o, (cnt (tkA s o) (min m 1048576)).er⟩)
  else ⟨⟨#[]⟩, o, er⟩
def byteAt (s : ByteArray) (o : Nat) : Nat := (s.data.toList.getD o 0).toNat
def boolA (s : ByteArray) (o : Nat) (er : Int) : Ans Bool :=
  if er = 0 then (if o < s.size then (if 1 < byteAt s o then ⟨false, o, 6⟩ else ⟨(byteAt s o : Int) == 1, o + 1, 0⟩) else ⟨false, o, 4⟩) else ⟨false, o, er⟩
end Go.Proofs.YtnnclhmhbmbkfaaGreatDoor.V
namespace Go.Proofs.YtnnclhmhbmbkfaaGreatDoor.V
open Go.RowKit
end Go.Proofs.YtnnclhmhbmbkfaaGreatDoor.V
namespace Go.Proofs.YtnnclhmhbmbkfaaGreatDoor.V
open Go.RowKit
set_option maxRecDepth 100000 in
theorem ext1 (s : ByteArray) (o : Nat) (h : o < s.size) : (s.extract o (o + 1)).data.toList = [s.data.toList.getD o 0] := by
  have hl : o < s.data.toList.length := by rw [← Lib.size_eq]; exact h
  rw [Lib.extract_data, List.drop_eq_getElem_cons hl, Nat.add_sub_cancel_left]
  rw [List.getD_eq_getElem?_getD, List.getElem?_eq_getElem hl]
  rfl
set_option maxRecDepth 100000 in
theorem ext1' (s : ByteArray) (o : Nat) (h : o < s.size) : s.extract o (o + 1) = ⟨#[s.data.toList.getD o 0]⟩ := by
  have e := ext1 s o h
  exact ByteArray.ext (Array.toList_inj.mp e)
end Go.Proofs.YtnnclhmhbmbkfaaGreatDoor.V
namespace Go.Proofs.YtnnclhmhbmbkfaaGreatDoor.V
open Go.RowKit
structure Tak where
  t : Tr
  o : Nat
  e : Int
structure St where
  ns : List ByteArray
  ts : List Tr
  o : Nat
  e : Int
def leafT (k : Int) (b : Bool) (n : Int) (s : ByteArray) : Tr := .mk k b n s 0 (fun _ => .no) 0 (fun _ => ⟨#[]⟩)
def nodeT (k : Int) (x : St) : Tr := .mk k false 0 ⟨#[]⟩ x.ts.length (fun i => x.ts.getD i .no) x.ns.length (fun i => x.ns.getD i ⟨#[]⟩)
def nameA (s : ByteArray) (six : Bool) (x : St) : Ans ByteArray := if six then textA s x.o x.e 16 else ⟨⟨#[]⟩, x.o, x.e⟩
def stepA (s : ByteArray) (six : Bool) (T : Nat → Int → Tak) (x : St) : St :=
  ⟨if six then x.ns ++ [(nameA s six x).v] else x.ns, x.ts ++ [(T (nameA s six x).o (nameA s six x).e).t], (T (nameA s six x).o (nameA s six x).e).o, (T (nameA s six x).o (nameA s six x).e).e⟩
def runA (s : ByteArray) (six : Bool) (T : Nat → Int → Tak) (x : St) : Nat → St
  | 0 => x
  | n + 1 => stepA s six T (runA s six T x n)
def nodeA (s : ByteArray) (k o : Nat) (T : Nat → Int → Tak) : Tak :=
  if k = 0 then ⟨leafT 0 false 0 ⟨#[]⟩, o, 0⟩
  else if k = 1 then ⟨leafT 1 (boolA s o 0).v 0 ⟨#[]⟩, (boolA s o 0).o, (boolA s o 0).e⟩
  else if k = 2 then ⟨leafT 2 false (zag (uintA s o 0).v) ⟨#[]⟩, (uintA s o 0).o, (uintA s o 0).e⟩
  else if k = 3 ∨ k = 4 then ⟨leafT k false 0 (textA s o 0 1024).v, (textA s o 0 1024).o, (textA s o 0 1024).e⟩
  else if k = 5 ∨ k = 6 then
    ⟨nodeT k (runA s (k == 6) T ⟨[], [], (countA s o 0 32).o, (countA s o 0 32).e⟩ (countA s o 0 32).v), (runA s (k == 6) T ⟨[], [], (countA s o 0 32).o, (countA s o 0 32).e⟩ (countA s o 0 32).v).o, (runA s (k == 6) T ⟨[], [], (countA s o 0 32).o, (countA s o 0 32).e⟩ (countA s o 0 32).v).e⟩
  else ⟨leafT k false 0 ⟨#[]⟩, o, 6⟩
def takeA (s : ByteArray) : Nat → Nat → Int → Tak
  | 0, o, e => ⟨leafT 0 false 0 ⟨#[]⟩, o, if e = 0 then 30 else e⟩
  | D + 1, o, e => if e = 0 then (if o < s.size then nodeA s (byteAt s o) (o + 1) (takeA s D) else ⟨leafT 0 false 0 ⟨#[]⟩, o, 4⟩) else ⟨leafT 0 false 0 ⟨#[]⟩, o, e⟩
set_option maxRecDepth 100000 in
theorem lies_leaf {S : Nat → Prop} {w : World} {k : Int} {b : Bool} {n : Int} {s : ByteArray} (hk : -9223372036854775808 ≤ k ∧ k < 9223372036854775808) (hn : -9223372036854775808 ≤ n ∧ n < 9223372036854775808) (hs : s.size ≤ maxLen) : LiesS S w (leafT k b n s) ⟨none, 0, none, 0⟩ :=
  .mk (fun _ => ⟨none, 0, none, 0⟩) hk hn hs ⟨Nat.le_refl _, Nat.zero_le _⟩ (fun h => by omega) (fun i hi => by omega) ⟨Nat.le_refl _, Nat.zero_le _, fun i hi => by omega, fun h => by omega⟩
end Go.Proofs.YtnnclhmhbmbkfaaGreatDoor.V
namespace Go.Proofs.YtnnclhmhbmbkfaaGreatDoor.V
open Go.RowKit
set_option maxRecDepth 100000 in
set_option maxHeartbeats 1000000 in
theorem cloneAll_none (a : Option Addr) (c : Nat) (w : World) : Calls Tryz.prog 46 #[.slice a 0 c] w fun r w' => r = .returned (.slice none 0 0) ∧ w' = w := by
  go_enter Tryz.func46, Tryz.ntmps46
  go_wp2
  go_ret
  exact ⟨rfl, rfl⟩
set_option maxRecDepth 100000 in
set_option maxHeartbeats 1000000 in
theorem clone_leaf (k : Int) (b : Bool) (n : Int) (s : ByteArray) (w : World) : Calls Tryz.prog 22 #[(leafT k b n s).val ⟨none, 0, none, 0⟩] w fun r w' => r = .returned ((leafT k b n s).val ⟨none, 0, none, 0⟩) ∧ Below w.heap.size w w' := by
  show Calls Tryz.prog 22 #[.agg #[.int .i64 k, .bool b, .int .i64 n, .string s, .slice none 0 0, .slice none 0 0]] w _
  go_enter Tryz.func22, Tryz.ntmps22
  go_wp2_with fail
  refine (cloneAll_none _ _ _).mono ?_
  rintro r w1 ⟨rfl, rfl⟩
  go_wp2
  exact bodyPost_ret (v := .agg #[.int .i64 k, .bool b, .int .i64 n, .string s, .slice none 0 0, .slice none 0 0]) (by simp [results, Tryz.results22, go_sem]) rfl ⟨rfl, ((Below.refl _ w).alloc (Nat.le_refl _) _).alloc (by simp) _⟩
end Go.Proofs.YtnnclhmhbmbkfaaGreatDoor.V
