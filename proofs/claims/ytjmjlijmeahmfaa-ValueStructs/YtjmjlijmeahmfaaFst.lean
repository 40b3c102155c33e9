/- Plain facts of numbers in bytes: what is taken of bytes (tk), the bytes of a number (put), and that the two are each other's. What a call leaves as it was (Only), a cursor's block (Cur), and the small calls of a cursor: Err, Off, Fail, skip, At; each of a nil cursor and of one that is there. A value as a tree (Tr), what its memory holds (Lies), and that it stays where only new memory is made. The number with which bytes begin (first): of any bytes, at most 8192, the call returns what the plain facts take of them, and changes nothing. The calls of a cursor that look ahead: number, count, piece; of a nil cursor, of one that has an error, and of one that has none. The calls of a cursor that take something: Uint, Int, Count, Bytes, Text, Bool, and End; what each answers, and the cursor behind it, in plain words (the functions ..A). The calls of a cursor that take something: Uint, Int, Count, Bytes, Text, Bool; what each answers, and the cursor behind it, in plain words (the functions ..A). The calls of a cursor that take bytes: Bytes, Text, Bool; what each answers, and the cursor behind it, in plain words. The calls of a cursor that take a text, and yes or no (Text, Bool). The call of a cursor that takes yes or no (Bool). The bytes of a number (Uint): of any number the call returns the bytes that the plain facts have, and nothing that was there has changed. The document's bytes of a number (Uint): of any number the call returns the bytes that the plain facts have, and nothing that was there has changed. The numbers that may be below 0, in bytes (enc.Int and the document's). Texts and yes or no, in bytes (enc.Text, enc.Bool and the document's). -/
import Derived.Test.YtjmjlijmeahmfaaRows
import Derived.WalkKit
import Derived.WalkSpells
import Derived.WalkLawsBesides
import Derived.Deep.QuietTactic
import Derived.BigQuiet
import Derived.Lib.Strings
import Derived.Laws.BitsAllLaws
import Derived.Deep.RegionWith
namespace Go.Proofs.Ytjmjlijmeahmfaa
structure Tk where
  n : Nat
  sz : Nat
  er : Int
def tk : Nat → Nat → List UInt8 → Tk
  | _, _, [] => ⟨0, 0, 4⟩
  | n, i, b :: r =>
    if (0 < i ∧ b.toNat = 0) ∨ (i = 9 ∧ 1 < b.toNat) then ⟨0, 0, 6⟩
    else if b.toNat < 128 then ⟨n + b.toNat % 128 * 128 ^ i, i + 1, 0⟩
    else tk (n + b.toNat % 128 * 128 ^ i) (i + 1) r
def put (n : Nat) : List UInt8 := if n < 128 then [UInt8.ofNat n] else UInt8.ofNat (n % 128 + 128) :: put (n / 128)
  termination_by n
  decreasing_by omega
theorem put_lt {n : Nat} (h : n < 128) : put n = [UInt8.ofNat n] := by rw [put, if_pos h]
theorem put_ge {n : Nat} (h : 128 ≤ n) : put n = UInt8.ofNat (n % 128 + 128) :: put (n / 128) := by rw [put, if_neg (by omega)]
theorem toNat_ofNat_lt {n : Nat} (h : n < 256) : (UInt8.ofNat n).toNat = n := by
  rw [UInt8.toNat_ofNat']; omega
theorem put_len_pos (n : Nat) : 0 < (put n).length := by
  rw [put]; split <;> simp
theorem tk_err {r : List UInt8} : ∀ {n i : Nat}, (tk n i r).er ≠ 0 → (tk n i r).n = 0 ∧ (tk n i r).sz = 0 := by
  induction r with
  | nil => intro n i _; exact ⟨rfl, rfl⟩
  | cons b r ih =>
    intro n i h
    unfold tk at h ⊢
    by_cases h1 : (0 < i ∧ b.toNat = 0) ∨ (i = 9 ∧ 1 < b.toNat)
    · rw [if_pos h1]; exact ⟨rfl, rfl⟩
    · rw [if_neg h1] at h ⊢
      by_cases h2 : b.toNat < 128
      · rw [if_pos h2] at h; exact absurd rfl h
      · rw [if_neg h2] at h ⊢; exact ih h
theorem tk_er {r : List UInt8} : ∀ {n i : Nat}, (tk n i r).er = 0 ∨ (tk n i r).er = 4 ∨ (tk n i r).er = 6 := by
  induction r with
  | nil => intro n i; exact Or.inr (Or.inl rfl)
  | cons b r ih =>
    intro n i
    unfold tk
    by_cases h1 : (0 < i ∧ b.toNat = 0) ∨ (i = 9 ∧ 1 < b.toNat)
    · rw [if_pos h1]; exact Or.inr (Or.inr rfl)
    · rw [if_neg h1]
      by_cases h2 : b.toNat < 128
      · rw [if_pos h2]; exact Or.inl rfl
      · rw [if_neg h2]; exact ih
theorem pow9 {i : Nat} (hi : i ≤ 9) : 128 ^ i ≤ 9223372036854775808 := by
  have : (128 : Nat) ^ i ≤ 128 ^ 9 := Nat.pow_le_pow_right (by omega) hi
  exact Nat.le_trans this (by decide)
theorem step_lt {n i b : Nat} (hn : n < 128 ^ i) : n + b % 128 * 128 ^ i < 128 ^ (i + 1) := by
  have h1 : b % 128 ≤ 127 := by omega
  have h2 : b % 128 * 128 ^ i ≤ 127 * 128 ^ i := Nat.mul_le_mul_right _ h1
  rw [Nat.pow_succ]; omega
theorem step_lt64 {n i b : Nat} (hi : i ≤ 9) (hn : n < 128 ^ i) (hb : i = 9 → b ≤ 1) : n + b % 128 * 128 ^ i < 18446744073709551616 := by
  by_cases h : i = 9
  · subst h
    have hb1 := hb rfl
    have h9 : (128 : Nat) ^ 9 = 9223372036854775808 := by decide
    rw [h9] at hn ⊢
    have : b % 128 ≤ 1 := by omega
    omega
  · have h1 := step_lt (b := b) hn
    have h2 := pow9 (i := i + 1) (by omega)
    omega
theorem tk_bound {r : List UInt8} : ∀ {n i : Nat}, i ≤ 9 → n < 128 ^ i → (tk n i r).n < 18446744073709551616 ∧ (tk n i r).sz ≤ i + r.length ∧ (tk n i r).sz ≤ 10 := by
  induction r with
  | nil => intro n i _ _; exact ⟨by show (0 : Nat) < 18446744073709551616; decide, Nat.zero_le _, Nat.zero_le _⟩
  | cons b r ih =>
    intro n i hi hn
    unfold tk
    by_cases h1 : (0 < i ∧ b.toNat = 0) ∨ (i = 9 ∧ 1 < b.toNat)
    · rw [if_pos h1]; exact ⟨by decide, Nat.zero_le _, Nat.zero_le _⟩
    · rw [if_neg h1]
      have h9 : i = 9 → b.toNat ≤ 1 := fun h => by
        rcases Nat.lt_or_ge 1 b.toNat with hb | hb
        · exact absurd (Or.inr ⟨h, hb⟩) h1
        · exact hb
      by_cases h2 : b.toNat < 128
      · rw [if_pos h2]
        refine ⟨step_lt64 hi hn h9, ?_, ?_⟩
        · simp only [List.length_cons]; omega
        · show i + 1 ≤ 10; omega
      · rw [if_neg h2]
        have hi9 : i ≠ 9 := fun h => by have := h9 h; omega
        obtain ⟨a, b', c⟩ := ih (n := n + b.toNat % 128 * 128 ^ i) (i := i + 1) (by omega) (step_lt hn)
        refine ⟨a, ?_, c⟩
        simp only [List.length_cons]; omega
theorem mul_split (m p : Nat) : m % 128 * p + m / 128 * (p * 128) = m * p := by
  have h := Nat.div_add_mod m 128
  have : m / 128 * (p * 128) = 128 * (m / 128) * p := by
    rw [Nat.mul_comm p 128, ← Nat.mul_assoc, Nat.mul_comm (m / 128) 128]
  rw [this, ← Nat.add_mul, Nat.add_comm, h]
theorem tk_put : ∀ (m n i : Nat) (r : List UInt8), i ≤ 9 → (0 < i → 0 < m) → m * 128 ^ i < 18446744073709551616 →
    tk n i (put m ++ r) = ⟨n + m * 128 ^ i, i + (put m).length, 0⟩ := by
  intro m
  induction m using Nat.strongRecOn with
  | ind m ih =>
    intro n i r hi hm hb
    have h9 : i = 9 → m ≤ 1 := fun h => by
      subst h
      have e : (128 : Nat) ^ 9 = 9223372036854775808 := by decide
      rw [e] at hb; omega
    by_cases h : m < 128
    · rw [put_lt h]
      show tk n i (UInt8.ofNat m :: r) = _
      unfold tk
      rw [toNat_ofNat_lt (by omega : m < 256)]
      have h1 : ¬ ((0 < i ∧ m = 0) ∨ (i = 9 ∧ 1 < m)) := by
        rintro (⟨a, b⟩ | ⟨a, b⟩)
        · have := hm a; omega
        · have := h9 a; omega
      rw [if_neg h1, if_pos h, Nat.mod_eq_of_lt h]
      rfl
    · have hge : 128 ≤ m := by omega
      rw [put_ge hge]
      show tk n i (UInt8.ofNat (m % 128 + 128) :: (put (m / 128) ++ r)) = _
      unfold tk
      rw [toNat_ofNat_lt (by omega : m % 128 + 128 < 256)]
      have hi9 : i ≠ 9 := fun h => by have := h9 h; omega
      have h1 : ¬ ((0 < i ∧ m % 128 + 128 = 0) ∨ (i = 9 ∧ 1 < m % 128 + 128)) := by
        rintro (⟨a, b⟩ | ⟨a, b⟩)
        · omega
        · exact hi9 a
      rw [if_neg h1, if_neg (by omega)]
      have e1 : (m % 128 + 128) % 128 = m % 128 := by omega
      rw [e1]
      have hs := mul_split m (128 ^ i)
      have hp : (128 : Nat) ^ (i + 1) = 128 ^ i * 128 := Nat.pow_succ ..
      rw [ih (m / 128) (by omega) _ (i + 1) r (by omega) (fun _ => by omega) (by rw [hp]; omega), hp]
      congr 1
      · omega
      · simp only [List.length_cons]; omega
theorem put_tk : ∀ (l : List UInt8) (n i : Nat), (tk n i l).er = 0 →
    ∃ m, (0 < i → 0 < m) ∧ (tk n i l).n = n + m * 128 ^ i ∧ (tk n i l).sz = i + (put m).length ∧ l.take (put m).length = put m := by
  intro l
  induction l with
  | nil => intro n i h; exact absurd h (by show ¬ ((4 : Int) = 0); decide)
  | cons b r ih =>
    intro n i h
    unfold tk at h ⊢
    by_cases h1 : (0 < i ∧ b.toNat = 0) ∨ (i = 9 ∧ 1 < b.toNat)
    · rw [if_pos h1] at h; exact absurd h (by show ¬ ((6 : Int) = 0); decide)
    · rw [if_neg h1] at h ⊢
      have h0 : 0 < i → 0 < b.toNat := fun hi => by
        rcases Nat.eq_zero_or_pos b.toNat with hb | hb
        · exact absurd (Or.inl ⟨hi, hb⟩) h1
        · exact hb
      by_cases h2 : b.toNat < 128
      · rw [if_pos h2]
        refine ⟨b.toNat, h0, ?_, ?_, ?_⟩
        · show n + b.toNat % 128 * 128 ^ i = _
          rw [Nat.mod_eq_of_lt h2]
        · rw [put_lt h2]; rfl
        · rw [put_lt h2]; simp
      · rw [if_neg h2] at h ⊢
        obtain ⟨m, hm, hv, hs, ht⟩ := ih _ _ h
        have hm0 := hm (by omega)
        have hb8 : b.toNat < 256 := UInt8.toNat_lt b
        have hge : 128 ≤ b.toNat % 128 + m * 128 := by omega
        have e1 : (b.toNat % 128 + m * 128) % 128 = b.toNat % 128 := by omega
        have e2 : (b.toNat % 128 + m * 128) / 128 = m := by omega
        have e3 : b.toNat % 128 + 128 = b.toNat := by omega
        have hput : put (b.toNat % 128 + m * 128) = b :: put m := by
          rw [put_ge hge, e1, e2, e3, UInt8.ofNat_toNat]
        refine ⟨b.toNat % 128 + m * 128, fun _ => by omega, ?_, ?_, ?_⟩
        · rw [hv, Nat.pow_succ, Nat.add_mul, Nat.add_assoc]
          congr 2
          rw [Nat.mul_assoc, Nat.mul_comm 128 (128 ^ i)]
        · rw [hs, hput]; simp only [List.length_cons]; omega
        · rw [hput, List.length_cons, List.take_succ_cons, ht]
theorem put_len : ∀ (n k : Nat), n < 128 ^ (k + 1) → (put n).length ≤ k + 1 := by
  intro n
  induction n using Nat.strongRecOn with
  | ind n ih =>
    intro k hk
    by_cases h : n < 128
    · rw [put_lt h]; simp
    · have hge : 128 ≤ n := by omega
      cases k with
      | zero => omega
      | succ k =>
        rw [put_ge hge, List.length_cons]
        have := ih (n / 128) (by omega) k (by rw [Nat.pow_succ] at hk; omega)
        omega
theorem put_len10 {n : Nat} (h : n < 18446744073709551616) : (put n).length ≤ 10 := put_len n 9 (Nat.lt_trans h (by decide))
theorem take_put (n : Nat) (hn : n < 18446744073709551616) (r : List UInt8) : tk 0 0 (put n ++ r) = ⟨n, (put n).length, 0⟩ := by
  have := tk_put n 0 0 r (by omega) (fun h => absurd h (by omega)) (by simpa using hn)
  simpa using this
theorem put_take (l : List UInt8) (h : (tk 0 0 l).er = 0) : (tk 0 0 l).sz = (put (tk 0 0 l).n).length ∧ l.take (tk 0 0 l).sz = put (tk 0 0 l).n := by
  obtain ⟨m, _, hv, hs, ht⟩ := put_tk l 0 0 h
  have hv' : (tk 0 0 l).n = m := by simpa using hv
  have hs' : (tk 0 0 l).sz = (put m).length := by simpa using hs
  rw [hv', hs']
  exact ⟨rfl, ht⟩
theorem put_inj {n m : Nat} (hn : n < 18446744073709551616) (hm : m < 18446744073709551616) (h : put n = put m) : n = m := by
  have h1 := take_put n hn []
  have h2 := take_put m hm []
  rw [h] at h1
  exact (Tk.mk.inj (h1.symm.trans h2)).1
end Go.Proofs.Ytjmjlijmeahmfaa
namespace Go.Proofs.Ytjmjlijmeahmfaa
open Go.RowKit
structure Only (b : Nat) (w w' : World) : Prop where
  os : w'.os = w.os
  tape : w'.tape = w.tape
  output : w'.output = w.output
  size : w.heap.size ≤ w'.heap.size
  block : ∀ k, k < w.heap.size → k ≠ b → w'.heap[k]? = w.heap[k]?
theorem Only.refl (b : Nat) (w : World) : Only b w w := ⟨rfl, rfl, rfl, Nat.le_refl _, fun _ _ _ => rfl⟩
theorem Only.trans {b : Nat} {u v w : World} (h : Only b u v) (k : Only b v w) : Only b u w :=
  ⟨k.os.trans h.os, k.tape.trans h.tape, k.output.trans h.output, Nat.le_trans h.size k.size, fun i hi hb => (k.block i (Nat.lt_of_lt_of_le hi h.size) hb).trans (h.block i hi hb)⟩
theorem Only.drewN {b : Nat} {u v : World} (h : Only b u v) (n : Nat) : Only b u (v.drewN n) := ⟨h.os, h.tape, h.output, h.size, h.block⟩
theorem Only.setCell {b : Nat} {u v : World} (h : Only b u v) (o : Nat) (x : Value) : Only b u (v.setCell ⟨b, o, none⟩ x) :=
  ⟨h.os, h.tape, h.output, by simpa using h.size, fun k hk hb => (Below.heap_setCell v ⟨b, o, none⟩ x k hb).trans (h.block k hk hb)⟩
theorem Only.ofBelow {b : Nat} {u v : World} (h : Below u.heap.size u v) : Only b u v := ⟨h.os, h.tape, h.output, h.size, fun k hk _ => h.block k hk⟩
theorem Only.below {b B : Nat} {u v : World} (h : Only b u v) (hb : B ≤ b) (hB : B ≤ u.heap.size) : Below B u v :=
  ⟨h.os, h.tape, h.output, h.size, fun k hk => h.block k (by omega) (by omega)⟩
theorem lt_of_row {W : World} {g : Nat} {o : Obj} (h1 : W.heap[g]? = some o) : g < W.heap.size := by
  rcases Nat.lt_or_ge g W.heap.size with h | h
  · exact h
  · rw [Array.getElem?_eq_none h] at h1; cases h1
theorem row_setCell {W : World} {g k : Nat} {cs : Array Value} {t : TypeId} {fr : Nat × Nat} (h : W.heap[g]? = some (.cells cs t fr)) (x : Value) :
    (W.setCell ⟨g, k, none⟩ x).heap[g]? = some (.cells (cs.setIfInBounds k x) t fr) := by
  have hl := lt_of_row h
  rw [Array.getElem?_eq_getElem hl] at h
  injection h with h
  unfold World.setCell
  rw [Array.getElem?_modify]
  simp [hl, h]
def Cur (W : World) (b : Nat) (s : ByteArray) (o e : Int) : Prop := W.heap[b]? = some (.cells #[.string s, .int .i64 o, .int .i64 e] 101 (0, 0))
theorem Cur.c0 {W : World} {b : Nat} {s : ByteArray} {o e : Int} (h : Cur W b s o e) : W.cell? ⟨b, 0, none⟩ = some (.string s) := cell_of_row W _ 0 _ _ _ h
theorem Cur.c1 {W : World} {b : Nat} {s : ByteArray} {o e : Int} (h : Cur W b s o e) : W.cell? ⟨b, 1, none⟩ = some (.int .i64 o) := cell_of_row W _ 1 _ _ _ h
theorem Cur.c2 {W : World} {b : Nat} {s : ByteArray} {o e : Int} (h : Cur W b s o e) : W.cell? ⟨b, 2, none⟩ = some (.int .i64 e) := cell_of_row W _ 2 _ _ _ h
theorem Cur.f {W : World} {b : Nat} {s : ByteArray} {o e : Int} (h : Cur W b s o e) (k : Nat) : W.frozen? ⟨b, k, none⟩ = false := frozen_of_row W _ _ _ _ h
theorem Cur.set1 {W : World} {b : Nat} {s : ByteArray} {o e : Int} (h : Cur W b s o e) (x : Int) : Cur (W.setCell ⟨b, 1, none⟩ (.int .i64 x)) b s x e := row_setCell h _
theorem Cur.set2 {W : World} {b : Nat} {s : ByteArray} {o e : Int} (h : Cur W b s o e) (x : Int) : Cur (W.setCell ⟨b, 2, none⟩ (.int .i64 x)) b s o x := row_setCell h _
theorem Cur.drewN {W : World} {b : Nat} {s : ByteArray} {o e : Int} (h : Cur W b s o e) (n : Nat) : Cur (W.drewN n) b s o e := h
theorem Cur.later {W W' : World} {b : Nat} {s : ByteArray} {o e : Int} (h : Cur W b s o e) (hb : Below W.heap.size W W') : Cur W' b s o e := (hb.block b (lt_of_row h)).trans h
theorem Cur.apart {W W' : World} {b d : Nat} {s : ByteArray} {o e : Int} (h : Cur W b s o e) (hb : Only d W W') (hd : b ≠ d) : Cur W' b s o e := (hb.block b (lt_of_row h) hd).trans h
set_option maxHeartbeats 400000 in
theorem err_nil (w : World) : Calls Try.prog 77 #[.pointer none] w fun e w' => e = .returned (.int .i64 1) ∧ w' = w := by
  go_enter Try.func77, Try.ntmps77
  go_wp2
  go_ret
  exact ⟨rfl, rfl⟩
set_option maxHeartbeats 400000 in
theorem err_at {w : World} {b : Nat} {s : ByteArray} {o er : Int} (h : Cur w b s o er) : Calls Try.prog 77 #[.pointer (some ⟨b, 0, none⟩)] w fun e w' => e = .returned (.int .i64 er) ∧ w' = w := by
  have h2 := h.c2
  go_enter Try.func77, Try.ntmps77
  go_wp2
  go_ret
  exact ⟨rfl, rfl⟩
set_option maxHeartbeats 400000 in
theorem fail_nil (x : Int) (w : World) : Calls Try.prog 71 #[.pointer none, .int .i64 x] w fun e w' => e = .returned (.tuple #[]) ∧ w' = w := by
  go_enter Try.func71, Try.ntmps71
  go_wp2_with fail
  refine (err_nil _).mono ?_
  rintro e w1 ⟨rfl, rfl⟩
  go_wp2
  go_end0
  exact ⟨rfl, rfl⟩
set_option maxHeartbeats 400000 in
theorem fail_at {w : World} {b : Nat} {s : ByteArray} {o er : Int} (hcu : Cur w b s o er) (x : Int) : Calls Try.prog 71 #[.pointer (some ⟨b, 0, none⟩), .int .i64 x] w fun e w' => e = .returned (.tuple #[]) ∧ Cur w' b s o (if er = 0 then x else er) ∧ Only b w w' := by
  have hc := hcu.c2
  have hf := hcu.f 2
  go_enter Try.func71, Try.ntmps71
  go_wp2_with fail
  refine (err_at hcu).mono ?_
  rintro e w1 ⟨rfl, rfl⟩
  by_cases h0 : er = 0
  · subst h0
    go_wp2
    go_end0
    exact ⟨rfl, hcu.set2 x, (Only.refl b w1).setCell 2 _⟩
  · go_wp2
    go_end0
    exact ⟨rfl, hcu, Only.refl b w1⟩
set_option maxHeartbeats 400000 in
theorem skip_nil (x : Int) (w : World) : Calls Try.prog 93 #[.pointer none, .int .i64 x] w fun e w' => e = .returned (.tuple #[]) ∧ w' = w := by
  go_enter Try.func93, Try.ntmps93
  go_wp2_with fail
  refine (err_nil _).mono ?_
  rintro e w1 ⟨rfl, rfl⟩
  go_wp2
  go_end0
  exact ⟨rfl, rfl⟩
set_option maxHeartbeats 400000 in
theorem skip_err {w : World} {b : Nat} {s : ByteArray} {o er : Int} (h : Cur w b s o er) (h0 : er ≠ 0) (x : Int) : Calls Try.prog 93 #[.pointer (some ⟨b, 0, none⟩), .int .i64 x] w fun e w' => e = .returned (.tuple #[]) ∧ w' = w := by
  go_enter Try.func93, Try.ntmps93
  go_wp2_with fail
  refine (err_at h).mono ?_
  rintro e w1 ⟨rfl, rfl⟩
  go_wp2
  go_end0
  exact ⟨rfl, rfl⟩
set_option maxHeartbeats 400000 in
theorem skip_ok {w : World} {b : Nat} {s : ByteArray} {o : Int} (h : Cur w b s o 0) (x : Int) (h1 : 0 ≤ o) (h2 : o ≤ 8192) (h3 : 0 ≤ x) (h4 : x ≤ 2097152) : Calls Try.prog 93 #[.pointer (some ⟨b, 0, none⟩), .int .i64 x] w fun e w' => e = .returned (.tuple #[]) ∧ Cur w' b s (o + x) 0 ∧ Only b w w' := by
  have hc := h.c1
  have hf := h.f 1
  have hw : IntKind.i64.wrap (o + x) = o + x := by rw [IntKind.wrap_i64]; omega
  go_enter Try.func93, Try.ntmps93
  go_wp2_with fail
  refine (err_at h).mono ?_
  rintro e w1 ⟨rfl, rfl⟩
  go_wp2
  go_end0
  try rw [hw]
  exact ⟨rfl, h.set1 _, (Only.refl b w1).setCell 1 _⟩
set_option maxHeartbeats 400000 in
theorem at_any (s : ByteArray) (w : World) : Calls Try.prog 41 #[.string s] w fun e w' => e = .returned (.pointer (some ⟨w.heap.size, 0, none⟩)) ∧ w' = w.alloc (.cells #[.string s, .int .i64 0, .int .i64 0] 101) := by
  go_enter Try.func41, Try.ntmps41
  go_wp2
  go_ret
  exact ⟨rfl, rfl⟩
end Go.Proofs.Ytjmjlijmeahmfaa
namespace Go.Proofs.Ytjmjlijmeahmfaa
open Go.RowKit
inductive Tr where
  | no : Tr
  | mk (k : Int) (b : Bool) (n : Int) (s : ByteArray) (m : Nat) (f : Nat → Tr) (q : Nat) (g : Nat → ByteArray) : Tr
def Tr.k : Tr → Int | .no => 0 | .mk k _ _ _ _ _ _ _ => k
def Tr.b : Tr → Bool | .no => false | .mk _ b _ _ _ _ _ _ => b
def Tr.n : Tr → Int | .no => 0 | .mk _ _ n _ _ _ _ _ => n
def Tr.s : Tr → ByteArray | .no => ⟨#[]⟩ | .mk _ _ _ s _ _ _ _ => s
def Tr.m : Tr → Nat | .no => 0 | .mk _ _ _ _ m _ _ _ => m
def Tr.f : Tr → Nat → Tr | .no => fun _ => .no | .mk _ _ _ _ _ f _ _ => f
def Tr.q : Tr → Nat | .no => 0 | .mk _ _ _ _ _ _ q _ => q
def Tr.g : Tr → Nat → ByteArray | .no => fun _ => ⟨#[]⟩ | .mk _ _ _ _ _ _ _ g => g
structure Ad where
  pa : Option Addr
  pc : Nat
  na : Option Addr
  nc : Nat
def Tr.cs (t : Tr) (x : Ad) : List Value := [.int .i64 t.k, .bool t.b, .int .i64 t.n, .string t.s, .slice x.pa t.m x.pc, .slice x.na t.q x.nc]
def Tr.val (t : Tr) (x : Ad) : Value := .agg #[.int .i64 t.k, .bool t.b, .int .i64 t.n, .string t.s, .slice x.pa t.m x.pc, .slice x.na t.q x.nc]
structure At6 (w : World) (b o : Nat) (t : Tr) (x : Ad) : Prop where
  c0 : w.cell? ⟨b, o, none⟩ = some (.int .i64 t.k)
  c1 : w.cell? ⟨b, o + 1, none⟩ = some (.bool t.b)
  c2 : w.cell? ⟨b, o + 2, none⟩ = some (.int .i64 t.n)
  c3 : w.cell? ⟨b, o + 3, none⟩ = some (.string t.s)
  c4 : w.cell? ⟨b, o + 4, none⟩ = some (.slice x.pa t.m x.pc)
  c5 : w.cell? ⟨b, o + 5, none⟩ = some (.slice x.na t.q x.nc)
def NamesS (S : Nat → Prop) (w : World) (q : Nat) (g : Nat → ByteArray) (na : Option Addr) (nc : Nat) : Prop :=
  q ≤ nc ∧ nc ≤ maxLen ∧ (∀ i, i < q → (g i).size ≤ maxLen) ∧ (0 < q → ∃ b o, na = some ⟨b, o, none⟩ ∧ S b ∧ ∀ i, i < q → w.cell? ⟨b, o + i, none⟩ = some (.string (g i)))
def Names (B : Nat) : World → Nat → (Nat → ByteArray) → Option Addr → Nat → Prop := NamesS (fun k => k < B)
inductive LiesS (S : Nat → Prop) (w : World) : Tr → Ad → Prop where
  | mk {k : Int} {b : Bool} {n : Int} {s : ByteArray} {m : Nat} {f : Nat → Tr} {q : Nat} {g : Nat → ByteArray} {x : Ad}
      (A : Nat → Ad)
      (hk : -9223372036854775808 ≤ k ∧ k < 9223372036854775808) (hn : -9223372036854775808 ≤ n ∧ n < 9223372036854775808) (hs : s.size ≤ maxLen)
      (hm : m ≤ x.pc ∧ x.pc ≤ maxLen)
      (hp : 0 < m → ∃ b o, x.pa = some ⟨b, o, none⟩ ∧ S b ∧ ∀ i, i < m → At6 w b (o + i * 6) (f i) (A i))
      (hr : ∀ i, i < m → LiesS S w (f i) (A i))
      (hq : NamesS S w q g x.na x.nc) : LiesS S w (.mk k b n s m f q g) x
def Lies (B : Nat) : World → Tr → Ad → Prop := LiesS (fun k => k < B)
theorem block_lt {W : World} {x : Addr} {v : Value} (h : W.cell? x = some v) : x.block < W.heap.size := by
  rcases Nat.lt_or_ge x.block W.heap.size with k | k
  · exact k
  · unfold World.cell? at h
    rw [Array.getElem?_eq_none k] at h
    cases h
theorem cell_kept {w w' : World} {a : Addr} {v : Value} (h : w.cell? a = some v) (hb : w'.heap[a.block]? = w.heap[a.block]?) : w'.cell? a = some v := by
  rw [← h]
  exact World.cell?_of_block hb
theorem cell_later {w w' : World} {a : Addr} {v : Value} {B : Nat} (h : w.cell? a = some v) (ha : a.block < B) (hb : Below B w w') : w'.cell? a = some v := cell_kept h (hb.block _ ha)
theorem At6.kept {w w' : World} {b o : Nat} {t : Tr} {x : Ad} (h : At6 w b o t x) (hb : w'.heap[b]? = w.heap[b]?) : At6 w' b o t x :=
  ⟨cell_kept h.c0 hb, cell_kept h.c1 hb, cell_kept h.c2 hb, cell_kept h.c3 hb, cell_kept h.c4 hb, cell_kept h.c5 hb⟩
theorem At6.later {B : Nat} {w w' : World} {b o : Nat} {t : Tr} {x : Ad} (h : At6 w b o t x) (hB : b < B) (hb : Below B w w') : At6 w' b o t x := h.kept (hb.block b hB)
theorem NamesS.kept {S : Nat → Prop} {w w' : World} {q : Nat} {g : Nat → ByteArray} {na : Option Addr} {nc : Nat} (hk : ∀ k, S k → w'.heap[k]? = w.heap[k]?) (h : NamesS S w q g na nc) : NamesS S w' q g na nc := by
  obtain ⟨h1, h2, h3, h4⟩ := h
  refine ⟨h1, h2, h3, fun h0 => ?_⟩
  obtain ⟨b, o, h5, h7, h6⟩ := h4 h0
  exact ⟨b, o, h5, h7, fun i hi => cell_kept (h6 i hi) (hk b h7)⟩
theorem LiesS.kept {S : Nat → Prop} {w w' : World} (hk : ∀ k, S k → w'.heap[k]? = w.heap[k]?) {t : Tr} {x : Ad} (h : LiesS S w t x) : LiesS S w' t x := by
  induction h with
  | mk A h1 hn hs hm hp _ hq ih =>
    refine .mk A h1 hn hs hm (fun h0 => ?_) ih (hq.kept hk)
    obtain ⟨b, o, h1, h3, h2⟩ := hp h0
    exact ⟨b, o, h1, h3, fun i hi => (h2 i hi).kept (hk b h3)⟩
theorem NamesS.up {S T : Nat → Prop} (hST : ∀ k, S k → T k) {w : World} {q : Nat} {g : Nat → ByteArray} {na : Option Addr} {nc : Nat} (h : NamesS S w q g na nc) : NamesS T w q g na nc := by
  obtain ⟨h1, h2, h3, h4⟩ := h
  refine ⟨h1, h2, h3, fun h0 => ?_⟩
  obtain ⟨b, o, h5, h7, h6⟩ := h4 h0
  exact ⟨b, o, h5, hST b h7, h6⟩
theorem LiesS.up {S T : Nat → Prop} (hST : ∀ k, S k → T k) {w : World} {t : Tr} {x : Ad} (h : LiesS S w t x) : LiesS T w t x := by
  induction h with
  | mk A hk hn hs hm hp _ hq ih =>
    refine .mk A hk hn hs hm (fun h0 => ?_) ih (hq.up hST)
    obtain ⟨b, o, h1, h3, h2⟩ := hp h0
    exact ⟨b, o, h1, hST b h3, h2⟩
theorem Names.later {B : Nat} {w w' : World} {q : Nat} {g : Nat → ByteArray} {na : Option Addr} {nc : Nat} (h : Names B w q g na nc) (hb : Below B w w') : Names B w' q g na nc := NamesS.kept (fun k hk => hb.block k hk) h
theorem Lies.later {B : Nat} {w w' : World} (hb : Below B w w') {t : Tr} {x : Ad} (h : Lies B w t x) : Lies B w' t x := LiesS.kept (fun k hk => hb.block k hk) h
theorem Lies.up {B C : Nat} (hBC : B ≤ C) {w : World} {t : Tr} {x : Ad} (h : Lies B w t x) : Lies C w t x := LiesS.up (fun _ hk => Nat.lt_of_lt_of_le hk hBC) h
theorem LiesS.part {S : Nat → Prop} {w : World} {k : Int} {b : Bool} {n : Int} {s : ByteArray} {m : Nat} {f : Nat → Tr} {q : Nat} {g : Nat → ByteArray} {x : Ad} (h : LiesS S w (.mk k b n s m f q g) x) :
    ∃ A : Nat → Ad, (0 < m → ∃ b o, x.pa = some ⟨b, o, none⟩ ∧ S b ∧ ∀ i, i < m → At6 w b (o + i * 6) (f i) (A i)) ∧ ∀ i, i < m → LiesS S w (f i) (A i) := by
  cases h with
  | mk A _ _ _ _ hp hr _ => exact ⟨A, hp, hr⟩
theorem Lies.part {B : Nat} {w : World} {k : Int} {b : Bool} {n : Int} {s : ByteArray} {m : Nat} {f : Nat → Tr} {q : Nat} {g : Nat → ByteArray} {x : Ad} (h : Lies B w (.mk k b n s m f q g) x) :
    ∃ A : Nat → Ad, (0 < m → ∃ b o, x.pa = some ⟨b, o, none⟩ ∧ b < B ∧ ∀ i, i < m → At6 w b (o + i * 6) (f i) (A i)) ∧ ∀ i, i < m → Lies B w (f i) (A i) := LiesS.part h
theorem LiesS.lims {S : Nat → Prop} {w : World} {t : Tr} {x : Ad} (h : LiesS S w t x) :
    (-9223372036854775808 ≤ t.k ∧ t.k < 9223372036854775808) ∧ (-9223372036854775808 ≤ t.n ∧ t.n < 9223372036854775808) ∧ t.s.size ≤ maxLen ∧ (t.m ≤ x.pc ∧ x.pc ≤ maxLen) ∧ NamesS S w t.q t.g x.na x.nc := by
  cases h with
  | mk A hk hn hs hm hp hr hq => exact ⟨hk, hn, hs, hm, hq⟩
theorem Lies.lims {B : Nat} {w : World} {t : Tr} {x : Ad} (h : Lies B w t x) :
    (-9223372036854775808 ≤ t.k ∧ t.k < 9223372036854775808) ∧ (-9223372036854775808 ≤ t.n ∧ t.n < 9223372036854775808) ∧ t.s.size ≤ maxLen ∧ (t.m ≤ x.pc ∧ x.pc ≤ maxLen) ∧ Names B w t.q t.g x.na x.nc := LiesS.lims h
theorem LiesS.no {S : Nat → Prop} {w : World} {x : Ad} (h : LiesS S w .no x) : False := by cases h
theorem Lies.no {B : Nat} {w : World} {x : Ad} (h : Lies B w .no x) : False := LiesS.no h
end Go.Proofs.Ytjmjlijmeahmfaa
namespace Go.Proofs.Ytjmjlijmeahmfaa
open Go.RowKit
theorem tk_bad {n i : Nat} {b : UInt8} {r : List UInt8} (h : (0 < i ∧ b.toNat = 0) ∨ (i = 9 ∧ 1 < b.toNat)) : tk n i (b :: r) = ⟨0, 0, 6⟩ := by unfold tk; rw [if_pos h]
theorem tk_end {n i : Nat} {b : UInt8} {r : List UInt8} (h : ¬ ((0 < i ∧ b.toNat = 0) ∨ (i = 9 ∧ 1 < b.toNat))) (h2 : b.toNat < 128) : tk n i (b :: r) = ⟨n + b.toNat % 128 * 128 ^ i, i + 1, 0⟩ := by unfold tk; rw [if_neg h, if_pos h2]
theorem tk_on {n i : Nat} {b : UInt8} {r : List UInt8} (h : ¬ ((0 < i ∧ b.toNat = 0) ∨ (i = 9 ∧ 1 < b.toNat))) (h2 : ¬ b.toNat < 128) : tk n i (b :: r) = tk (n + b.toNat % 128 * 128 ^ i) (i + 1) r := by rw [tk, if_neg h, if_neg h2]
theorem drop_at (s : ByteArray) (i : Nat) (h : i < s.size) : s.data.toList.drop i = s[i] :: s.data.toList.drop (i + 1) := by
  have hl : i < s.data.toList.length := by simpa using h
  rw [List.drop_eq_getElem_cons hl]; rfl
theorem pow128 (i : Nat) : (2 : Nat) ^ (i * 7) = 128 ^ i := by
  rw [Nat.mul_comm, Nat.pow_mul]
theorem or_val {n i b : Nat} (hi : i ≤ 9) (hn : n < 128 ^ i) (hb : i = 9 → b ≤ 1) : bits BinOp.or IntKind.u64 (n : Int) (IntKind.u64.wrap ((b : Int) % 128 * 2 ^ (i * 7))) = ((n + b % 128 * 128 ^ i : Nat) : Int) := by
  have h64 := step_lt64 hi hn hb
  have e : ((b : Int) % 128 * 2 ^ (i * 7)) = ((b % 128 * 128 ^ i : Nat) : Int) := by
    rw [← pow128]; push_cast; rfl
  rw [e, IntKind.wrap_u64, Int.emod_eq_of_lt (by omega) (by omega), u64_or_nat _ _ (by omega) (by omega)]
  congr 1
  rw [← pow128] at hn ⊢
  rw [Nat.mul_comm (b % 128), Nat.add_comm n, Nat.two_pow_add_eq_or_of_lt hn, Nat.or_comm]
theorem or_val9 {n b : Nat} (hn : n < 128 ^ 9) (hb : b ≤ 1) : bits BinOp.or IntKind.u64 (n : Int) ((b : Int) % 128 * 9223372036854775808) = ((n + b % 128 * 128 ^ 9 : Nat) : Int) := by
  have h := or_val (i := 9) (b := b) (by omega) hn (fun _ => hb)
  rw [← h]
  congr 1
  rw [IntKind.wrap_u64]
  have e : (2 : Int) ^ (9 * 7) = 9223372036854775808 := by decide
  rw [e]
  omega
theorem or_val0 {n b : Nat} (hn : n < 128 ^ 0) : bits BinOp.or IntKind.u64 (n : Int) ((b : Int) % 128) = ((n + b % 128 * 128 ^ 0 : Nat) : Int) := by
  have h := or_val (i := 0) (b := b) (by omega) hn (by omega)
  rw [← h]
  congr 1
  rw [IntKind.wrap_u64]
  simp only [Nat.zero_mul, Int.pow_zero, Int.mul_one]
  omega
set_option maxRecDepth 20000 in
set_option maxHeartbeats 1000000 in
theorem first_any (s : ByteArray) (hs : s.size ≤ 8192) (T : Tk) (hT : tk 0 0 s.data.toList = T) (w : World) :
    Calls Try.prog 104 #[.string s] w fun e w' => e = .returned (.tuple #[.int .u64 (T.n : Int), .int .i64 (T.sz : Int), .int .i64 T.er]) ∧ w' = w := by
  go_enter Try.func104, Try.ntmps104
  go_wp2
  go_loopw [2, 9] (fun c2 c9 wr => ∃ n i : Nat, i ≤ 9 ∧ i ≤ s.size ∧ n < 128 ^ i ∧ tk n i (s.data.toList.drop i) = T ∧ c2 = .int .u64 (n : Int) ∧ c9 = .int .i64 (i : Int) ∧ wr = w) (fun _ c9 _ => s.size - (intOf c9).toNat)
  case atStart =>
    exact ⟨0, 0, by omega, by omega, by decide, hT, rfl, rfl, rfl⟩
  case round =>
    obtain ⟨n, i, h9, his, hn, hk, rfl, rfl, rfl⟩ := hrel
    have HN : Hid (n < 128 ^ i) := hn
    clear hn hT
    by_cases hlt : i < s.size
    · have hlt' : (i : Int) < (s.size : Int) := by omega
      rw [drop_at s i hlt] at hk
      obtain ⟨b, hb⟩ : ∃ b : UInt8, s[i] = b := ⟨_, rfl⟩
      rw [hb] at hk
      have HK : Hid (tk n i (b :: s.data.toList.drop (i + 1)) = T) := hk
      clear hk
      have hb8 : b.toNat < 256 := UInt8.toNat_lt b
      by_cases h0 : i = 0
      · subst h0
        have hok : ¬ ((0 < 0 ∧ b.toNat = 0) ∨ (0 = 9 ∧ 1 < b.toNat)) := by omega
        by_cases h128 : b.toNat < 128
        · have h128' : (b.toNat : Int) < 128 := by omega
          have HT : Hid (T = ⟨n + b.toNat % 128 * 128 ^ 0, 0 + 1, 0⟩) := HK.out.symm.trans (tk_end hok h128)
          clear HK hok
          go_wp2
          go_ret3
          rw [or_val0 HN.out, HT.out]
          exact ⟨rfl, rfl⟩
        · have h128' : ¬ (b.toNat : Int) < 128 := by omega
          have HT : Hid (tk (n + b.toNat % 128 * 128 ^ 0) (0 + 1) (s.data.toList.drop (0 + 1)) = T) := (tk_on hok h128).symm.trans HK.out
          clear HK hok
          go_wp2
          go_roundw
          case rel =>
            exact ⟨n + b.toNat % 128 * 128 ^ 0, 0 + 1, by omega, by omega, step_lt HN.out, HT.out, by rw [or_val0 HN.out], rfl, by trivial⟩
          case measure => simp [intOf]; omega
      · have h0' : (0 : Int) < (i : Int) := by omega
        by_cases hz : b.toNat = 0
        · have hz' : (b.toNat : Int) = 0 := by omega
          have HT : Hid (T = ⟨0, 0, 6⟩) := HK.out.symm.trans (tk_bad (Or.inl ⟨by omega, hz⟩))
          clear HK
          go_wp2
          go_ret3
          rw [HT.out]
          exact ⟨rfl, rfl⟩
        · have hz' : ¬ (b.toNat : Int) = 0 := by omega
          by_cases hi9 : i = 9
          · subst hi9
            by_cases h1 : 1 < b.toNat
            · have h1' : (1 : Int) < (b.toNat : Int) := by omega
              have HT : Hid (T = ⟨0, 0, 6⟩) := HK.out.symm.trans (tk_bad (Or.inr ⟨rfl, h1⟩))
              clear HK
              go_wp2
              go_ret3
              rw [HT.out]
              exact ⟨rfl, rfl⟩
            · have h1' : ¬ (1 : Int) < (b.toNat : Int) := by omega
              have h128' : (b.toNat : Int) < 128 := by omega
              have hok : ¬ ((0 < 9 ∧ b.toNat = 0) ∨ (9 = 9 ∧ 1 < b.toNat)) := by omega
              have HT : Hid (T = ⟨n + b.toNat % 128 * 128 ^ 9, 9 + 1, 0⟩) := HK.out.symm.trans (tk_end hok (by omega))
              clear HK hok
              go_wp2
              go_ret3
              rw [or_val9 HN.out (by omega), HT.out]
              exact ⟨rfl, rfl⟩
          · have hi9' : ¬ (i : Int) = 9 := by omega
            have hok : ¬ ((0 < i ∧ b.toNat = 0) ∨ (i = 9 ∧ 1 < b.toNat)) := by omega
            have hi9n : Hid (i ≠ 9) := hi9
            have h7 : IntKind.i64.wrap ((i : Int) * 7) = (i : Int) * 7 := by rw [IntKind.wrap_i64]; omega
            have h70 : (0 : Int) ≤ (i : Int) * 7 := by omega
            have h71 : (i : Int) * 7 < 64 := by omega
            by_cases h128 : b.toNat < 128
            · have h128' : (b.toNat : Int) < 128 := by omega
              have HT : Hid (T = ⟨n + b.toNat % 128 * 128 ^ i, i + 1, 0⟩) := HK.out.symm.trans (tk_end hok h128)
              clear HK hok
              go_wp2
              go_ret3
              rw [or_val h9 HN.out (fun h => absurd h hi9n.out), HT.out]
              exact ⟨rfl, rfl⟩
            · have h128' : ¬ (b.toNat : Int) < 128 := by omega
              have HT : Hid (tk (n + b.toNat % 128 * 128 ^ i) (i + 1) (s.data.toList.drop (i + 1)) = T) := (tk_on hok h128).symm.trans HK.out
              clear HK hok
              go_wp2
              go_roundw
              case rel =>
                exact ⟨n + b.toNat % 128 * 128 ^ i, i + 1, by omega, by omega, step_lt HN.out, HT.out, by rw [or_val h9 HN.out (fun h => absurd h hi9n.out)], by go_num, by trivial⟩
              case measure => simp [intOf]; omega
    · obtain rfl : i = s.size := by omega
      have hlt' : ¬ ((s.size : Nat) : Int) < (s.size : Int) := by omega
      have hd : s.data.toList.drop s.size = [] := List.drop_eq_nil_of_le (by simp)
      rw [hd] at hk
      have HT : Hid (T = ⟨0, 0, 4⟩) := hk.symm
      clear hk hd
      go_wp2
      go_ret3
      rw [HT.out]
      exact ⟨rfl, rfl⟩
end Go.Proofs.Ytjmjlijmeahmfaa
namespace Go.Proofs.Ytjmjlijmeahmfaa
open Go.RowKit
set_option maxHeartbeats 400000 in
theorem number_nil (w : World) : Calls Try.prog 102 #[.pointer none] w fun e w' => e = .returned (.tuple #[.int .u64 0, .int .i64 0]) ∧ w' = w := by
  go_enter Try.func102, Try.ntmps102
  go_wp2_with fail
  refine (err_nil _).mono ?_
  rintro e w1 ⟨rfl, rfl⟩
  go_wp2
  go_ret2
  exact ⟨rfl, rfl⟩
set_option maxHeartbeats 400000 in
theorem number_err {w : World} {b : Nat} {s : ByteArray} {o er : Int} (hcu : Cur w b s o er) (h0 : er ≠ 0) : Calls Try.prog 102 #[.pointer (some ⟨b, 0, none⟩)] w fun e w' => e = .returned (.tuple #[.int .u64 0, .int .i64 0]) ∧ w' = w := by
  go_enter Try.func102, Try.ntmps102
  go_wp2_with fail
  refine (err_at hcu).mono ?_
  rintro e w1 ⟨rfl, rfl⟩
  go_wp2
  go_ret2
  exact ⟨rfl, rfl⟩
theorem drop_extract (s : ByteArray) (o : Nat) : (s.extract o s.size).data.toList = s.data.toList.drop o := by
  rw [Lib.extract_data, List.take_of_length_le]
  rw [List.length_drop, ← Lib.size_eq]; exact Nat.le_refl _
set_option maxHeartbeats 1000000 in
theorem number_ok {w : World} {b : Nat} {s : ByteArray} {o : Nat} (hcu : Cur w b s (o : Int) 0) (ho : o ≤ s.size) (hs : s.size ≤ 4096) (T : Tk) (hT : tk 0 0 (s.data.toList.drop o) = T) :
    Calls Try.prog 102 #[.pointer (some ⟨b, 0, none⟩)] w fun e w' => e = .returned (.tuple #[.int .u64 (T.n : Int), .int .i64 (T.sz : Int)]) ∧ Cur w' b s (o : Int) T.er ∧ Only b w w' := by
  have hc0 := hcu.c0
  have hc1 := hcu.c1
  have hf := fun W => first_any (s.extract o s.size) (by simp; omega) T (by rw [drop_extract]; exact hT) W
  have ho' : (o : Int) ≤ (s.size : Int) := by omega
  have ho0 : (0 : Int) ≤ (o : Int) := by omega
  clear hT
  go_enter Try.func102, Try.ntmps102
  go_wp2_with fail
  refine (err_at hcu).mono ?_
  rintro e w1 ⟨rfl, rfl⟩
  go_wp2_with fail
  go_quiet ((go_at_call 104; exact Calls.quiet_of_same (hf _)))
  go_wp2_with fail
  refine (fail_at (hcu.drewN nq) T.er).mono ?_
  rintro e w2 ⟨rfl, hk2, ho2⟩
  rw [if_pos rfl] at hk2
  go_wp2
  go_ret2
  exact ⟨rfl, hk2, ((Only.refl b w1).drewN nq).trans ho2⟩
def cnt (T : Tk) (most : Int) : Tk := if T.er = 0 ∧ (most < 0 ∨ most < (T.n : Int)) then ⟨0, 0, 3⟩ else T
set_option maxHeartbeats 400000 in
theorem count_nil (m : Int) (w : World) : Calls Try.prog 95 #[.pointer none, .int .i64 m] w fun e w' => e = .returned (.tuple #[.int .i64 0, .int .i64 0]) ∧ w' = w := by
  go_enter Try.func95, Try.ntmps95
  go_wp2_with fail
  refine (number_nil _).mono ?_
  rintro e w1 ⟨rfl, rfl⟩
  by_cases hm : m < 0
  · go_wp2_with fail
    refine (fail_nil _ _).mono ?_
    rintro e w2 ⟨rfl, rfl⟩
    go_wp2
    go_ret2
    exact ⟨rfl, rfl⟩
  · have hm0 : (0 : Int) ≤ m := by omega
    have hm1 : ¬ IntKind.u64.wrap m < 0 := by rw [IntKind.wrap_u64]; omega
    go_wp2
    go_ret2
    exact ⟨rfl, rfl⟩
set_option maxHeartbeats 400000 in
theorem count_err {w : World} {b : Nat} {s : ByteArray} {o er : Int} (hcu : Cur w b s o er) (h0 : er ≠ 0) (m : Int) : Calls Try.prog 95 #[.pointer (some ⟨b, 0, none⟩), .int .i64 m] w fun e w' => e = .returned (.tuple #[.int .i64 0, .int .i64 0]) ∧ Cur w' b s o er ∧ Only b w w' := by
  go_enter Try.func95, Try.ntmps95
  go_wp2_with fail
  refine (number_err hcu h0).mono ?_
  rintro e w1 ⟨rfl, rfl⟩
  by_cases hm : m < 0
  · go_wp2_with fail
    refine (fail_at hcu _).mono ?_
    rintro e w2 ⟨rfl, hk2, ho2⟩
    rw [if_neg h0] at hk2
    go_wp2
    go_ret2
    exact ⟨rfl, hk2, ho2⟩
  · have hm0 : (0 : Int) ≤ m := by omega
    have hm1 : ¬ IntKind.u64.wrap m < 0 := by rw [IntKind.wrap_u64]; omega
    go_wp2
    go_ret2
    exact ⟨rfl, hcu, Only.refl _ _⟩
set_option maxHeartbeats 400000 in
theorem count_ok {w : World} {b : Nat} {s : ByteArray} {o : Nat} (hcu : Cur w b s (o : Int) 0) (ho : o ≤ s.size) (hs : s.size ≤ 4096) (T : Tk) (hT : tk 0 0 (s.data.toList.drop o) = T) (m : Int) (hm : m < 9223372036854775808) :
    Calls Try.prog 95 #[.pointer (some ⟨b, 0, none⟩), .int .i64 m] w fun e w' => e = .returned (.tuple #[.int .i64 ((cnt T m).n : Int), .int .i64 ((cnt T m).sz : Int)]) ∧ Cur w' b s (o : Int) (cnt T m).er ∧ Only b w w' := by
  have hTe : T.er ≠ 0 → T.n = 0 ∧ T.sz = 0 := by rw [← hT]; exact tk_err
  have hTb : T.n < 18446744073709551616 := by rw [← hT]; exact (tk_bound (by omega) (by decide)).1
  go_enter Try.func95, Try.ntmps95
  go_wp2_with fail
  refine (number_ok hcu ho hs T hT).mono ?_
  rintro e w1 ⟨rfl, hk1, ho1⟩
  clear hT hcu
  by_cases hm0 : m < 0
  · go_wp2_with fail
    refine (fail_at hk1 _).mono ?_
    rintro e w2 ⟨rfl, hk2, ho2⟩
    go_wp2
    go_ret2
    by_cases h0 : T.er = 0
    · have hc : cnt T m = ⟨0, 0, 3⟩ := if_pos ⟨h0, Or.inl hm0⟩
      rw [if_pos h0] at hk2
      rw [hc]
      exact ⟨rfl, hk2, ho1.trans ho2⟩
    · have hc : cnt T m = T := if_neg (fun h => h0 h.1)
      rw [if_neg h0] at hk2
      rw [hc, (hTe h0).1, (hTe h0).2]
      exact ⟨rfl, hk2, ho1.trans ho2⟩
  · have hm1 : (0 : Int) ≤ m := by omega
    have hw : IntKind.u64.wrap m = m := by rw [IntKind.wrap_u64]; omega
    by_cases hg : m < (T.n : Int)
    · have h0 : T.er = 0 := by
        rcases Decidable.em (T.er = 0) with h | h
        · exact h
        · have := (hTe h).1; omega
      have hc : cnt T m = ⟨0, 0, 3⟩ := if_pos ⟨h0, Or.inr hg⟩
      have HC : Hid (cnt T m = ⟨0, 0, 3⟩) := hc
      rw [h0] at hk1
      clear hc h0 hTe
      go_wp2_with fail
      refine (fail_at hk1 _).mono ?_
      rintro e w2 ⟨rfl, hk2, ho2⟩
      rw [if_pos rfl] at hk2
      go_wp2
      go_ret2
      rw [HC.out]
      exact ⟨rfl, hk2, ho1.trans ho2⟩
    · have hc : cnt T m = T := if_neg (fun h => by rcases h.2 with h | h <;> omega)
      have HC : Hid (cnt T m = T) := hc
      have hw2 : IntKind.i64.wrap (T.n : Int) = (T.n : Int) := by rw [IntKind.wrap_i64]; omega
      clear hc hTe
      go_wp2
      go_ret2
      rw [HC.out]
      exact ⟨rfl, hk1, ho1⟩
set_option maxHeartbeats 400000 in
theorem piece_nil (k n : Int) (w : World) : Calls Try.prog 92 #[.pointer none, .int .i64 k, .int .i64 n] w fun e w' => e = .returned (.string ⟨#[]⟩) ∧ w' = w := by
  go_enter Try.func92, Try.ntmps92
  go_wp2_with fail
  refine (err_nil _).mono ?_
  rintro e w1 ⟨rfl, rfl⟩
  go_wp2
  go_ret
  exact ⟨rfl, rfl⟩
set_option maxHeartbeats 400000 in
theorem piece_err {w : World} {b : Nat} {s : ByteArray} {o er : Int} (hcu : Cur w b s o er) (h0 : er ≠ 0) (k n : Int) : Calls Try.prog 92 #[.pointer (some ⟨b, 0, none⟩), .int .i64 k, .int .i64 n] w fun e w' => e = .returned (.string ⟨#[]⟩) ∧ w' = w := by
  go_enter Try.func92, Try.ntmps92
  go_wp2_with fail
  refine (err_at hcu).mono ?_
  rintro e w1 ⟨rfl, rfl⟩
  go_wp2
  go_ret
  exact ⟨rfl, rfl⟩
theorem extract2 (s : ByteArray) (a n : Nat) (h : a + n ≤ s.size) : (s.extract a s.size).extract 0 n = s.extract a (a + n) := by
  have e : ((s.extract a s.size).extract 0 n).data.toList = (s.extract a (a + n)).data.toList := by
    rw [Lib.extract_data, Lib.extract_data, Lib.extract_data, List.drop_zero, Nat.sub_zero, List.take_take]
    congr 1; omega
  have e2 := Array.toList_inj.mp e
  exact ByteArray.ext e2
set_option maxHeartbeats 1000000 in
theorem piece_short {w : World} {b : Nat} {s : ByteArray} {o k : Nat} {n : Int} (hcu : Cur w b s (o : Int) 0) (ho : o + k ≤ s.size) (hs : s.size ≤ 4096) (hn : (s.size : Int) - (o + k : Nat) < n) :
    Calls Try.prog 92 #[.pointer (some ⟨b, 0, none⟩), .int .i64 (k : Int), .int .i64 n] w fun e w' => e = .returned (.string ⟨#[]⟩) ∧ Cur w' b s (o : Int) 4 ∧ Only b w w' := by
  have hc0 := hcu.c0
  have hc1 := hcu.c1
  have hw : IntKind.i64.wrap ((o : Int) + (k : Int)) = (o : Int) + (k : Int) := by rw [IntKind.wrap_i64]; omega
  have h1 : (0 : Int) ≤ (o : Int) + (k : Int) := by omega
  have h2 : (o : Int) + (k : Int) ≤ (s.size : Int) := by omega
  have h3 : (((s.extract (o + k) s.size).size : Nat) : Int) < n := by simp; omega
  obtain ⟨x, hx⟩ : ∃ x, s.extract (o + k) s.size = x := ⟨_, rfl⟩
  rw [hx] at h3
  go_enter Try.func92, Try.ntmps92
  go_wp2_with fail
  refine (err_at hcu).mono ?_
  rintro e w1 ⟨rfl, rfl⟩
  go_wp2_with fail
  go_quiet (fail)
  go_wp2_with fail
  refine (fail_at (hcu.drewN nq) _).mono ?_
  rintro e w2 ⟨rfl, hk2, ho2⟩
  rw [if_pos rfl] at hk2
  go_wp2
  go_ret
  exact ⟨rfl, hk2, ((Only.refl b w1).drewN nq).trans ho2⟩
end Go.Proofs.Ytjmjlijmeahmfaa
namespace Go.Proofs.Ytjmjlijmeahmfaa
open Go.RowKit
set_option maxHeartbeats 1000000 in
theorem piece_ok {w : World} {b : Nat} {s : ByteArray} {o k n : Nat} (hcu : Cur w b s (o : Int) 0) (hs : s.size ≤ 4096) (hn : o + k + n ≤ s.size) :
    Calls Try.prog 92 #[.pointer (some ⟨b, 0, none⟩), .int .i64 (k : Int), .int .i64 (n : Int)] w fun e w' => e = .returned (.string (s.extract (o + k) (o + k + n))) ∧ Cur w' b s (o : Int) 0 ∧ Only b w w' := by
  have hc0 := hcu.c0
  have hc1 := hcu.c1
  have hw : IntKind.i64.wrap ((o : Int) + (k : Int)) = (o : Int) + (k : Int) := by rw [IntKind.wrap_i64]; omega
  have h1 : (0 : Int) ≤ (o : Int) + (k : Int) := by omega
  have h2 : (o : Int) + (k : Int) ≤ (s.size : Int) := by omega
  have h3 : ¬ (((s.extract (o + k) s.size).size : Nat) : Int) < (n : Int) := by simp; omega
  have h4 : (n : Int) ≤ (((s.extract (o + k) s.size).size : Nat) : Int) := by simp; omega
  have h5 : (0 : Int) ≤ (n : Int) := by omega
  have hx2 : Hid ((s.extract (o + k) s.size).extract 0 n = s.extract (o + k) (o + k + n)) := extract2 s (o + k) n hn
  obtain ⟨x, hx⟩ : ∃ x, s.extract (o + k) s.size = x := ⟨_, rfl⟩
  rw [hx] at h3 h4 hx2
  go_enter Try.func92, Try.ntmps92
  go_wp2_with fail
  refine (err_at hcu).mono ?_
  rintro e w1 ⟨rfl, rfl⟩
  go_wp2_with fail
  go_quiet (fail)
  go_wp2
  go_ret
  try rw [hx2.out]
  exact ⟨rfl, hcu.drewN nq, (Only.refl b w1).drewN nq⟩
set_option maxHeartbeats 400000 in
theorem end_nil (w : World) : Calls Try.prog 43 #[.pointer none] w fun e w' => e = .returned (.int .i64 1) ∧ ∃ n, w' = w.drewN n := by
  go_enter Try.func43, Try.ntmps43
  go_wp2_with fail
  go_quiet ((go_at_call 77; exact Calls.quiet_of_same (err_nil _)))
  go_wp2_with fail
  refine (err_nil _).mono ?_
  rintro e w1 ⟨rfl, rfl⟩
  go_wp2
  go_ret
  exact ⟨rfl, _, rfl⟩
theorem end_err {w : World} {b : Nat} {s : ByteArray} {o er : Int} (hcu : Cur w b s o er) (h0 : er ≠ 0) : Calls Try.prog 43 #[.pointer (some ⟨b, 0, none⟩)] w fun e w' => e = .returned (.int .i64 er) ∧ ∃ n, w' = w.drewN n := by
  have hd : decide (er = 0) = false := by simp [h0]
  have hq := fun n => err_at (hcu.drewN n)
  go_enter Try.func43, Try.ntmps43
  go_wp2_with fail
  go_quiet ((go_at_call 77; exact Calls.quiet_of_same (hq _)))
  go_wp2_with fail
  refine (err_at (hcu.drewN nq)).mono ?_
  rintro e w1 ⟨rfl, rfl⟩
  go_wp2
  go_ret
  exact ⟨rfl, _, rfl⟩
theorem end_ok {w : World} {b : Nat} {s : ByteArray} {o : Nat} (hcu : Cur w b s (o : Int) 0) : Calls Try.prog 43 #[.pointer (some ⟨b, 0, none⟩)] w fun e w' => e = .returned (.int .i64 (if o < s.size then 5 else 0)) ∧ Only b w w' := by
  have hc0 := hcu.c0
  have hc1 := hcu.c1
  have hc2 := hcu.c2
  have hf := hcu.f 2
  have hq := fun n => err_at (hcu.drewN n)
  by_cases ho : o < s.size
  · have ho' : (o : Int) < (s.size : Int) := by omega
    rw [if_pos ho]
    go_enter Try.func43, Try.ntmps43
    go_wp2_with fail
    go_quiet ((go_at_call 77; exact Calls.quiet_of_same (hq _)))
    go_wp2_with fail
    refine (err_at ((hcu.drewN nq).set2 5)).mono ?_
    rintro e w1 ⟨rfl, rfl⟩
    go_wp2
    go_ret
    exact ⟨rfl, ((Only.refl b w).drewN nq).setCell 2 _⟩
  · have ho' : ¬ (o : Int) < (s.size : Int) := by omega
    rw [if_neg ho]
    go_enter Try.func43, Try.ntmps43
    go_wp2_with fail
    go_quiet ((go_at_call 77; exact Calls.quiet_of_same (hq _)))
    go_wp2_with fail
    refine (err_at (hcu.drewN nq)).mono ?_
    rintro e w1 ⟨rfl, rfl⟩
    go_wp2
    go_ret
    exact ⟨rfl, (Only.refl b w).drewN nq⟩
end Go.Proofs.Ytjmjlijmeahmfaa
namespace Go.Proofs.Ytjmjlijmeahmfaa
open Go.RowKit
structure Ans (α : Type) where
  v : α
  o : Nat
  e : Int
def tkA (s : ByteArray) (o : Nat) : Tk := tk 0 0 (s.data.toList.drop o)
theorem tkA_err {s : ByteArray} {o : Nat} : (tkA s o).er ≠ 0 → (tkA s o).n = 0 ∧ (tkA s o).sz = 0 := tk_err
theorem tkA_bound {s : ByteArray} {o : Nat} (ho : o ≤ s.size) : (tkA s o).n < 18446744073709551616 ∧ o + (tkA s o).sz ≤ s.size ∧ (tkA s o).sz ≤ 10 := by
  obtain ⟨h1, h2, h3⟩ := tk_bound (r := s.data.toList.drop o) (n := 0) (i := 0) (by omega) (by decide)
  refine ⟨h1, ?_, h3⟩
  rw [List.length_drop, ← Lib.size_eq] at h2
  show o + (tk 0 0 (s.data.toList.drop o)).sz ≤ s.size
  omega
def uintA (s : ByteArray) (o : Nat) (er : Int) : Ans Nat := if er = 0 then ⟨(tkA s o).n, o + (tkA s o).sz, (tkA s o).er⟩ else ⟨0, o, er⟩
def zag (n : Nat) : Int := if n % 2 = 1 then -((n / 2 : Nat) : Int) - 1 else ((n / 2 : Nat) : Int)
def countA (s : ByteArray) (o : Nat) (er m : Int) : Ans Nat := if er = 0 then ⟨(cnt (tkA s o) m).n, o + (cnt (tkA s o) m).sz, (cnt (tkA s o) m).er⟩ else ⟨0, o, er⟩
theorem cnt_err {T : Tk} {m : Int} (h : T.er ≠ 0 → T.n = 0 ∧ T.sz = 0) : (cnt T m).er ≠ 0 → (cnt T m).n = 0 ∧ (cnt T m).sz = 0 := by
  unfold cnt
  split
  · exact fun _ => ⟨rfl, rfl⟩
  · exact h
theorem cnt_sz {T : Tk} {m : Int} : (cnt T m).sz ≤ T.sz ∧ (cnt T m).n ≤ T.n := by
  unfold cnt
  split
  · exact ⟨Nat.zero_le _, Nat.zero_le _⟩
  · exact ⟨Nat.le_refl _, Nat.le_refl _⟩
theorem cnt_most {T : Tk} {m : Int} (h : (cnt T m).er = 0) : 0 ≤ m ∧ ((cnt T m).n : Int) ≤ m := by
  unfold cnt at h ⊢
  split
  · rename_i h1; rw [if_pos h1] at h; exact absurd h (by decide)
  · rename_i h1; rw [if_neg h1] at h
    have : ¬ (m < 0 ∨ m < (T.n : Int)) := fun k => h1 ⟨h, k⟩
    omega
set_option maxHeartbeats 400000 in
theorem uint_nil (w : World) : Calls Try.prog 94 #[.pointer none] w fun e w' => e = .returned (.int .u64 0) ∧ w' = w := by
  go_enter Try.func94, Try.ntmps94
  go_wp2_with fail
  refine (number_nil _).mono ?_
  rintro e w1 ⟨rfl, rfl⟩
  go_wp2_with fail
  refine (skip_nil _ _).mono ?_
  rintro e w1 ⟨rfl, rfl⟩
  go_wp2
  go_ret
  exact ⟨rfl, rfl⟩
set_option maxHeartbeats 400000 in
theorem uint_at {w : World} {b : Nat} {s : ByteArray} {o : Nat} {er : Int} (hcu : Cur w b s (o : Int) er) (ho : o ≤ s.size) (hs : s.size ≤ 4096) :
    Calls Try.prog 94 #[.pointer (some ⟨b, 0, none⟩)] w fun e w' => e = .returned (.int .u64 ((uintA s o er).v : Int)) ∧ Cur w' b s ((uintA s o er).o : Int) (uintA s o er).e ∧ Only b w w' := by
  by_cases h0 : er = 0
  · subst h0
    obtain ⟨hb1, hb2, hb3⟩ := tkA_bound ho
    have hTe : (tkA s o).er ≠ 0 → (tkA s o).n = 0 ∧ (tkA s o).sz = 0 := tkA_err
    obtain ⟨T, hT⟩ : ∃ T, tkA s o = T := ⟨_, rfl⟩
    have hA : uintA s o 0 = ⟨T.n, o + T.sz, T.er⟩ := by unfold uintA; rw [if_pos rfl, hT]
    rw [hA]
    rw [hT] at hb1 hb2 hb3 hTe
    clear hA
    show Calls Try.prog 94 _ w fun e w' => e = .returned (.int .u64 (T.n : Int)) ∧ Cur w' b s ((o + T.sz : Nat) : Int) T.er ∧ Only b w w'
    go_enter Try.func94, Try.ntmps94
    go_wp2_with fail
    refine (number_ok hcu ho hs T hT).mono ?_
    rintro e w1 ⟨rfl, hk1, ho1⟩
    clear hT
    by_cases h1 : T.er = 0
    · rw [h1] at hk1
      have H1 : Hid (T.er = 0) := h1
      clear h1
      go_wp2_with fail
      refine (skip_ok hk1 _ (by omega) (by omega) (by omega) (by omega)).mono ?_
      rintro e w2 ⟨rfl, hk2, ho2⟩
      clear hTe
      go_wp2
      go_ret
      rw [H1.out]
      exact ⟨rfl, hk2, ho1.trans ho2⟩
    · have h2 : Hid (o + T.sz = o) := by have := (hTe h1).2; show o + T.sz = o; omega
      clear hTe
      go_wp2_with fail
      refine (skip_err hk1 h1 _).mono ?_
      rintro e w2 ⟨rfl, rfl⟩
      go_wp2
      go_ret
      rw [h2.out]
      exact ⟨rfl, hk1, ho1⟩
  · have hA : uintA s o er = ⟨0, o, er⟩ := if_neg h0
    rw [hA]
    show Calls Try.prog 94 _ w fun e w' => e = .returned (.int .u64 0) ∧ Cur w' b s (o : Int) er ∧ Only b w w'
    clear hA
    go_enter Try.func94, Try.ntmps94
    go_wp2_with fail
    refine (number_err hcu h0).mono ?_
    rintro e w1 ⟨rfl, rfl⟩
    go_wp2_with fail
    refine (skip_err hcu h0 _).mono ?_
    rintro e w1 ⟨rfl, rfl⟩
    go_wp2
    go_ret
    exact ⟨rfl, hcu, Only.refl _ _⟩
theorem uintA_lt {s : ByteArray} {o : Nat} {er : Int} (ho : o ≤ s.size) : (uintA s o er).v < 18446744073709551616 := by
  unfold uintA
  split
  · exact (tkA_bound ho).1
  · show (0 : Nat) < _; decide
set_option maxHeartbeats 400000 in
theorem int_nil (w : World) : Calls Try.prog 74 #[.pointer none] w fun e w' => e = .returned (.int .i64 0) ∧ w' = w := by
  go_enter Try.func74, Try.ntmps74
  go_wp2_with fail
  refine (uint_nil _).mono ?_
  rintro e w1 ⟨rfl, rfl⟩
  go_wp2
  go_ret
  exact ⟨rfl, rfl⟩
set_option maxHeartbeats 400000 in
theorem int_at {w : World} {b : Nat} {s : ByteArray} {o : Nat} {er : Int} (hcu : Cur w b s (o : Int) er) (ho : o ≤ s.size) (hs : s.size ≤ 4096) :
    Calls Try.prog 74 #[.pointer (some ⟨b, 0, none⟩)] w fun e w' => e = .returned (.int .i64 (zag (uintA s o er).v)) ∧ Cur w' b s ((uintA s o er).o : Int) (uintA s o er).e ∧ Only b w w' := by
  have hlt := uintA_lt (er := er) ho
  have huint := uint_at hcu ho hs
  obtain ⟨A, hA⟩ : ∃ A, uintA s o er = A := ⟨_, rfl⟩
  rw [hA] at huint hlt ⊢
  clear hA
  obtain ⟨n, o', e'⟩ := A
  dsimp only at huint hlt ⊢
  go_enter Try.func74, Try.ntmps74
  go_wp2_with fail
  refine huint.mono ?_
  rintro e w1 ⟨rfl, hk1, ho1⟩
  clear hcu
  have hw : IntKind.i64.wrap ((n : Int) / 2) = (n : Int) / 2 := by rw [IntKind.wrap_i64]; omega
  by_cases h1 : n % 2 = 1
  · have hz : Hid (zag n = -((n / 2 : Nat) : Int) - 1) := if_pos h1
    have h1' : (n : Int) % 2 = 1 := by omega
    have hw2 : IntKind.i64.wrap (-((n : Int) / 2)) = -((n : Int) / 2) := by rw [IntKind.wrap_i64]; omega
    have hw3 : IntKind.i64.wrap (-((n : Int) / 2) - 1) = -((n : Int) / 2) - 1 := by rw [IntKind.wrap_i64]; omega
    go_wp2
    go_ret
    rw [hz.out]
    exact ⟨rfl, hk1, ho1⟩
  · have hz : Hid (zag n = ((n / 2 : Nat) : Int)) := if_neg h1
    have h1' : ¬ (n : Int) % 2 = 1 := by omega
    go_wp2
    go_ret
    rw [hz.out]
    exact ⟨rfl, hk1, ho1⟩
set_option maxHeartbeats 400000 in
theorem cou_nil (m : Int) (w : World) : Calls Try.prog 96 #[.pointer none, .int .i64 m] w fun e w' => e = .returned (.int .i64 0) ∧ w' = w := by
  go_enter Try.func96, Try.ntmps96
  go_wp2_with fail
  refine (count_nil _ _).mono ?_
  rintro e w1 ⟨rfl, rfl⟩
  go_wp2_with fail
  refine (skip_nil _ _).mono ?_
  rintro e w1 ⟨rfl, rfl⟩
  go_wp2
  go_ret
  exact ⟨rfl, rfl⟩
set_option maxHeartbeats 400000 in
theorem cou_at {w : World} {b : Nat} {s : ByteArray} {o : Nat} {er : Int} (hcu : Cur w b s (o : Int) er) (ho : o ≤ s.size) (hs : s.size ≤ 4096) (m : Int) (hm : m < 9223372036854775808) :
    Calls Try.prog 96 #[.pointer (some ⟨b, 0, none⟩), .int .i64 m] w fun e w' => e = .returned (.int .i64 ((countA s o er m).v : Int)) ∧ Cur w' b s ((countA s o er m).o : Int) (countA s o er m).e ∧ Only b w w' := by
  by_cases h0 : er = 0
  · subst h0
    obtain ⟨hb1, hb2, hb3⟩ := tkA_bound ho
    have hTe : (cnt (tkA s o) m).er ≠ 0 → (cnt (tkA s o) m).n = 0 ∧ (cnt (tkA s o) m).sz = 0 := cnt_err tkA_err
    have hTs := (cnt_sz (T := tkA s o) (m := m)).1
    have hct := count_ok hcu ho hs (tkA s o) rfl m hm
    obtain ⟨T, hT⟩ : ∃ T, cnt (tkA s o) m = T := ⟨_, rfl⟩
    have hA : countA s o 0 m = ⟨T.n, o + T.sz, T.er⟩ := by unfold countA; rw [if_pos rfl, hT]
    rw [hA]
    rw [hT] at hTe hTs hct
    clear hA
    have h10 : T.sz ≤ 10 := by omega
    clear hTs hb1 hb2 hb3
    show Calls Try.prog 96 _ w fun e w' => e = .returned (.int .i64 (T.n : Int)) ∧ Cur w' b s ((o + T.sz : Nat) : Int) T.er ∧ Only b w w'
    go_enter Try.func96, Try.ntmps96
    go_wp2_with fail
    refine hct.mono ?_
    rintro e w1 ⟨rfl, hk1, ho1⟩
    clear hT
    by_cases h1 : T.er = 0
    · rw [h1] at hk1
      have H1 : Hid (T.er = 0) := h1
      clear h1
      go_wp2_with fail
      refine (skip_ok hk1 _ (by omega) (by omega) (by omega) (by omega)).mono ?_
      rintro e w2 ⟨rfl, hk2, ho2⟩
      clear hTe
      go_wp2
      go_ret
      rw [H1.out]
      exact ⟨rfl, hk2, ho1.trans ho2⟩
    · have h2 : Hid (o + T.sz = o) := by have := (hTe h1).2; show o + T.sz = o; omega
      clear hTe
      go_wp2_with fail
      refine (skip_err hk1 h1 _).mono ?_
      rintro e w2 ⟨rfl, rfl⟩
      go_wp2
      go_ret
      rw [h2.out]
      exact ⟨rfl, hk1, ho1⟩
  · have hA : countA s o er m = ⟨0, o, er⟩ := if_neg h0
    rw [hA]
    show Calls Try.prog 96 _ w fun e w' => e = .returned (.int .i64 0) ∧ Cur w' b s (o : Int) er ∧ Only b w w'
    clear hA
    go_enter Try.func96, Try.ntmps96
    go_wp2_with fail
    refine (count_err hcu h0 m).mono ?_
    rintro e w1 ⟨rfl, hk1, ho1⟩
    go_wp2_with fail
    refine (skip_err hk1 h0 _).mono ?_
    rintro e w1 ⟨rfl, rfl⟩
    go_wp2
    go_ret
    exact ⟨rfl, hk1, ho1⟩
end Go.Proofs.Ytjmjlijmeahmfaa
namespace Go.Proofs.Ytjmjlijmeahmfaa
open Go.RowKit
def bytesA (s : ByteArray) (o : Nat) (er n : Int) : Ans ByteArray :=
  if er = 0 then (if n < 0 then ⟨⟨#[]⟩, o, 1⟩ else if (s.size : Int) - (o : Int) < n then ⟨⟨#[]⟩, o, 4⟩ else ⟨s.extract o (o + n.toNat), o + n.toNat, 0⟩) else ⟨⟨#[]⟩, o, er⟩
def textA (s : ByteArray) (o : Nat) (er m : Int) : Ans ByteArray :=
  if er = 0 then
    (if (cnt (tkA s o) (min m 1048576)).er = 0 then
      (if s.size < o + (cnt (tkA s o) (min m 1048576)).sz + (cnt (tkA s o) (min m 1048576)).n then ⟨⟨#[]⟩, o, 4⟩
       else ⟨s.extract (o + (cnt (tkA s o) (min m 1048576)).sz) (o + (cnt (tkA s o) (min m 1048576)).sz + (cnt (tkA s o) (min m 1048576)).n), o + (cnt (tkA s o) (min m 1048576)).sz + (cnt (tkA s o) (min m 1048576)).n, 0⟩)
     else ⟨⟨#[]⟩, o, (cnt (tkA s o) (min m 1048576)).er⟩)
  else ⟨⟨#[]⟩, o, er⟩
def byteAt (s : ByteArray) (o : Nat) : Nat := (s.data.toList.getD o 0).toNat
def boolA (s : ByteArray) (o : Nat) (er : Int) : Ans Bool :=
  if er = 0 then (if o < s.size then (if 1 < byteAt s o then ⟨false, o, 6⟩ else ⟨(byteAt s o : Int) == 1, o + 1, 0⟩) else ⟨false, o, 4⟩) else ⟨false, o, er⟩
set_option maxHeartbeats 400000 in
theorem bytes_nil (n : Int) (w : World) : Calls Try.prog 72 #[.pointer none, .int .i64 n] w fun e w' => e = .returned (.string ⟨#[]⟩) ∧ w' = w := by
  by_cases hn : n < 0
  · go_enter Try.func72, Try.ntmps72
    go_wp2_with fail
    refine (fail_nil _ _).mono ?_
    rintro e w1 ⟨rfl, rfl⟩
    go_wp2_with fail
    refine (piece_nil _ _ _).mono ?_
    rintro e w1 ⟨rfl, rfl⟩
    go_wp2_with fail
    refine (skip_nil _ _).mono ?_
    rintro e w1 ⟨rfl, rfl⟩
    go_wp2
    go_ret
    exact ⟨rfl, rfl⟩
  · go_enter Try.func72, Try.ntmps72
    go_wp2_with fail
    refine (piece_nil _ _ _).mono ?_
    rintro e w1 ⟨rfl, rfl⟩
    go_wp2_with fail
    refine (skip_nil _ _).mono ?_
    rintro e w1 ⟨rfl, rfl⟩
    go_wp2
    go_ret
    exact ⟨rfl, rfl⟩
set_option maxHeartbeats 400000 in
theorem bytes_bad {w : World} {b : Nat} {s : ByteArray} {o er n : Int} (hcu : Cur w b s o er) (hn : n < 0) :
    Calls Try.prog 72 #[.pointer (some ⟨b, 0, none⟩), .int .i64 n] w fun e w' => e = .returned (.string ⟨#[]⟩) ∧ Cur w' b s o (if er = 0 then 1 else er) ∧ Only b w w' := by
  have hne : (if er = 0 then 1 else er) ≠ 0 := by split <;> omega
  have hfa := fail_at hcu 1
  obtain ⟨e', he'⟩ : ∃ e' : Int, (if er = 0 then 1 else er) = e' := ⟨_, rfl⟩
  rw [he'] at hne hfa ⊢
  clear he'
  go_enter Try.func72, Try.ntmps72
  go_wp2_with fail
  refine hfa.mono ?_
  rintro e w1 ⟨rfl, hk1, ho1⟩
  go_wp2_with fail
  refine (piece_err hk1 hne _ _).mono ?_
  rintro e w2 ⟨rfl, rfl⟩
  go_wp2_with fail
  refine (skip_err hk1 hne _).mono ?_
  rintro e w2 ⟨rfl, rfl⟩
  go_wp2
  go_ret
  exact ⟨rfl, hk1, ho1⟩
set_option maxHeartbeats 400000 in
theorem bytes_err {w : World} {b : Nat} {s : ByteArray} {o er n : Int} (hcu : Cur w b s o er) (h0 : er ≠ 0) (hn : ¬ n < 0) :
    Calls Try.prog 72 #[.pointer (some ⟨b, 0, none⟩), .int .i64 n] w fun e w' => e = .returned (.string ⟨#[]⟩) ∧ w' = w := by
  go_enter Try.func72, Try.ntmps72
  go_wp2_with fail
  refine (piece_err hcu h0 _ _).mono ?_
  rintro e w2 ⟨rfl, rfl⟩
  go_wp2_with fail
  refine (skip_err hcu h0 _).mono ?_
  rintro e w2 ⟨rfl, rfl⟩
  go_wp2
  go_ret
  exact ⟨rfl, rfl⟩
set_option maxHeartbeats 400000 in
theorem bytes_short {w : World} {b : Nat} {s : ByteArray} {o : Nat} {n : Int} (hcu : Cur w b s (o : Int) 0) (ho : o ≤ s.size) (hs : s.size ≤ 4096) (h0 : ¬ n < 0) (hn : (s.size : Int) - (o : Int) < n) :
    Calls Try.prog 72 #[.pointer (some ⟨b, 0, none⟩), .int .i64 n] w fun e w' => e = .returned (.string ⟨#[]⟩) ∧ Cur w' b s (o : Int) 4 ∧ Only b w w' := by
  have hp := piece_short (k := 0) hcu (by omega) hs (by simpa using hn)
  clear hn
  go_enter Try.func72, Try.ntmps72
  go_wp2_with fail
  refine hp.mono ?_
  rintro e w1 ⟨rfl, hk1, ho1⟩
  go_wp2_with fail
  refine (skip_err hk1 (by decide) _).mono ?_
  rintro e w2 ⟨rfl, rfl⟩
  go_wp2
  go_ret
  exact ⟨rfl, hk1, ho1⟩
set_option maxHeartbeats 400000 in
theorem bytes_ok {w : World} {b : Nat} {s : ByteArray} {o n : Nat} (hcu : Cur w b s (o : Int) 0) (hs : s.size ≤ 4096) (hn : o + n ≤ s.size) :
    Calls Try.prog 72 #[.pointer (some ⟨b, 0, none⟩), .int .i64 (n : Int)] w fun e w' => e = .returned (.string (s.extract o (o + n))) ∧ Cur w' b s ((o + n : Nat) : Int) 0 ∧ Only b w w' := by
  have hp := piece_ok (k := 0) (n := n) hcu hs (by omega)
  have hsz : (s.extract o (o + n)).size = n := by simp; omega
  rw [Nat.add_zero] at hp
  obtain ⟨x, hx⟩ : ∃ x, s.extract o (o + n) = x := ⟨_, rfl⟩
  rw [hx] at hp hsz ⊢
  clear hx
  go_enter Try.func72, Try.ntmps72
  go_wp2_with fail
  refine hp.mono ?_
  rintro e w1 ⟨rfl, hk1, ho1⟩
  go_wp2_with fail
  refine (skip_ok hk1 _ (by omega) (by omega) (by omega) (by omega)).mono ?_
  rintro e w2 ⟨rfl, hk2, ho2⟩
  go_wp2
  go_ret
  exact ⟨rfl, hk2, ho1.trans ho2⟩
theorem bytes_at {w : World} {b : Nat} {s : ByteArray} {o : Nat} {er : Int} (hcu : Cur w b s (o : Int) er) (ho : o ≤ s.size) (hs : s.size ≤ 4096) (n : Int) :
    Calls Try.prog 72 #[.pointer (some ⟨b, 0, none⟩), .int .i64 n] w fun e w' => e = .returned (.string (bytesA s o er n).v) ∧ Cur w' b s ((bytesA s o er n).o : Int) (bytesA s o er n).e ∧ Only b w w' := by
  by_cases h0 : er = 0
  · subst h0
    by_cases h1 : n < 0
    · have hA : bytesA s o 0 n = ⟨⟨#[]⟩, o, 1⟩ := by unfold bytesA; rw [if_pos rfl, if_pos h1]
      rw [hA]
      exact bytes_bad hcu h1
    · by_cases h2 : (s.size : Int) - (o : Int) < n
      · have hA : bytesA s o 0 n = ⟨⟨#[]⟩, o, 4⟩ := by unfold bytesA; rw [if_pos rfl, if_neg h1, if_pos h2]
        rw [hA]
        exact bytes_short hcu ho hs h1 h2
      · have hA : bytesA s o 0 n = ⟨s.extract o (o + n.toNat), o + n.toNat, 0⟩ := by unfold bytesA; rw [if_pos rfl, if_neg h1, if_neg h2]
        rw [hA]
        have := bytes_ok (n := n.toNat) hcu hs (by omega)
        rw [Int.toNat_of_nonneg (by omega : 0 ≤ n)] at this
        exact this
  · have hA : bytesA s o er n = ⟨⟨#[]⟩, o, er⟩ := if_neg h0
    rw [hA]
    by_cases h1 : n < 0
    · have := bytes_bad hcu h1
      rw [if_neg h0] at this
      exact this
    · refine (bytes_err hcu h0 h1).mono ?_
      rintro e w' ⟨rfl, rfl⟩
      exact ⟨rfl, hcu, Only.refl _ _⟩
end Go.Proofs.Ytjmjlijmeahmfaa
namespace Go.Proofs.Ytjmjlijmeahmfaa
open Go.RowKit
set_option maxHeartbeats 400000 in
theorem text_nil (m : Int) (w : World) : Calls Try.prog 75 #[.pointer none, .int .i64 m] w fun e w' => e = .returned (.string ⟨#[]⟩) ∧ w' = w := by
  by_cases hm : m ≤ 1048576
  all_goals
    go_enter Try.func75, Try.ntmps75
    go_wp2_with fail
    refine (count_nil _ _).mono ?_
    rintro e w1 ⟨rfl, rfl⟩
    go_wp2_with fail
    refine (piece_nil _ _ _).mono ?_
    rintro e w1 ⟨rfl, rfl⟩
    go_wp2_with fail
    refine (skip_nil _ _).mono ?_
    rintro e w1 ⟨rfl, rfl⟩
    go_wp2
    go_ret
    exact ⟨rfl, rfl⟩
set_option maxHeartbeats 400000 in
theorem text_err {w : World} {b : Nat} {s : ByteArray} {o er : Int} (hcu : Cur w b s o er) (h0 : er ≠ 0) (m : Int) :
    Calls Try.prog 75 #[.pointer (some ⟨b, 0, none⟩), .int .i64 m] w fun e w' => e = .returned (.string ⟨#[]⟩) ∧ Cur w' b s o er ∧ Only b w w' := by
  by_cases hm : m ≤ 1048576
  all_goals
    go_enter Try.func75, Try.ntmps75
    go_wp2_with fail
    refine (count_err hcu h0 _).mono ?_
    rintro e w1 ⟨rfl, hk1, ho1⟩
    go_wp2_with fail
    refine (piece_err hk1 h0 _ _).mono ?_
    rintro e w2 ⟨rfl, rfl⟩
    go_wp2_with fail
    refine (skip_err hk1 h0 _).mono ?_
    rintro e w2 ⟨rfl, rfl⟩
    go_wp2
    go_ret
    exact ⟨rfl, hk1, ho1⟩
theorem text_no {w : World} {b : Nat} {s : ByteArray} {o : Nat} (C : Tk) (m M : Int) (hM : M = min m 1048576) (hC : C.er ≠ 0 → C.n = 0 ∧ C.sz = 0) (h1 : C.er ≠ 0)
    (hct : Calls Try.prog 95 #[.pointer (some ⟨b, 0, none⟩), .int .i64 M] w fun e w' => e = .returned (.tuple #[.int .i64 (C.n : Int), .int .i64 (C.sz : Int)]) ∧ Cur w' b s (o : Int) C.er ∧ Only b w w') :
    Calls Try.prog 75 #[.pointer (some ⟨b, 0, none⟩), .int .i64 m] w fun e w' => e = .returned (.string ⟨#[]⟩) ∧ Cur w' b s (o : Int) C.er ∧ Only b w w' := by
  obtain ⟨hn, hz⟩ := hC h1
  rw [hn, hz] at hct
  obtain ⟨er, her⟩ : ∃ er, C.er = er := ⟨_, rfl⟩
  rw [her] at hct h1 ⊢
  clear hC hn hz her
  by_cases hm : m ≤ 1048576
  · obtain rfl : M = m := by omega
    clear hM
    go_enter Try.func75, Try.ntmps75
    go_wp2_with fail
    refine hct.mono ?_
    rintro e w1 ⟨rfl, hk1, ho1⟩
    go_wp2_with fail
    refine (piece_err hk1 h1 _ _).mono ?_
    rintro e w2 ⟨rfl, rfl⟩
    go_wp2_with fail
    refine (skip_err hk1 h1 _).mono ?_
    rintro e w2 ⟨rfl, rfl⟩
    go_wp2
    go_ret
    exact ⟨rfl, hk1, ho1⟩
  · obtain rfl : M = 1048576 := by omega
    clear hM
    go_enter Try.func75, Try.ntmps75
    go_wp2_with fail
    refine hct.mono ?_
    rintro e w1 ⟨rfl, hk1, ho1⟩
    go_wp2_with fail
    refine (piece_err hk1 h1 _ _).mono ?_
    rintro e w2 ⟨rfl, rfl⟩
    go_wp2_with fail
    refine (skip_err hk1 h1 _).mono ?_
    rintro e w2 ⟨rfl, rfl⟩
    go_wp2
    go_ret
    exact ⟨rfl, hk1, ho1⟩
theorem text_short {w : World} {b : Nat} {s : ByteArray} {o n z : Nat} (m M : Int) (hM : M = min m 1048576) (hz : o + z ≤ s.size) (hs : s.size ≤ 4096) (hn : s.size < o + z + n) (hn2 : n ≤ 1048576)
    (hct : Calls Try.prog 95 #[.pointer (some ⟨b, 0, none⟩), .int .i64 M] w fun e w' => e = .returned (.tuple #[.int .i64 (n : Int), .int .i64 (z : Int)]) ∧ Cur w' b s (o : Int) 0 ∧ Only b w w') :
    Calls Try.prog 75 #[.pointer (some ⟨b, 0, none⟩), .int .i64 m] w fun e w' => e = .returned (.string ⟨#[]⟩) ∧ Cur w' b s (o : Int) 4 ∧ Only b w w' := by
  have hn' : Hid ((s.size : Int) - ((o + z : Nat) : Int) < (n : Int)) := by show _ < _; omega
  have hw : IntKind.i64.wrap ((z : Int) + (n : Int)) = (z : Int) + (n : Int) := by rw [IntKind.wrap_i64]; omega
  by_cases hm : m ≤ 1048576
  · obtain rfl : M = m := by omega
    clear hM
    go_enter Try.func75, Try.ntmps75
    go_wp2_with fail
    refine hct.mono ?_
    rintro e w1 ⟨rfl, hk1, ho1⟩
    go_wp2_with fail
    refine (piece_short hk1 hz hs hn'.out).mono ?_
    rintro e w2 ⟨rfl, hk2, ho2⟩
    go_wp2_with fail
    refine (skip_err hk2 (by decide) _).mono ?_
    rintro e w3 ⟨rfl, rfl⟩
    go_wp2
    go_ret
    exact ⟨rfl, hk2, ho1.trans ho2⟩
  · obtain rfl : M = 1048576 := by omega
    clear hM
    go_enter Try.func75, Try.ntmps75
    go_wp2_with fail
    refine hct.mono ?_
    rintro e w1 ⟨rfl, hk1, ho1⟩
    go_wp2_with fail
    refine (piece_short hk1 hz hs hn'.out).mono ?_
    rintro e w2 ⟨rfl, hk2, ho2⟩
    go_wp2_with fail
    refine (skip_err hk2 (by decide) _).mono ?_
    rintro e w3 ⟨rfl, rfl⟩
    go_wp2
    go_ret
    exact ⟨rfl, hk2, ho1.trans ho2⟩
theorem text_ok {w : World} {b : Nat} {s : ByteArray} {o n z : Nat} (m M : Int) (hM : M = min m 1048576) (hs : s.size ≤ 4096) (hn : o + z + n ≤ s.size)
    (hct : Calls Try.prog 95 #[.pointer (some ⟨b, 0, none⟩), .int .i64 M] w fun e w' => e = .returned (.tuple #[.int .i64 (n : Int), .int .i64 (z : Int)]) ∧ Cur w' b s (o : Int) 0 ∧ Only b w w') :
    Calls Try.prog 75 #[.pointer (some ⟨b, 0, none⟩), .int .i64 m] w fun e w' => e = .returned (.string (s.extract (o + z) (o + z + n))) ∧ Cur w' b s ((o + z + n : Nat) : Int) 0 ∧ Only b w w' := by
  have hw : IntKind.i64.wrap ((z : Int) + (n : Int)) = (z : Int) + (n : Int) := by rw [IntKind.wrap_i64]; omega
  have he : Hid (((o + z + n : Nat) : Int) = (o : Int) + ((z : Int) + (n : Int))) := by show _ = _; omega
  by_cases hm : m ≤ 1048576
  · obtain rfl : M = m := by omega
    clear hM
    go_enter Try.func75, Try.ntmps75
    go_wp2_with fail
    refine hct.mono ?_
    rintro e w1 ⟨rfl, hk1, ho1⟩
    go_wp2_with fail
    refine (piece_ok hk1 hs hn).mono ?_
    rintro e w2 ⟨rfl, hk2, ho2⟩
    go_wp2_with fail
    refine (skip_ok hk2 _ (by omega) (by omega) (by omega) (by omega)).mono ?_
    rintro e w3 ⟨rfl, hk3, ho3⟩
    go_wp2
    go_ret
    rw [he.out]
    exact ⟨rfl, hk3, (ho1.trans ho2).trans ho3⟩
  · obtain rfl : M = 1048576 := by omega
    clear hM
    go_enter Try.func75, Try.ntmps75
    go_wp2_with fail
    refine hct.mono ?_
    rintro e w1 ⟨rfl, hk1, ho1⟩
    go_wp2_with fail
    refine (piece_ok hk1 hs hn).mono ?_
    rintro e w2 ⟨rfl, hk2, ho2⟩
    go_wp2_with fail
    refine (skip_ok hk2 _ (by omega) (by omega) (by omega) (by omega)).mono ?_
    rintro e w3 ⟨rfl, hk3, ho3⟩
    go_wp2
    go_ret
    rw [he.out]
    exact ⟨rfl, hk3, (ho1.trans ho2).trans ho3⟩
theorem text_at {w : World} {b : Nat} {s : ByteArray} {o : Nat} {er : Int} (hcu : Cur w b s (o : Int) er) (ho : o ≤ s.size) (hs : s.size ≤ 4096) (m : Int) :
    Calls Try.prog 75 #[.pointer (some ⟨b, 0, none⟩), .int .i64 m] w fun e w' => e = .returned (.string (textA s o er m).v) ∧ Cur w' b s ((textA s o er m).o : Int) (textA s o er m).e ∧ Only b w w' := by
  by_cases h0 : er = 0
  · subst h0
    have hct := count_ok hcu ho hs (tkA s o) rfl (min m 1048576) (by omega)
    have hTe := cnt_err (m := min m 1048576) (tkA_err (s := s) (o := o))
    have hsz := (cnt_sz (T := tkA s o) (m := min m 1048576)).1
    have hmo := cnt_most (T := tkA s o) (m := min m 1048576)
    have hbd := (tkA_bound ho).2.1
    obtain ⟨C, hC⟩ : ∃ C, cnt (tkA s o) (min m 1048576) = C := ⟨_, rfl⟩
    rw [hC] at hct hTe hsz hmo
    by_cases h1 : C.er = 0
    · rw [h1] at hct
      have hle := (hmo h1).2
      by_cases h2 : s.size < o + C.sz + C.n
      · have hA : textA s o 0 m = ⟨⟨#[]⟩, o, 4⟩ := by unfold textA; rw [hC, if_pos rfl, if_pos h1, if_pos h2]
        rw [hA]
        exact text_short (o := o) m _ rfl (by omega) hs h2 (by omega) hct
      · have hA : textA s o 0 m = ⟨s.extract (o + C.sz) (o + C.sz + C.n), o + C.sz + C.n, 0⟩ := by unfold textA; rw [hC, if_pos rfl, if_pos h1, if_neg h2]
        rw [hA]
        exact text_ok (o := o) m _ rfl hs (by omega) hct
    · have hA : textA s o 0 m = ⟨⟨#[]⟩, o, C.er⟩ := by unfold textA; rw [hC, if_pos rfl, if_neg h1]
      rw [hA]
      exact text_no C m _ rfl hTe h1 hct
  · have hA : textA s o er m = ⟨⟨#[]⟩, o, er⟩ := if_neg h0
    rw [hA]
    exact text_err hcu h0 m
end Go.Proofs.Ytjmjlijmeahmfaa
namespace Go.Proofs.Ytjmjlijmeahmfaa
open Go.RowKit
set_option maxHeartbeats 400000 in
theorem bool_nil (w : World) : Calls Try.prog 73 #[.pointer none] w fun e w' => e = .returned (.bool false) ∧ w' = w := by
  go_enter Try.func73, Try.ntmps73
  go_wp2_with fail
  refine (piece_nil _ _ _).mono ?_
  rintro e w1 ⟨rfl, rfl⟩
  go_wp2
  go_ret
  exact ⟨rfl, rfl⟩
set_option maxHeartbeats 400000 in
theorem bool_err {w : World} {b : Nat} {s : ByteArray} {o er : Int} (hcu : Cur w b s o er) (h0 : er ≠ 0) : Calls Try.prog 73 #[.pointer (some ⟨b, 0, none⟩)] w fun e w' => e = .returned (.bool false) ∧ w' = w := by
  go_enter Try.func73, Try.ntmps73
  go_wp2_with fail
  refine (piece_err hcu h0 _ _).mono ?_
  rintro e w1 ⟨rfl, rfl⟩
  go_wp2
  go_ret
  exact ⟨rfl, rfl⟩
set_option maxHeartbeats 400000 in
theorem bool_short {w : World} {b : Nat} {s : ByteArray} {o : Nat} (hcu : Cur w b s (o : Int) 0) (ho : o = s.size) (hs : s.size ≤ 4096) : Calls Try.prog 73 #[.pointer (some ⟨b, 0, none⟩)] w fun e w' => e = .returned (.bool false) ∧ Cur w' b s (o : Int) 4 ∧ Only b w w' := by
  have hp := piece_short (k := 0) (n := 1) hcu (by omega) hs (by simp; omega)
  go_enter Try.func73, Try.ntmps73
  go_wp2_with fail
  refine hp.mono ?_
  rintro e w1 ⟨rfl, hk1, ho1⟩
  go_wp2
  go_ret
  exact ⟨rfl, hk1, ho1⟩
theorem ext1 (s : ByteArray) (o : Nat) (h : o < s.size) : (s.extract o (o + 1)).data.toList = [s.data.toList.getD o 0] := by
  have hl : o < s.data.toList.length := by rw [← Lib.size_eq]; exact h
  rw [Lib.extract_data, List.drop_eq_getElem_cons hl, Nat.add_sub_cancel_left]
  rw [List.getD_eq_getElem?_getD, List.getElem?_eq_getElem hl]
  rfl
theorem ext1' (s : ByteArray) (o : Nat) (h : o < s.size) : s.extract o (o + 1) = ⟨#[s.data.toList.getD o 0]⟩ := by
  have e := ext1 s o h
  exact ByteArray.ext (Array.toList_inj.mp e)
set_option maxHeartbeats 400000 in
theorem bool_here {w : World} {b : Nat} {s : ByteArray} {o : Nat} (hcu : Cur w b s (o : Int) 0) (ho : o < s.size) (hs : s.size ≤ 4096) : Calls Try.prog 73 #[.pointer (some ⟨b, 0, none⟩)] w fun e w' => e = .returned (.bool (boolA s o 0).v) ∧ Cur w' b s ((boolA s o 0).o : Int) (boolA s o 0).e ∧ Only b w w' := by
  have hp := piece_ok (k := 0) (n := 1) hcu hs (by omega)
  rw [Nat.add_zero, ext1' s o ho] at hp
  have hA : boolA s o 0 = if 1 < byteAt s o then ⟨false, o, 6⟩ else ⟨(byteAt s o : Int) == 1, o + 1, 0⟩ := by unfold boolA; rw [if_pos rfl, if_pos ho]
  have hB : byteAt s o = (s.data.toList.getD o 0).toNat := rfl
  rw [hA, hB]
  obtain ⟨x, hx⟩ : ∃ x, s.data.toList.getD o 0 = x := ⟨_, rfl⟩
  rw [hx] at hp ⊢
  clear hA hB hx
  obtain ⟨y, hy⟩ : ∃ y : ByteArray, (⟨#[x]⟩ : ByteArray) = y := ⟨_, rfl⟩
  have hys : 0 < y.size := by rw [← hy]; exact Nat.zero_lt_one
  have hy0 : y[0] = x := by subst hy; rfl
  have hye : y.toList.isEmpty = false := by subst hy; rw [Lib.toList_data]; rfl
  rw [hy] at hp
  clear hy
  by_cases h1 : 1 < x.toNat
  · rw [if_pos h1]
    have h1' : (1 : Int) < (x.toNat : Int) := by omega
    show Calls Try.prog 73 _ w fun e w' => e = .returned (.bool false) ∧ Cur w' b s (o : Int) 6 ∧ Only b w w'
    go_enter Try.func73, Try.ntmps73
    go_wp2_with fail
    refine hp.mono ?_
    rintro e w1 ⟨rfl, hk1, ho1⟩
    go_wp2_with fail
    refine (fail_at hk1 _).mono ?_
    rintro e w2 ⟨rfl, hk2, ho2⟩
    rw [if_pos rfl] at hk2
    go_wp2
    go_ret
    exact ⟨rfl, hk2, ho1.trans ho2⟩
  · rw [if_neg h1]
    have h1' : ¬ (1 : Int) < (x.toNat : Int) := by omega
    show Calls Try.prog 73 _ w fun e w' => e = .returned (.bool ((x.toNat : Int) == 1)) ∧ Cur w' b s ((o + 1 : Nat) : Int) 0 ∧ Only b w w'
    go_enter Try.func73, Try.ntmps73
    go_wp2_with fail
    refine hp.mono ?_
    rintro e w1 ⟨rfl, hk1, ho1⟩
    go_wp2_with fail
    refine (skip_ok hk1 _ (by omega) (by omega) (by omega) (by omega)).mono ?_
    rintro e w2 ⟨rfl, hk2, ho2⟩
    go_wp2
    go_ret
    exact ⟨rfl, hk2, ho1.trans ho2⟩
theorem bool_at {w : World} {b : Nat} {s : ByteArray} {o : Nat} {er : Int} (hcu : Cur w b s (o : Int) er) (ho : o ≤ s.size) (hs : s.size ≤ 4096) :
    Calls Try.prog 73 #[.pointer (some ⟨b, 0, none⟩)] w fun e w' => e = .returned (.bool (boolA s o er).v) ∧ Cur w' b s ((boolA s o er).o : Int) (boolA s o er).e ∧ Only b w w' := by
  by_cases h0 : er = 0
  · subst h0
    by_cases h1 : o < s.size
    · exact bool_here hcu h1 hs
    · have hA : boolA s o 0 = ⟨false, o, 4⟩ := by unfold boolA; rw [if_pos rfl, if_neg h1]
      rw [hA]
      exact bool_short (o := o) hcu (by omega) hs
  · have hA : boolA s o er = ⟨false, o, er⟩ := if_neg h0
    rw [hA]
    refine (bool_err hcu h0).mono ?_
    rintro e w' ⟨rfl, rfl⟩
    exact ⟨rfl, hcu, Only.refl _ _⟩
end Go.Proofs.Ytjmjlijmeahmfaa
namespace Go.Proofs.Ytjmjlijmeahmfaa
open Go.RowKit
def bcs (l : List UInt8) : Array Value := (Lib.byteCells l).toArray
theorem bcs_get (l : List UInt8) (i : Nat) (hi : i < l.length) : (bcs l)[i]? = some (.int .u8 ((l.getD i 0).toNat : Int)) := by
  simp [bcs, Lib.byteCells, List.getD_eq_getElem?_getD, hi]
theorem bcs_set (l : List UInt8) (n : Nat) (b : UInt8) : (bcs l).setIfInBounds n (.int .u8 (b.toNat : Int)) = bcs (l.set n b) := by
  unfold bcs Lib.byteCells
  rw [List.map_set, List.setIfInBounds_toArray]
theorem brow_cell {W : World} {g : Nat} {l : List UInt8} {t : TypeId} {fr : Nat × Nat} (h : W.heap[g]? = some (.cells (bcs l) t fr)) (i : Nat) (hi : i < l.length) : W.cell? ⟨g, i, none⟩ = some (.int .u8 ((l.getD i 0).toNat : Int)) := by
  rw [cell_of_row W g i _ t fr h, bcs_get l i hi]
theorem brow_set {W : World} {g : Nat} {l : List UInt8} {t : TypeId} (h : W.heap[g]? = some (.cells (bcs l) t (0, 0))) (n : Nat) (b : UInt8) (v : Int) (hv : v = (b.toNat : Int)) :
    (W.setCell ⟨g, n, none⟩ (.int .u8 v)).heap[g]? = some (.cells (bcs (l.set n b)) t (0, 0)) := by
  rw [row_setCell h, hv, bcs_set]
def padz (m : Nat) (l : List UInt8) : List UInt8 := l ++ List.replicate (m - l.length) 0
theorem padz_len (m : Nat) (l : List UInt8) (h : l.length ≤ m) : (padz m l).length = m := by simp [padz]; omega
theorem padz_set (m : Nat) (l : List UInt8) (x : UInt8) (n : Nat) (hn : n = l.length) (h : l.length < m) : (padz m l).set n x = padz m (l ++ [x]) := by
  subst hn
  unfold padz
  obtain ⟨q, hq⟩ : ∃ q, m - l.length = q + 1 := ⟨m - l.length - 1, by omega⟩
  have hq' : m - (l ++ [x]).length = q := by simp; omega
  rw [hq, hq', List.set_append_right _ _ (Nat.le_refl _), Nat.sub_self, List.replicate_succ, List.set_cons_zero]
  simp
theorem padz_get (m : Nat) (l : List UInt8) (j : Nat) (h : j < l.length) : (padz m l).getD j 0 = l[j] := by
  unfold padz
  rw [List.getD_eq_getElem?_getD, List.getElem?_append_left h, List.getElem?_eq_getElem h]
  rfl
theorem zero10 : (#[Value.int IntKind.u8 0, Value.int IntKind.u8 0, Value.int IntKind.u8 0, Value.int IntKind.u8 0, Value.int IntKind.u8 0, Value.int IntKind.u8 0, Value.int IntKind.u8 0, Value.int IntKind.u8 0, Value.int IntKind.u8 0, Value.int IntKind.u8 0] : Array Value) = bcs (padz 10 []) := rfl
theorem or128 {n : Nat} : bits BinOp.or IntKind.u8 (IntKind.u8.wrap (n : Int)) 128 = ((UInt8.ofNat (n % 128 + 128)).toNat : Int) := by
  rw [toNat_ofNat_lt (by omega), IntKind.wrap_u8']
  have e : ((n : Int) % 256) = ((n % 256 : Nat) : Int) := by omega
  have e2 : (128 : Int) = ((128 : Nat) : Int) := rfl
  rw [e, e2, u8_or_nat _ _ (by omega) (by omega)]
  congr 1
  have h : ∀ m : Nat, m < 256 → m ||| 128 = m % 128 + 128 := by decide +kernel
  rw [h _ (by omega)]
  omega
theorem slice10 (g i : Nat) (hi : i ≤ 9) (W : World) : (Instr.sliceAt 134 (.pointer (some ⟨g, 0, none⟩)) none (some (.int .i64 ((i : Int) + 1))) none).run Try.prog W = .ok (.slice (some ⟨g, 0, none⟩) (i + 1) 10) W := by
  have e10 : Try.prog.arrayLen 134 = 10 := by kernel_rfl
  have hs : (sizeOf (Try.prog.elem 134)).run Try.prog W = .ok 1 W := by kernel_rfl
  rw [run_sliceAt_array_h W 134 ⟨g, 0, none⟩ (by kernel_rfl) .i64 ((i : Int) + 1) (by omega) (by rw [e10]; omega), hs, e10]
  show Result.ok (slicedAt ⟨g, 0, none⟩ 0 ((i : Int) + 1).toNat 10 1) W = _
  have e : ((i : Int) + 1).toNat = i + 1 := by omega
  rw [e]
  rfl
theorem conv_put {W : World} {g : Nat} {P : List UInt8} (H : W.heap[g]? = some (.cells (bcs (padz 10 P)) 134 (0, 0))) (hP : P.length ≤ 10) (k : Nat) (hk : k = P.length) :
    (convert 64 9 (.slice (some ⟨g, 0, none⟩) k 10)).run Try.prog W = .ok (.string ⟨P.toArray⟩) W := by
  subst hk
  have hl := padz_len 10 P hP
  refine run_convert_bytes_back (P := Try.prog) W 64 9 5 ⟨g, 0, none⟩ 10 P Try.underlying64 Try.underlying5 Try.underlying9 (fun j hj => ?_)
  have e : (⟨g, 0, none⟩ : Addr).add j = ⟨g, j, none⟩ := by unfold Addr.add; split <;> simp_all
  rw [e, brow_cell H j (by omega), padz_get 10 P j hj]
theorem put_step {W : World} {g i : Nat} {P : List UInt8} (H : W.heap[g]? = some (.cells (bcs (padz 10 P)) 134 (0, 0))) (hP : P.length = i) (hi : i ≤ 9) (x : UInt8) (v : Int) (hv : v = (x.toNat : Int)) :
    (W.setCell ⟨g, i, none⟩ (.int .u8 v)).heap[g]? = some (.cells (bcs (padz 10 (P ++ [x]))) 134 (0, 0)) := by
  rw [brow_set H i x v hv, padz_set 10 P x i hP.symm (by omega)]
theorem or128' {n : Nat} : bits BinOp.or IntKind.u8 ((n : Int) % 256) 128 = ((UInt8.ofNat (n % 128 + 128)).toNat : Int) := by
  rw [← or128, IntKind.wrap_u8']
theorem le9 {m i : Nat} (h : m * 128 ^ i < 18446744073709551616) (hm : 128 ≤ m) : i + 1 ≤ 9 := by
  rcases Nat.lt_or_ge i 9 with h9 | h9
  · exact h9
  · have h1 : (128 : Nat) ^ 9 ≤ 128 ^ i := Nat.pow_le_pow_right (by omega) h9
    have h2 : 128 * 128 ^ 9 ≤ m * 128 ^ i := Nat.mul_le_mul hm h1
    have h3 : (128 : Nat) * 128 ^ 9 = 1180591620717411303424 := by decide
    omega
theorem next64 {m i : Nat} (h : m * 128 ^ i < 18446744073709551616) : m / 128 * 128 ^ (i + 1) < 18446744073709551616 := by
  have h1 : m / 128 * 128 ≤ m := Nat.div_mul_le_self m 128
  have h2 : m / 128 * 128 ^ (i + 1) = m / 128 * 128 * 128 ^ i := by rw [Nat.pow_succ, Nat.mul_comm (128 ^ i), Nat.mul_assoc]
  have h3 : m / 128 * 128 * 128 ^ i ≤ m * 128 ^ i := Nat.mul_le_mul_right _ h1
  omega
set_option maxHeartbeats 1000000 in
theorem put_any (n : Nat) (hn : n < 18446744073709551616) (w : World) :
    Calls Try.prog 91 #[.int .u64 (n : Int)] w fun e w' => e = .returned (.string ⟨(put n).toArray⟩) ∧ Below w.heap.size w w' := by
  go_enter Try.func91, Try.ntmps91
  go_wp2
  rw [zero10]
  have HN : Hid (put n = put n) := rfl
  go_loopw [0, 4] (fun c0 c4 wr => ∃ (m i : Nat) (P : List UInt8), P.length = i ∧ i ≤ 9 ∧ m * 128 ^ i < 18446744073709551616 ∧ P ++ put m = put n ∧ c0 = .int .u64 (m : Int) ∧ c4 = .int .i64 (i : Int) ∧ wr.heap[w.heap.size]? = some (.cells (bcs (padz 10 P)) 134 (0, 0)) ∧ Below w.heap.size w wr) (fun c0 _ _ => (intOf c0).toNat)
  case atStart =>
    exact ⟨n, 0, [], rfl, by omega, by simpa using hn, rfl, rfl, rfl, heap_alloc_new _ _, (Below.refl _ _).alloc (Nat.le_refl _) _⟩
  case round =>
    obtain ⟨m, i, P, hP, h9, hm, hput, rfl, rfl, hh, hb⟩ := hrel
    have HM : Hid (m * 128 ^ i < 18446744073709551616) := hm
    have HP : Hid (P ++ put m = put n) := hput
    have hm64 : m < 18446744073709551616 := by
      have : 1 ≤ 128 ^ i := Nat.one_le_pow _ _ (by omega)
      have : m * 1 ≤ m * 128 ^ i := Nat.mul_le_mul_left _ this
      omega
    have hpl := padz_len 10 P (by omega)
    have hc := brow_cell hh i (by omega)
    have hf := frozen_of_row wr _ i _ _ hh
    obtain ⟨v, hv⟩ : ∃ v : Int, (((padz 10 P).getD i 0).toNat : Int) = v := ⟨_, rfl⟩
    rw [hv] at hc
    clear hv hpl hm hput
    by_cases h128 : 128 ≤ m
    · have h128' : (128 : Int) ≤ (m : Int) := by omega
      have HS : Hid (P ++ [UInt8.ofNat (m % 128 + 128)] ++ put (m / 128) = put n) := by
        show _ = _
        rw [← HP.out, put_ge h128, List.append_assoc]; rfl
      clear HN
      go_wp2
      go_roundw
      case rel =>
        refine ⟨m / 128, i + 1, P ++ [UInt8.ofNat (m % 128 + 128)], by simp [hP], le9 HM.out h128, next64 HM.out, HS.out, by go_num, by go_num, put_step hh hP h9 _ _ or128', hb.setCell (by simp) _⟩
      case measure => simp [intOf]; omega
    · have h128' : ¬ (128 : Int) ≤ (m : Int) := by omega
      have hsl := fun W => slice10 w.heap.size i h9 W
      have hmw : IntKind.u8.wrap (m : Int) = (m : Int) := by rw [IntKind.wrap_u8']; omega
      have hrow := put_step hh hP h9 (UInt8.ofNat m) (m : Int) (by rw [toNat_ofNat_lt (by omega)])
      have hcv := conv_put hrow (by simp; omega) (i + 1) (by simp [hP])
      have HS : Hid (P ++ [UInt8.ofNat m] = put n) := by
        show _ = _
        rw [← HP.out, put_lt (by omega)]
      clear hrow HN
      go_wp2
      go_ret
      rw [HS.out]
      exact ⟨rfl, hb.setCell (by simp) _⟩
end Go.Proofs.Ytjmjlijmeahmfaa
namespace Go.Proofs.Ytjmjlijmeahmfaa
open Go.RowKit
theorem conv1w (W : World) (g : Nat) (b : UInt8) (v : Int) (hv : v = (b.toNat : Int)) (hc : W.cell? ⟨g, 0, none⟩ = some (.int .u8 v)) : (convert 64 9 (.slice (some ⟨g, 0, none⟩) 1 1)).run Try.prog W = .ok (.string ⟨#[b]⟩) W := by
  refine run_convert_bytes_back (P := Try.prog) W 64 9 5 ⟨g, 0, none⟩ 1 [b] Try.underlying64 Try.underlying5 Try.underlying9 (fun j hj => ?_)
  obtain rfl : j = 0 := by simp at hj; omega
  have e : (⟨g, 0, none⟩ : Addr).add 0 = ⟨g, 0, none⟩ := by unfold Addr.add; split <;> simp_all
  rw [e, hc, hv]; rfl
theorem conv1 (W : World) (b : UInt8) (t : TypeId) (v : Int) (hv : v = (b.toNat : Int)) : (convert 64 9 (.slice (some ⟨W.heap.size, 0, none⟩) 1 1)).run Try.prog (W.alloc (.cells #[.int .u8 v] t)) = .ok (.string ⟨#[b]⟩) (W.alloc (.cells #[.int .u8 v] t)) :=
  conv1w _ _ b v hv (cell_of_row _ _ 0 _ _ _ (heap_alloc_new _ _))
set_option maxHeartbeats 1000000 in
theorem rput_lt (n : Nat) (hn : n < 128) (w : World) :
    Calls Try.prog 47 #[.int .u64 (n : Int)] w fun e w' => e = .returned (.string ⟨#[UInt8.ofNat n]⟩) ∧ Below w.heap.size w w' := by
  have hn' : (n : Int) < 128 := by omega
  have hcv := fun v hv => conv1 w (UInt8.ofNat n) 5 v hv
  have hv : IntKind.u8.wrap (n : Int) = ((UInt8.ofNat n).toNat : Int) := by rw [toNat_ofNat_lt (by omega), IntKind.wrap_u8']; omega
  have hcv2 := hcv _ hv
  go_enter Try.func47, Try.ntmps47
  go_wp2
  go_ret
  exact ⟨rfl, (Below.refl _ _).alloc (Nat.le_refl _) _⟩
set_option maxRecDepth 20000 in
set_option maxHeartbeats 1000000 in
theorem rput_ge (n : Nat) (hn : 128 ≤ n) (hn2 : n < 18446744073709551616) (q : Nat) (hq : q = n / 128) (r : ByteArray) (hr : r.size ≤ 4096) (ih : ∀ W : World, Calls Try.prog 47 #[.int .u64 (q : Int)] W fun e w' => e = .returned (.string r) ∧ Below W.heap.size W w') (w : World) :
    Calls Try.prog 47 #[.int .u64 (n : Int)] w fun e w' => e = .returned (.string (⟨#[UInt8.ofNat (n % 128 + 128)]⟩ ++ r)) ∧ Below w.heap.size w w' := by
  have hn' : ¬ (n : Int) < 128 := by omega
  have hdiv : (n : Int) / 128 = (q : Int) := by omega
  clear hq
  obtain ⟨x, hx⟩ : ∃ x : UInt8, UInt8.ofNat (n % 128 + 128) = x := ⟨_, rfl⟩
  have hv : IntKind.u8.wrap (IntKind.u64.wrap ((n : Int).tmod 128 + 128)) = (x.toNat : Int) := by
    rw [← hx, toNat_ofNat_lt (by omega), IntKind.wrap_u8', IntKind.wrap_u64, Int.tmod_eq_emod_of_nonneg (by omega)]; omega
  rw [hx]
  clear hx
  obtain ⟨v, hvv⟩ : ∃ v, IntKind.u8.wrap (IntKind.u64.wrap ((n : Int).tmod 128 + 128)) = v := ⟨_, rfl⟩
  rw [hvv] at hv
  have hcvA : (convert 64 9 (.slice (some ⟨w.heap.size, 0, none⟩) 1 1)).run Try.prog (w.alloc (.cells #[.int .u8 v] 5)).drew = .ok (.string ⟨#[x]⟩) (w.alloc (.cells #[.int .u8 v] 5)).drew := conv1 w.drew x 5 v hv
  have hz1 : (⟨#[x]⟩ : ByteArray).size + r.size ≤ 9223372036854775807 := by show 1 + r.size ≤ _; omega
  have hz2 : 1 + r.size ≤ 9223372036854775807 := by omega
  have hz3 : 1 + (r.size : Int) ≤ 9223372036854775807 := by omega
  have hwq : IntKind.u64.wrap (q : Int) = (q : Int) := by rw [IntKind.wrap_u64]; omega
  have HV : Hid (v = (x.toNat : Int)) := hv
  clear hv
  go_enter Try.func47, Try.ntmps47
  go_wp2_with fail
  go_region_with ((go_at_call 47; refine (ih _).mono ?_; rintro e w5 ⟨rfl, hb5⟩; have hcvC := conv1 w5 x 5 v HV.out; (try have hcvB := conv1w w5 w.heap.size x v HV.out ((hb5.cell (by simp)).trans (cell_of_row _ _ 0 _ _ _ (heap_alloc_new w.drew _))))))
  all_goals
    go_wp2
    go_ret
    refine ⟨rfl, ?_⟩
    first
    | exact (((Below.refl _ w).alloc (Nat.le_refl _) _).drew).trans (hb5.mono (by simp))
    | exact (((Below.refl _ w).drew).trans hb5).alloc hb5.size _
theorem rput_any (n : Nat) : n < 18446744073709551616 → ∀ w : World,
    Calls Try.prog 47 #[.int .u64 (n : Int)] w fun e w' => e = .returned (.string ⟨(put n).toArray⟩) ∧ Below w.heap.size w w' := by
  induction n using Nat.strongRecOn with
  | ind n ih =>
    intro hn w
    by_cases h : n < 128
    · rw [put_lt h]
      exact rput_lt n h w
    · have hge : 128 ≤ n := by omega
      have hr : (⟨(put (n / 128)).toArray⟩ : ByteArray).size ≤ 4096 := by
        have := put_len10 (n := n / 128) (by omega)
        show (put (n / 128)).toArray.size ≤ 4096
        simp; omega
      have := rput_ge n hge hn (n / 128) rfl ⟨(put (n / 128)).toArray⟩ hr (fun W => ih (n / 128) (by omega) (by omega) W) w
      have e : (⟨#[UInt8.ofNat (n % 128 + 128)]⟩ ++ ⟨(put (n / 128)).toArray⟩ : ByteArray) = ⟨(put n).toArray⟩ := by
        rw [put_ge hge]
        apply ByteArray.ext
        rw [ByteArray.data_append]
        simp
      rw [e] at this
      exact this
end Go.Proofs.Ytjmjlijmeahmfaa
namespace Go.Proofs.Ytjmjlijmeahmfaa
open Go.RowKit
def zig (n : Int) : Nat := if n < 0 then (2 * (-(n + 1)) + 1).toNat else (2 * n).toNat
theorem zig_lt {n : Int} (h0 : -9223372036854775808 ≤ n) (h1 : n < 9223372036854775808) : zig n < 18446744073709551616 := by
  unfold zig; split <;> omega
theorem zag_zig (n : Int) : zag (zig n) = n := by
  unfold zag zig; split <;> split <;> omega
theorem zig_inj {n m : Int} (h : zig n = zig m) : n = m := by
  rw [← zag_zig n, h, zag_zig]
set_option maxHeartbeats 1000000 in
theorem eint_any (n : Int) (h0 : -9223372036854775808 ≤ n) (h1 : n < 9223372036854775808) (w : World) :
    Calls Try.prog 68 #[.int .i64 n] w fun e w' => e = .returned (.string ⟨(put (zig n)).toArray⟩) ∧ Below w.heap.size w w' := by
  have hpu := fun (W : World) => put_any (zig n) (zig_lt h0 h1) W
  obtain ⟨x, hx⟩ : ∃ x : ByteArray, (⟨(put (zig n)).toArray⟩ : ByteArray) = x := ⟨_, rfl⟩
  rw [hx] at hpu ⊢
  clear hx
  by_cases h : n < 0
  · have hz : (zig n : Int) = 2 * (-(n + 1)) + 1 := by unfold zig; rw [if_pos h]; omega
    rw [hz] at hpu
    clear hz
    have e1 : IntKind.i64.wrap (n + 1) = n + 1 := by rw [IntKind.wrap_i64]; omega
    have e2 : IntKind.i64.wrap (-(n + 1)) = -(n + 1) := by rw [IntKind.wrap_i64]; omega
    have e3 : IntKind.u64.wrap (-(n + 1)) = -(n + 1) := by rw [IntKind.wrap_u64]; omega
    have e4 : IntKind.u64.wrap (2 * (-(n + 1))) = 2 * (-(n + 1)) := by rw [IntKind.wrap_u64]; omega
    have e5 : IntKind.u64.wrap (2 * (-(n + 1)) + 1) = 2 * (-(n + 1)) + 1 := by rw [IntKind.wrap_u64]; omega
    go_enter Try.func68, Try.ntmps68
    go_wp2_with fail
    refine (hpu _).mono ?_
    rintro e w1 ⟨rfl, hb1⟩
    go_wp2
    go_ret
    exact ⟨rfl, hb1⟩
  · have hz : (zig n : Int) = 2 * n := by unfold zig; rw [if_neg h]; omega
    rw [hz] at hpu
    clear hz
    have e3 : IntKind.u64.wrap n = n := by rw [IntKind.wrap_u64]; omega
    have e4 : IntKind.u64.wrap (2 * n) = 2 * n := by rw [IntKind.wrap_u64]; omega
    go_enter Try.func68, Try.ntmps68
    go_wp2_with fail
    refine (hpu _).mono ?_
    rintro e w1 ⟨rfl, hb1⟩
    go_wp2
    go_ret
    exact ⟨rfl, hb1⟩
set_option maxHeartbeats 1000000 in
theorem rint_any (n : Int) (h0 : -9223372036854775808 ≤ n) (h1 : n < 9223372036854775808) (w : World) :
    Calls Try.prog 45 #[.int .i64 n] w fun e w' => e = .returned (.string ⟨(put (zig n)).toArray⟩) ∧ Below w.heap.size w w' := by
  have hpu := fun (W : World) => rput_any (zig n) (zig_lt h0 h1) W
  obtain ⟨x, hx⟩ : ∃ x : ByteArray, (⟨(put (zig n)).toArray⟩ : ByteArray) = x := ⟨_, rfl⟩
  rw [hx] at hpu ⊢
  clear hx
  by_cases h : n < 0
  · have hz : (zig n : Int) = -(n + 1) * 2 + 1 := by unfold zig; rw [if_pos h]; omega
    rw [hz] at hpu
    clear hz
    have e1 : IntKind.i64.wrap (n + 1) = n + 1 := by rw [IntKind.wrap_i64]; omega
    have e2 : IntKind.i64.wrap (-(n + 1)) = -(n + 1) := by rw [IntKind.wrap_i64]; omega
    have e3 : IntKind.u64.wrap (-(n + 1)) = -(n + 1) := by rw [IntKind.wrap_u64]; omega
    have e4 : IntKind.u64.wrap (-(n + 1) * 2) = -(n + 1) * 2 := by rw [IntKind.wrap_u64]; omega
    have e5 : IntKind.u64.wrap (-(n + 1) * 2 + 1) = -(n + 1) * 2 + 1 := by rw [IntKind.wrap_u64]; omega
    go_enter Try.func45, Try.ntmps45
    go_wp2_with fail
    refine (hpu _).mono ?_
    rintro e w1 ⟨rfl, hb1⟩
    go_wp2
    go_ret
    exact ⟨rfl, hb1⟩
  · have hz : (zig n : Int) = n * 2 := by unfold zig; rw [if_neg h]; omega
    rw [hz] at hpu
    clear hz
    have e3 : IntKind.u64.wrap n = n := by rw [IntKind.wrap_u64]; omega
    have e4 : IntKind.u64.wrap (n * 2) = n * 2 := by rw [IntKind.wrap_u64]; omega
    go_enter Try.func45, Try.ntmps45
    go_wp2_with fail
    refine (hpu _).mono ?_
    rintro e w1 ⟨rfl, hb1⟩
    go_wp2
    go_ret
    exact ⟨rfl, hb1⟩
end Go.Proofs.Ytjmjlijmeahmfaa
namespace Go.Proofs.Ytjmjlijmeahmfaa
open Go.RowKit
def textB (t : ByteArray) : ByteArray := ⟨(put t.size).toArray⟩ ++ t
def boolB (b : Bool) : ByteArray := if b then ⟨#[1]⟩ else ⟨#[0]⟩
theorem put_size (n : Nat) : (⟨(put n).toArray⟩ : ByteArray).size = (put n).length := by show (put n).toArray.size = _; simp
set_option maxHeartbeats 400000 in
theorem etext_any (t : ByteArray) (ht : t.size ≤ 4294967296) (w : World) : Calls Try.prog 69 #[.string t] w fun e w' => e = .returned (.string (textB t)) ∧ Below w.heap.size w w' := by
  have hpu := fun W => put_any t.size (by omega) W
  have hl := put_len10 (n := t.size) (by omega)
  have hz := put_size t.size
  have hT : textB t = ⟨(put t.size).toArray⟩ ++ t := rfl
  rw [hT]
  obtain ⟨x, hx⟩ : ∃ x : ByteArray, (⟨(put t.size).toArray⟩ : ByteArray) = x := ⟨_, rfl⟩
  rw [hx] at hpu hz ⊢
  have hz2 : x.size + t.size ≤ 9223372036854775807 := by omega
  have hw : IntKind.u64.wrap (t.size : Int) = (t.size : Int) := by rw [IntKind.wrap_u64]; omega
  clear hx hT hz hl
  go_enter Try.func69, Try.ntmps69
  go_wp2_with fail
  refine (hpu _).mono ?_
  rintro e w1 ⟨rfl, hb1⟩
  go_wp2
  go_ret
  exact ⟨rfl, hb1⟩
set_option maxHeartbeats 400000 in
theorem rtx_any (t : ByteArray) (ht : t.size ≤ 4294967296) (w : World) : Calls Try.prog 46 #[.string t] w fun e w' => e = .returned (.string (textB t)) ∧ Below w.heap.size w w' := by
  have hpu := fun W => rput_any t.size (by omega) W
  have hl := put_len10 (n := t.size) (by omega)
  have hz := put_size t.size
  have hT : textB t = ⟨(put t.size).toArray⟩ ++ t := rfl
  rw [hT]
  obtain ⟨x, hx⟩ : ∃ x : ByteArray, (⟨(put t.size).toArray⟩ : ByteArray) = x := ⟨_, rfl⟩
  rw [hx] at hpu hz ⊢
  have hz2 : x.size + t.size ≤ 9223372036854775807 := by omega
  have hw : IntKind.u64.wrap (t.size : Int) = (t.size : Int) := by rw [IntKind.wrap_u64]; omega
  clear hx hT hz hl
  go_enter Try.func46, Try.ntmps46
  go_wp2_with fail
  refine (hpu _).mono ?_
  rintro e w1 ⟨rfl, hb1⟩
  go_wp2
  go_ret
  exact ⟨rfl, hb1⟩
set_option maxHeartbeats 400000 in
theorem ebool_any (b : Bool) (w : World) : Calls Try.prog 52 #[.bool b] w fun e w' => e = .returned (.string (boolB b)) ∧ w' = w := by
  cases b
  all_goals
    go_enter Try.func52, Try.ntmps52
    go_wp2
    go_ret
    exact ⟨rfl, rfl⟩
set_option maxHeartbeats 400000 in
theorem rbo_any (b : Bool) (w : World) : Calls Try.prog 44 #[.bool b] w fun e w' => e = .returned (.string (boolB b)) ∧ w' = w := by
  cases b
  all_goals
    go_enter Try.func44, Try.ntmps44
    go_wp2
    go_ret
    exact ⟨rfl, rfl⟩
theorem boolB_size (b : Bool) : (boolB b).size = 1 := by cases b <;> rfl
end Go.Proofs.Ytjmjlijmeahmfaa
