/- A sound value's bytes behind others (put, putParts): all of them, or more than may be. -/
import Derived.Test.YtjmjlijmeahmfaaBuild
import Derived.Test.YtjmjlijmeahmfaaSound
namespace Go.Proofs.Ytjmjlijmeahmfaa
open Go.RowKit
def textL (s : ByteArray) : List UInt8 := put s.size ++ s.data.toList
def cat : Nat → (Nat → List UInt8) → List UInt8
  | 0, _ => []
  | m + 1, F => cat m F ++ F m
def bytesT : Tr → List UInt8
  | .no => [0]
  | .mk k b n s m f _ g =>
    UInt8.ofNat k.toNat :: (if k = 1 then [if b then 1 else 0] else if k = 2 then put (zig n) else if k = 3 ∨ k = 4 then textL s
      else if k = 5 ∨ k = 6 then put m ++ cat m (fun i => (if k = 6 then textL (g i) else []) ++ bytesT (f i)) else [])
def small : Tr → Prop
  | .no => True
  | .mk _ _ _ s m f _ _ => s.size ≤ 4096 ∧ ∀ i, i < m → small (f i)
def Aft (l x l' : List UInt8) : Prop := ((l ++ x).length ≤ 1024 → l' = l ++ x) ∧ (1024 < (l ++ x).length → 1024 < l'.length)
theorem Aft.all (l x : List UInt8) : Aft l x (l ++ x) := ⟨fun _ => rfl, fun h => h⟩
theorem Aft.exact {l x l' : List UInt8} (h : Aft l x l') (h2 : l'.length ≤ 1024) : l' = l ++ x := by
  rcases Nat.lt_or_ge 1024 (l ++ x).length with k | k
  · have := h.2 k; omega
  · exact h.1 k
theorem Aft.over {l x y l' : List UInt8} (h : Aft l x l') (h2 : 1024 < l'.length) : Aft l (x ++ y) l' := by
  have : 1024 < (l ++ x).length := by
    rcases Nat.lt_or_ge 1024 (l ++ x).length with k | k
    · exact k
    · have := h.1 k; rw [this] at h2; omega
  constructor
  · intro k; simp at k this; omega
  · intro _; exact h2
theorem Aft.on {l x y l' : List UInt8} (h : Aft (l ++ x) y l') : Aft l (x ++ y) l' := by
  unfold Aft at h ⊢
  rw [List.append_assoc] at h
  exact h
theorem cat_more {i m : Nat} (F : Nat → List UInt8) (h : i ≤ m) : ∃ y, cat m F = cat i F ++ y := by
  induction m with
  | zero => obtain rfl : i = 0 := by omega
            exact ⟨[], by simp⟩
  | succ m ih =>
    rcases Nat.lt_or_ge m i with k | k
    · obtain rfl : i = m + 1 := by omega
      exact ⟨[], by simp⟩
    · obtain ⟨y, hy⟩ := ih k
      exact ⟨y ++ F m, by show cat m F ++ F m = _; rw [hy, List.append_assoc]⟩
theorem fe_zero {F : Nat → Int} : ∀ {m : Nat}, fe m F = 0 → ∀ i, i < m → F i = 0
  | 0, _, i, hi => by omega
  | m + 1, h, i, hi => by
    have h' : (if fe m F = 0 then F m else fe m F) = 0 := h
    by_cases k : fe m F = 0
    · rw [if_pos k] at h'
      rcases Nat.lt_or_ge i m with q | q
      · exact fe_zero k i q
      · obtain rfl : i = m := by omega
        exact h'
    · rw [if_neg k] at h'
      exact absurd h' k
structure SoundP (k : Int) (b : Bool) (n : Int) (s : ByteArray) (m : Nat) (f : Nat → Tr) (q : Nat) (g : Nat → ByteArray) (d : Int) : Prop where
  d8 : d ≤ 8
  fm : formedB k b n s m q = true
  k0 : 0 ≤ k
  k6 : k ≤ 6
  m32 : m ≤ 32
  nm : k = 6 → q = m ∧ ∀ i, i < q → okN g i = true
  ch : ∀ i, i < m → soundT (f i) (d + 1) = 0
theorem soundP {k : Int} {b : Bool} {n : Int} {s : ByteArray} {m : Nat} {f : Nat → Tr} {q : Nat} {g : Nat → ByteArray} {d : Int} (h : soundT (.mk k b n s m f q g) d = 0) : SoundP k b n s m f q g d := by
  rw [soundT] at h
  by_cases h8 : 8 < d
  · rw [if_pos h8] at h; cases h
  rw [if_neg h8] at h
  by_cases hf : formedB k b n s m q = false
  · rw [if_pos hf] at h; cases h
  rw [if_neg hf] at h
  by_cases h32 : 32 < m
  · rw [if_pos h32] at h; cases h
  rw [if_neg h32] at h
  by_cases h6 : k = 6 ∧ namedB q m g = false
  · rw [if_pos h6] at h; cases h
  rw [if_neg h6] at h
  have hft : formedB k b n s m q = true := by simpa using hf
  have h2 := hft
  unfold formedB at h2
  simp only [Bool.and_eq_true, decide_eq_true_eq] at h2
  refine ⟨by omega, hft, h2.1.1.1.1.1.1, h2.1.1.1.1.1.2, by omega, fun hk => ?_, fe_zero h⟩
  have : namedB q m g = true := by
    cases hn : namedB q m g with
    | true => rfl
    | false => exact absurd ⟨hk, hn⟩ h6
  exact of_decide_eq_true this
theorem nameB_size {s : ByteArray} (h : nameB s = true) : s.size ≤ 16 := by
  unfold nameB at h
  simp only [Bool.and_eq_true, decide_eq_true_eq] at h
  exact h.1.1.2
theorem okN_size {g : Nat → ByteArray} {i : Nat} (h : okN g i = true) : (g i).size ≤ 16 := by
  unfold okN at h
  rw [Bool.and_eq_true] at h
  exact nameB_size h.1
theorem textB_list (s : ByteArray) : (textB s).data.toList = textL s := by
  unfold textB textL
  rw [ByteArray.data_append, Array.toList_append]
theorem textL_len (s : ByteArray) (h : s.size ≤ 4096) : (textL s).length ≤ s.size + 10 := by
  unfold textL
  have := put_len10 (n := s.size) (by omega)
  rw [List.length_append, ← Lib.size_eq]
  omega
theorem textB_size (s : ByteArray) (h : s.size ≤ 4096) : (textB s).size ≤ s.size + 10 := by
  have := textL_len s h
  rw [← textB_list, ← Lib.size_eq] at this
  exact this
def PutC (t : Tr) (_ : Int) : Prop := ∀ (B : Nat) (w : World) (x : Ad) (b : Nat) (l : List UInt8), Lies B w t x → B ≤ b → Bld w b l → l.length ≤ 1100 →
    Calls Try.prog 38 #[.pointer (some ⟨b, 0, none⟩), t.val x] w fun e w' => e = .returned (.tuple #[]) ∧ (∃ l', Bld w' b l' ∧ Aft l (bytesT t) l' ∧ l'.length ≤ 6100) ∧ Below b w w' ∧ Tame w w'
theorem Bld.lt {w : World} {b : Nat} {l : List UInt8} (h : Bld w b l) : b < w.heap.size := by
  rcases h with h | h
  · exact h.lt
  · exact h.lt
theorem Bld.later {w w' : World} {b : Nat} {l : List UInt8} (h : Bld w b l) (hb : Below w.heap.size w w') : Bld w' b l := by
  have key : ∀ p, Lib.BuilderAt 66 5 b b p (strC l) w → Lib.BuilderAt 66 5 b b p (strC l) w' := by
    rintro p ⟨h1, v, h2, h3, h4⟩
    refine ⟨h1, v, (hb.block b (lt_of_row h2)).trans h2, ?_, h4⟩
    refine ⟨h3.1, ?_⟩
    rcases h3.2 with h5 | ⟨g, cap, cur, h5, h6, h7, h8⟩
    · exact Or.inl h5
    · exact Or.inr ⟨g, cap, cur, h5, h6, (hb.block g (lt_of_row h7)).trans h7, h8⟩
  rcases h with h | h
  · exact Or.inl (key _ h)
  · exact Or.inr (key _ h)
theorem kindByte {k : Int} (h0 : 0 ≤ k) (h6 : k ≤ 6) : IntKind.u8.wrap k = ((UInt8.ofNat k.toNat).toNat : Int) := by
  rw [toNat_ofNat_lt (by omega), IntKind.wrap_u8']; omega
end Go.Proofs.Ytjmjlijmeahmfaa
