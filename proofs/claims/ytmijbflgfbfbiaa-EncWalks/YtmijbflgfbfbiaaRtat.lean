/- The document's cursor takes a text (Text), in plain words; bytes that a cursor has behind it are no more than there are. -/
import Derived.Test.YtmijbflgfbfbiaaRtext
namespace Go.Proofs.Ytmijbflgfbfbiaa
open Go.RowKit
theorem rtext_at (s : ByteArray) (o : Nat) (er m : Int) (ho : o ≤ s.size) (hs : s.size ≤ 4096) (w : World) :
    Calls Try.prog 25 #[.agg #[.string s, .int .i64 (o : Int), .int .i64 er], .int .i64 m] w fun r w' => r = .returned (.tuple #[.agg #[.string s, .int .i64 ((textA s o er m).o : Int), .int .i64 (textA s o er m).e], .string (textA s o er m).v]) ∧ Below w.heap.size w w' := by
  have hco := fun W => rcount_at s o er (min m 1048576) ho hs (by omega) W
  by_cases h0 : er = 0
  · subst h0
    have hTe := cnt_err (m := min m 1048576) (tkA_err (s := s) (o := o))
    have hsz := (cnt_sz (T := tkA s o) (m := min m 1048576)).1
    have hbd := (tkA_bound ho).2.1
    obtain ⟨C, hC⟩ : ∃ C, cnt (tkA s o) (min m 1048576) = C := ⟨_, rfl⟩
    rw [hC] at hTe hsz
    have hCA : countA s o 0 (min m 1048576) = ⟨C.n, o + C.sz, C.er⟩ := by unfold countA; rw [if_pos rfl, hC]
    rw [hCA] at hco
    have hby := fun W => rbytes_at s (o + C.sz) C.er (C.n : Int) (by omega) hs W
    by_cases h1 : C.er = 0
    · rw [h1] at hco hby
      by_cases h2 : s.size < o + C.sz + C.n
      · have hA : textA s o 0 m = ⟨⟨#[]⟩, o, 4⟩ := by unfold textA; rw [hC, if_pos rfl, if_pos h1, if_pos h2]
        have hB : bytesA s (o + C.sz) 0 (C.n : Int) = ⟨⟨#[]⟩, o + C.sz, 4⟩ := by unfold bytesA; rw [if_pos rfl, if_neg (by omega), if_pos (by omega)]
        rw [hA]
        rw [hB] at hby
        exact rtext_with s o m _ _ _ _ _ _ _ rfl (by show (4 : Int) ≠ 0; decide) hco hby w
      · have hA : textA s o 0 m = ⟨s.extract (o + C.sz) (o + C.sz + C.n), o + C.sz + C.n, 0⟩ := by unfold textA; rw [hC, if_pos rfl, if_pos h1, if_neg h2]
        have hB : bytesA s (o + C.sz) 0 (C.n : Int) = ⟨s.extract (o + C.sz) (o + C.sz + C.n), o + C.sz + C.n, 0⟩ := by unfold bytesA; rw [if_pos rfl, if_neg (by omega), if_neg (by omega), Int.toNat_natCast]
        rw [hA]
        rw [hB] at hby
        exact rtext_ok s o 0 m _ _ _ _ _ _ rfl hco hby w
    · have hA : textA s o 0 m = ⟨⟨#[]⟩, o, C.er⟩ := by unfold textA; rw [hC, if_pos rfl, if_neg h1]
      have hB : bytesA s (o + C.sz) C.er (C.n : Int) = ⟨⟨#[]⟩, o + C.sz, C.er⟩ := if_neg h1
      rw [hA]
      rw [hB] at hby
      exact rtext_with s o m _ _ _ _ _ _ _ rfl h1 hco hby w
  · have hA : textA s o er m = ⟨⟨#[]⟩, o, er⟩ := if_neg h0
    have hCA : countA s o er (min m 1048576) = ⟨0, o, er⟩ := if_neg h0
    have hby := fun W => rbytes_at s o er 0 ho hs W
    have hB : bytesA s o er 0 = ⟨⟨#[]⟩, o, er⟩ := if_neg h0
    rw [hA]
    rw [hCA] at hco
    rw [hB] at hby
    exact rtext_err s o er m _ _ _ _ _ _ _ rfl h0 h0 hco hby w
theorem uintA_le {s : ByteArray} {o : Nat} {er : Int} (ho : o ≤ s.size) : (uintA s o er).o ≤ s.size := by
  unfold uintA
  split
  · exact (tkA_bound ho).2.1
  · exact ho
theorem countA_le {s : ByteArray} {o : Nat} {er m : Int} (ho : o ≤ s.size) : (countA s o er m).o ≤ s.size := by
  unfold countA
  split
  · have h1 := (tkA_bound ho).2.1
    have h2 := (cnt_sz (T := tkA s o) (m := m)).1
    show o + (cnt (tkA s o) m).sz ≤ s.size
    omega
  · exact ho
theorem bytesA_le {s : ByteArray} {o : Nat} {er n : Int} (ho : o ≤ s.size) : (bytesA s o er n).o ≤ s.size := by
  unfold bytesA
  split
  · split
    · exact ho
    · split
      · exact ho
      · show o + n.toNat ≤ s.size
        omega
  · exact ho
theorem textA_le {s : ByteArray} {o : Nat} {er m : Int} (ho : o ≤ s.size) : (textA s o er m).o ≤ s.size := by
  unfold textA
  split
  · split
    · split
      · exact ho
      · rename_i h; exact Nat.le_of_not_lt h
    · exact ho
  · exact ho
theorem boolA_le {s : ByteArray} {o : Nat} {er : Int} (ho : o ≤ s.size) : (boolA s o er).o ≤ s.size := by
  unfold boolA
  split
  · split
    · split
      · exact ho
      · rename_i h _; exact h
    · exact ho
  · exact ho
end Go.Proofs.Ytmijbflgfbfbiaa
