/- How far what is taken may reach: plain facts. -/
import Derived.Test.YtjmjlijmeahmfaaFst
namespace Go.Proofs.Ytjmjlijmeahmfaa
open Go.RowKit
theorem uintA_le {s : ByteArray} {o : Nat} {er : Int} (ho : o ≤ s.size) : (uintA s o er).o ≤ s.size := by
  unfold uintA
  split
  · exact (tkA_bound ho).2.1
  · exact ho
theorem countA_le {s : ByteArray} {o : Nat} {er m : Int} (ho : o ≤ s.size) : (countA s o er m).o ≤ s.size := by
  unfold countA
  split
  · have h1 := (tkA_bound ho).2.1
    have h2 := (cnt_sz (T := tkA s o) (m := m)).1
    show o + (cnt (tkA s o) m).sz ≤ s.size
    omega
  · exact ho
theorem bytesA_le {s : ByteArray} {o : Nat} {er n : Int} (ho : o ≤ s.size) : (bytesA s o er n).o ≤ s.size := by
  unfold bytesA
  split
  · split
    · exact ho
    · split
      · exact ho
      · show o + n.toNat ≤ s.size
        omega
  · exact ho
theorem textA_le {s : ByteArray} {o : Nat} {er m : Int} (ho : o ≤ s.size) : (textA s o er m).o ≤ s.size := by
  unfold textA
  split
  · split
    · split
      · exact ho
      · rename_i h; exact Nat.le_of_not_lt h
    · exact ho
  · exact ho
theorem boolA_le {s : ByteArray} {o : Nat} {er : Int} (ho : o ≤ s.size) : (boolA s o er).o ≤ s.size := by
  unfold boolA
  split
  · split
    · split
      · exact ho
      · rename_i h _; exact h
    · exact ho
  · exact ho
end Go.Proofs.Ytjmjlijmeahmfaa
