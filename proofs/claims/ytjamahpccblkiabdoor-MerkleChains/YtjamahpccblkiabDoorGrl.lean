/- The law MerkleGrows as a walk: of any list of strings and any numbers, with the tables laid, the call returns true and nothing that was there has changed. -/
import Derived.Test.YtjamahpccblkiabDoorRgr
import Derived.Test.YtjamahpccblkiabDoorPal
namespace Go.Proofs.YtjamahpccblkiabDoor
open Go.RowKit
theorem gGrown {w0 wr : World} {b : Nat} {v : Value} {DT D : List ByteArray} (h : Gr w0 wr b v DT D) (h64 : DT.length ≤ 64) (m n : Nat) (h0 : 1 ≤ m) (h1 : m ≤ n) (h2 : n ≤ DT.length) :
    Calls Tryd.prog 6 #[.pointer (some ⟨b, 0, none⟩), .int .i64 (m : Int), .int .i64 (n : Int)] wr fun e w' => ∃ v, e = .returned (.tuple #[v, .int .i64 0]) ∧ w'.ownsRow wr.heap.size 9 1 v (grownR (lf DT) m 0 n true).length (strs (grownR (lf DT) m 0 n true)) ∧ Below wr.heap.size wr w' := by
  obtain ⟨S, t1, t2, t3⟩ := h.tre
  have := Grown_any (lf DT) S b DT.length h64 (m : Int) (n : Int) (by omega) (by omega) (by omega) wr h.gl h.gd t1
  rw [Int.toNat_natCast, Int.toNat_natCast] at this
  exact this
theorem gGrown_bad {w0 wr : World} {b : Nat} {v : Value} {DT D : List ByteArray} (h : Gr w0 wr b v DT D) (h64 : DT.length ≤ 64) (m n : Int) (hb : n < 0 ∨ (DT.length : Int) < n ∨ m < 1 ∨ n < m) :
    Calls Tryd.prog 6 #[.pointer (some ⟨b, 0, none⟩), .int .i64 m, .int .i64 n] wr fun e w' => e = .returned (.tuple #[.slice none 0 0, .int .i64 1]) ∧ w' = wr := by
  obtain ⟨S, t1, t2, t3⟩ := h.tre
  exact Grown_bad _ S b _ h64 m n hb wr t1
end Go.Proofs.YtjamahpccblkiabDoor
