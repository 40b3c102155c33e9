/- The law MerklePaths as a walk: of any list of strings and any numbers, with the tables laid, the call returns true and nothing that was there has changed. -/
import Derived.Test.YtjamahpccblkiabDoorRpa
namespace Go.Proofs.YtjamahpccblkiabDoor
open Go.RowKit
theorem gPath {w0 wr : World} {b : Nat} {v : Value} {DT D : List ByteArray} (h : Gr w0 wr b v DT D) (h64 : DT.length ≤ 64) (m n : Nat) (h1 : m < n) (h2 : n ≤ DT.length) :
    Calls Tryd.prog 8 #[.pointer (some ⟨b, 0, none⟩), .int .i64 (m : Int), .int .i64 (n : Int)] wr fun e w' => ∃ v, e = .returned (.tuple #[v, .int .i64 0]) ∧ w'.ownsRow wr.heap.size 9 1 v (pathR (lf DT) m 0 n).length (strs (pathR (lf DT) m 0 n)) ∧ Below wr.heap.size wr w' := by
  obtain ⟨S, t1, t2, t3⟩ := h.tre
  have := Path_any (lf DT) S b DT.length h64 (m : Int) (n : Int) (by omega) (by omega) (by omega) wr h.gl h.gd t1
  rw [Int.toNat_natCast, Int.toNat_natCast] at this
  exact this
theorem gPath_bad {w0 wr : World} {b : Nat} {v : Value} {DT D : List ByteArray} (h : Gr w0 wr b v DT D) (h64 : DT.length ≤ 64) (m n : Int) (hb : n < 0 ∨ (DT.length : Int) < n ∨ m < 0 ∨ n ≤ m) :
    Calls Tryd.prog 8 #[.pointer (some ⟨b, 0, none⟩), .int .i64 m, .int .i64 n] wr fun e w' => e = .returned (.tuple #[.slice none 0 0, .int .i64 1]) ∧ w' = wr := by
  obtain ⟨S, t1, t2, t3⟩ := h.tre
  exact Path_bad _ S b _ h64 m n hb wr t1
theorem lf_mem {D : List ByteArray} (hD : ∀ x ∈ D, x.size = 32) {i : Nat} (hi : i < D.length) : (lf D i).size = 32 := by
  unfold lf
  rw [List.getD_eq_getElem?_getD, List.getElem?_eq_getElem hi]
  exact hD _ (List.getElem_mem hi)
end Go.Proofs.YtjamahpccblkiabDoor
