/- The document's Path, called; that a path shows its leaf. -/
import Derived.Test.YtjamahpccblkiabDoorGro
namespace Go.Proofs.YtjamahpccblkiabDoor
open Go.RowKit
theorem rb_path (f : Nat → ByteArray) : ∀ (F m o n : Nat), n ≤ F → m < n → (∀ i, o ≤ i → i < o + n → (f i).size = 32) → rb (f (o + m)) m n (pathR f m o n).reverse = (rootR f o n, true)
  | 0, m, o, n, h, hm, _ => by omega
  | F + 1, m, o, n, h, hm, hs => by
    by_cases h1 : n = 1
    · subst h1
      obtain rfl : m = 0 := by omega
      rfl
    · have a := half_lt (n := n) (by omega)
      have b := half_pos n
      by_cases hmk : m < half n
      · rw [pathR_left f m o (by omega) hmk, List.reverse_append]
        show (if n = 1 then (f (o + m), false) else if (rootR f (o + half n) (n - half n)).size = 32 then (if m < half n then _ else _) else _) = _
        rw [if_neg h1, if_pos (rootR_size f _ _ (fun i h1 h2 => hs i (by omega) (by omega))), if_pos hmk]
        have ih := rb_path f F m o (half n) (by omega) hmk (fun i h1 h2 => hs i h1 (by omega))
        simp only [List.append_eq, List.nil_append]
        rw [ih, rootR_two f o (n := n) (by omega)]
      · rw [pathR_right f m o (by omega) hmk, List.reverse_append]
        show (if n = 1 then (f (o + m), false) else if (rootR f o (half n)).size = 32 then (if m < half n then _ else _) else _) = _
        rw [if_neg h1, if_pos (rootR_size f _ _ (fun i h1 h2 => hs i (by omega) (by omega))), if_neg hmk]
        have ih := rb_path f F (m - half n) (o + half n) (n - half n) (by omega) (by omega) (fun i h1 h2 => hs i (by omega) (by omega))
        rw [show o + half n + (m - half n) = o + m by omega] at ih
        simp only [List.append_eq, List.nil_append]
        rw [ih, rootR_two f o (n := n) (by omega)]
theorem revL_get (l : List ByteArray) : revL (fun i => l.getD i ByteArray.empty) l.length = l.reverse := by
  rw [← List.reverse_reverse (revL _ _), revL_rev]
  congr 1
  apply List.ext_getElem?
  intro i
  by_cases h : i < l.length
  · simp [h, List.getD_eq_getElem?_getD]
  · simp [h]
theorem ver_path (f : Nat → ByteArray) (m n : Nat) (hm : m < n) (hl : (pathR f m 0 n).length ≤ 64) (hs : ∀ i, i < n → (f i).size = 32) :
    verA (f m) (rootR f 0 n) (m : Int) (n : Int) (fun i => (pathR f m 0 n).getD i ByteArray.empty) (pathR f m 0 n).length = 0 := by
  unfold verA
  rw [if_neg (by omega), revL_get, Int.toNat_natCast, Int.toNat_natCast]
  have := rb_path f n m 0 n (Nat.le_refl _) hm (fun i _ h2 => hs i (by omega))
  rw [Nat.zero_add] at this
  rw [this]
  exact if_pos rfl
theorem undrew {w w' : World} (h : Below w.drew.heap.size w.drew w') : Below w.heap.size w w' := ⟨h.os, h.tape, h.output, h.size, h.block⟩
theorem undrewg {w w' : World} {o : Obj} {r : Option Nat} (h : (w.alloc o).grownBy w' r) : (w.alloc o).grownBy w' r := h
end Go.Proofs.YtjamahpccblkiabDoor
