/- The document's Grown, called; that what shows growth shows it. -/
import Derived.Test.YtjamahpccblkiabDoorRpa
import Derived.Test.YtjamahpccblkiabDoorGrn
import Derived.Test.YtjamahpccblkiabDoorCon
namespace Go.Proofs.YtjamahpccblkiabDoor
open Go.RowKit
theorem half_same {m n : Nat} (h : half n < m) (hm : m ≤ n) : half m = half n := by
  have a := half_twice (n := n) (by have := half_pos n; omega)
  exact half_unique (k := Nat.log2 (n - 1)) h (Nat.le_trans hm a)
theorem rbs_grown (f : Nat → ByteArray) (old : ByteArray) : ∀ (F m o n : Nat) (kn : Bool), n ≤ F → 1 ≤ m → m ≤ n → (kn = true → old = rootR f o m) → (∀ i, o ≤ i → i < o + n → (f i).size = 32) →
    rbs old m n kn (grownR f m o n kn).reverse = (rootR f o m, rootR f o n, true)
  | 0, m, o, n, kn, h, h1, h2, _, _ => by omega
  | F + 1, m, o, n, kn, h, h1, h2, hold, hs => by
    by_cases hmn : m = n
    · subst hmn
      cases kn with
      | true =>
        rw [grownR_all f o h1]
        show (if m = m ∧ true = true then (old, old, true) else _) = _
        rw [if_pos ⟨rfl, rfl⟩, ← hold rfl]
      | false =>
        rw [grownR_one f o h1]
        show (if m = m ∧ false = true then _ else if (rootR f o m).size = 32 then (if m = m then (rootR f o m, rootR f o m, ([] : List ByteArray).length == 0) else _) else _) = _
        rw [if_neg (by simp), if_pos (rootR_size f _ _ hs), if_pos rfl]
        rfl
    · have a := half_lt (n := n) (by omega)
      have b := half_pos n
      by_cases hmk : m ≤ half n
      · rw [grownR_left f m o kn h1 (by omega) hmk, List.reverse_append]
        have ih := rbs_grown f old F m o (half n) kn (by omega) h1 hmk hold (fun i h1 h2 => hs i h1 (by omega))
        show (if m = n ∧ kn = true then _ else if (rootR f (o + half n) (n - half n)).size = 32 then (if m = n then _ else if m ≤ half n then _ else _) else _) = _
        rw [if_neg (fun h => hmn h.1), if_pos (rootR_size f _ _ (fun i h1 h2 => hs i (by omega) (by omega))), if_neg hmn, if_pos hmk]
        simp only [List.append_eq, List.nil_append]
        rw [ih, rootR_two f o (n := n) (by omega)]
      · rw [grownR_right f m o kn h1 (by omega) hmk, List.reverse_append]
        have ih := rbs_grown f old F (m - half n) (o + half n) (n - half n) false (by omega) (by omega) (by omega) (fun h => by cases h) (fun i h1 h2 => hs i (by omega) (by omega))
        show (if m = n ∧ kn = true then _ else if (rootR f o (half n)).size = 32 then (if m = n then _ else if m ≤ half n then _ else _) else _) = _
        rw [if_neg (fun h => hmn h.1), if_pos (rootR_size f _ _ (fun i h1 h2 => hs i (by omega) (by omega))), if_neg hmn, if_neg hmk]
        simp only [List.append_eq, List.nil_append]
        rw [ih, rootR_two f o (n := n) (by omega), rootR_two f o (n := m) (by omega), half_same (by omega) h2]
theorem con_grown (f : Nat → ByteArray) (m n : Nat) (h1 : 1 ≤ m) (hm : m ≤ n) (hl : (grownR f m 0 n true).length ≤ 64) (hs : ∀ i, i < n → (f i).size = 32) :
    conA (rootR f 0 m) (rootR f 0 n) (m : Int) (n : Int) (fun i => (grownR f m 0 n true).getD i ByteArray.empty) (grownR f m 0 n true).length = 0 := by
  unfold conA
  rw [if_neg (by omega), revL_get, Int.toNat_natCast, Int.toNat_natCast, rbs_grown f _ n m 0 n true (Nat.le_refl _) h1 hm (fun _ => rfl) (fun i _ h2 => hs i (by omega))]
  exact if_pos rfl
end Go.Proofs.YtjamahpccblkiabDoor
