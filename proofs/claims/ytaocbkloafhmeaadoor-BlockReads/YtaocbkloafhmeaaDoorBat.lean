/- bodyAt, called. -/
import Derived.Test.YtaocbkloafhmeaaDoorCl2
namespace Go.Proofs.YtaocbkloafhmeaaDoor
open Go.RowKit
def bodAt (n : Nat) (R : Nat → Rv) (k : Int) : Bool := decide (0 ≤ k) && decide (k < (n : Int)) && bodied (R k.toNat).op
set_option maxRecDepth 100000 in
set_option maxHeartbeats 2000000 in
theorem bat_any (x : Bk) (k : Int) (p : Option Addr) (c : Nat) (w : World) (hX : Revs w p x.n c x.R) :
    Calls Tryd.prog 61 #[x.val p c, .int .i64 k] w fun e w' => e = .returned (.bool (bodAt x.n x.R k)) ∧ Below w.heap.size w w' := by
  obtain ⟨seq, prev, tx, n, R⟩ := x
  simp only at hX ⊢
  rw [show (Bk.mk seq prev tx n R).val p c = .agg #[.int .u64 (seq : Int), .string prev, .int .u64 (tx : Int), .slice p n c] from rfl]
  have hcap := hX.cap
  have hm : maxLen = 9223372036854775807 := rfl
  have b0 : ∀ o, Below w.heap.size w (w.alloc o) := fun o => (Below.refl _ w).alloc (Nat.le_refl _) o
  unfold bodAt
  by_cases h0 : 0 ≤ k
  · rw [decide_eq_true h0]
    by_cases h1 : k < (n : Int)
    · rw [decide_eq_true h1]
      obtain ⟨i, rfl⟩ : ∃ i : Nat, k = (i : Int) := ⟨k.toNat, by omega⟩
      rw [Int.toNat_natCast]
      have him : i < n := by omega
      obtain ⟨pb, po, rfl, hpb, hat⟩ := hX.at' (by omega)
      have h8 := (hat i him).c0
      have hh := fun W => has_any (R i).op W
      obtain ⟨H, hH⟩ : ∃ H, bodied (R i).op = H := ⟨_, rfl⟩
      rw [hH] at hh ⊢
      clear hH
      have d0 : ∀ o, (w.alloc o).cell? ⟨pb, po + i * 8, none⟩ = some (.int .i64 (R i).op) := fun o => ((b0 o).cell (p := ⟨pb, po + i * 8, none⟩) hpb).trans h8
      go_enter Tryd.func61, Tryd.ntmps61
      go_wp2_with fail
      refine (hh _).mono ?_
      rintro e w1 ⟨rfl, rfl⟩
      go_wp2
      go_ret
      exact ⟨rfl, b0 _⟩
    · rw [decide_eq_false h1]
      go_enter Tryd.func61, Tryd.ntmps61
      go_wp2
      go_ret
      exact ⟨rfl, b0 _⟩
  · rw [decide_eq_false h0]
    go_enter Tryd.func61, Tryd.ntmps61
    go_wp2
    go_ret
    exact ⟨rfl, b0 _⟩
end Go.Proofs.YtaocbkloafhmeaaDoor
