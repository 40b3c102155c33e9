/- How many nodes stand one below the other: deep of nodes that are as they must be (Wd). -/
import Derived.Test.YtiplmlalhmldbaaTre
namespace Go.Proofs.Ytiplmlalhmldbaa
open Go.RowKit Go.Shelf
def Wd : (h : Nat) → Nat → Nd h → Prop
  | 0, l, t => l ≤ (its 0 t).length ∧ (its 0 t).length ≤ 7
  | h + 1, l, t => l ≤ t.1.length ∧ t.1.length ≤ 7 ∧ 0 < t.1.length ∧ t.2.length = t.1.length + 1 ∧ ∀ i, i < t.2.length → Wd h 3 (t.2.getD i (dflt h))
set_option maxRecDepth 100000 in
set_option maxHeartbeats 2000000 in
theorem deep_leaf (l : Nat) (t : Nd 0) (hw : Wd 0 l t) (v : Value) (w : World) (hL : Lies w 0 t v) :
    Calls Try.prog 28 #[v, .int .i64 (l : Int)] w fun e w' => e = .returned (.int .i64 1) ∧ Below w.heap.size w w' := by
  obtain ⟨p, c, q, d, rfl, hS, hK⟩ := hL
  obtain ⟨h1, h2⟩ := hw
  have kl := fun W => leaf_any p (its 0 t).length c q 0 d W
  obtain ⟨n, hn⟩ : ∃ n, (its 0 t).length = n := ⟨_, rfl⟩
  simp only [hn] at h1 h2 kl
  simp only [hn]
  have hx1 : ¬ (n : Int) < (l : Int) := by omega
  have hx2 : ¬ (7 : Int) < (n : Int) := by omega
  have hx3 : decide ((n : Int) < (l : Int)) = false := decide_eq_false hx1
  have hx4 : decide ((7 : Int) < (n : Int)) = false := decide_eq_false hx2
  clear hS hK hn
  go_enter Try.func28, Try.ntmps28
  go_wp2_with fail
  refine (kl _).mono ?_
  rintro e w1 ⟨rfl, hb1⟩
  go_wp2
  go_ret
  exact ⟨rfl, ((Below.refl _ w).alloc (Nat.le_refl _) _).trans (hb1.mono (by simp))⟩
end Go.Proofs.Ytiplmlalhmldbaa
