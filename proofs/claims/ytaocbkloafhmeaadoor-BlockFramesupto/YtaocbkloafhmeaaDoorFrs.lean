/- The law BlockFrames as a walk: of any block whose texts are together not too long the call returns true, and nothing that was there has changed. -/
import Derived.Test.YtaocbkloafhmeaaDoorFry
import Derived.Test.YtaocbkloafhmeaaDoorOpx
namespace Go.Proofs.YtaocbkloafhmeaaDoor
open Go.RowKit
theorem revW_mono (R : Nat → Rv) : ∀ {m n : Nat}, m ≤ n → revW R m ≤ revW R n
  | m, 0, h => by
    obtain rfl : m = 0 := by omega
    exact Nat.le_refl _
  | m, n + 1, h => by
    by_cases e : m = n + 1
    · rw [e]; exact Nat.le_refl _
    · have := revW_mono R (m := m) (n := n) (by omega)
      have e2 : revW R (n + 1) = revW R n + ((R n).t.size + (R n).f.size + (R n).h.size + (R n).b.size + 9) := rfl
      omega
theorem frames_walk (x : Bk) (hx : x.fit) (p : Option Addr) (c : Nat) (hmost : x.most 1048576) (w : World) (hw : 3 ≤ w.heap.size) (hG : GL w) (hD : GD w) (hX : Revs w p x.n c x.R) :
    Calls Tryd.prog 5 #[x.val p c] w fun e w' => e = .returned (.bool true) ∧ Below w.heap.size w w' := by
  have hxc : (cutB x).fit := ⟨hx.seq, hx.tx, hx.prev⟩
  have hnc := cutB_n x
  have hnx : (cutB x).n ≤ x.n := Nat.min_le_left _ _
  have hfs : ∀ i, i ≤ (cutB x).n → (frameS (cutB x) i).size ≤ 1000000000 := fun i hi => by
    have h1 := frameS_most hxc (by omega) (fun j hj => hX.fit j (by omega)) i hi
    have h2 := hmost.all
    have h3 : revW (cutB x).R i ≤ revW x.R x.n := revW_mono x.R (by omega)
    have h4 : (cutB x).prev = x.prev := rfl
    rw [h4] at h1
    omega
  by_cases h : folR (cutB x) (cutB x).seq (cutB x).prev = 0 ∧ (cutB x).prev.size ≤ 32
  · exact frames_yes x hx hfs p c w hw hG hD hX h
  · refine frames_no x hx hfs p c w hw hG hD hX ?_
    by_cases h0 : folR (cutB x) (cutB x).seq (cutB x).prev = 0
    · right
      have : ¬ (cutB x).prev.size ≤ 32 := fun h1 => h ⟨h0, h1⟩
      omega
    · exact Or.inl h0
end Go.Proofs.YtaocbkloafhmeaaDoor
