/- The document's Kind: what its cases stand on. -/
import Derived.Test.YtcniebkehekliaaGreatDoorKni
namespace Go.Proofs.YtcniebkehekliaaGreatDoor
open Go.RowKit Go.Shelf
theorem kdsF_ge {F : Et → Int × Int} (hF : ∀ t, -1 ≤ (F t).1) (f : Nat → Et) : ∀ (r i : Nat) (l : List Int), (∀ x ∈ l, -1 ≤ x) → ∀ x ∈ (kdsF F f i r l).1, -1 ≤ x
  | 0, _, _, h => h
  | r + 1, i, l, h => by
    unfold kdsF
    split
    · refine kdsF_ge hF f r (i + 1) _ (fun x hx => ?_)
      rcases List.mem_append.1 hx with hx | hx
      · exact h x hx
      · rw [List.mem_singleton] at hx; rw [hx]; exact hF _
    · intro x hx; simp at hx
def rK (own : List Int → Int × Int) (V : List Int × Int) : Int × Int := if V.2 = 0 then own V.1 else (0, V.2)
structure Rp (w : World) (S : Nat → Prop) (d : Nat) (f : Nat → Et) (b : Bool) (F : Et → Int × Int) (R : XR) : Prop where
  few : R.n ≤ 1000 ∧ R.m ≤ 1000
  kids : ∃ Kc, Kds w S R.kp R.n R.kc Kc ∧ ∀ i, i < R.n → LiesE w S d (f i) (row10 (Kc i))
  calls : ∀ W i v, i < R.n → LiesE W S d (f i) v → Calls Tryz.prog 9 #[v, .bool b] W fun r w' => r = .returned (.tuple #[.int .i64 (F (f i)).1, .int .i64 (F (f i)).2]) ∧ Below W.heap.size W w'
  ge : ∀ t, -1 ≤ (F t).1
theorem Kn.less {w : World} {p : Option Addr} {c : Nat} {l : List Int} (h : Kn w p c l) {i : Nat} {x : Int} (hx : l[i]? = some x) : ∃ g, p = some ⟨g, 0, none⟩ ∧ w.cell? ⟨g, i, none⟩ = some (.int .i64 x) := by
  obtain ⟨g, h1, -, h3⟩ := h.lies (by have := (List.getElem?_eq_some_iff.1 hx).1; omega)
  exact ⟨g, h1, h3 i x hx⟩
theorem all_pre {p : Int → Bool} {l : List Int} (h : l.all p = true) (i : Nat) : (l.take i).all p = true := by
  rw [List.all_eq_true] at h ⊢
  exact fun x hx => h x (List.mem_of_mem_take hx)
theorem ba_ne {a b : ByteArray} (h : ¬ a = b) : (a.toList == b.toList) = false := by
  cases k : (a.toList == b.toList) with
  | false => rfl
  | true =>
    exfalso
    have k2 : a.toList = b.toList := eq_of_beq k
    rw [toList_data, toList_data] at k2
    apply h
    cases a with
    | mk x =>
      cases b with
      | mk y => exact congrArg ByteArray.mk (Array.toList_inj.1 k2)
end Go.Proofs.YtcniebkehekliaaGreatDoor
