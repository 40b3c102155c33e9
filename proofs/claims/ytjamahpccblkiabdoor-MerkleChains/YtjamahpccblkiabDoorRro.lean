/- The document's Root, called. -/
import Derived.Test.YtjamahpccblkiabDoorAwk
namespace Go.Proofs.YtjamahpccblkiabDoor
open Go.RowKit
theorem Strs.from {w : World} {b o n c : Nat} {g : Nat → ByteArray} (h : Strs w (some ⟨b, o, none⟩) n c g) (k : Nat) (hk : k ≤ n) : Strs w (some ⟨b, o + k, none⟩) (n - k) (c - k) (fun i => g (k + i)) := by
  refine ⟨⟨by have := h.cap; omega, by have := h.cap; omega⟩, fun hn => ?_⟩
  obtain ⟨b', o', h1, h2, h3⟩ := h.at' (by omega)
  injection h1 with h1
  injection h1 with h1 h4 _
  subst h1
  subst h4
  refine ⟨b, o + k, rfl, h2, fun i hi => ?_⟩
  rw [show o + k + i = o + (k + i) by omega]
  exact h3 (k + i) (by omega)
theorem Strs.congr {w : World} {p : Option Addr} {n c : Nat} {g g' : Nat → ByteArray} (h : Strs w p n c g) (hg : ∀ i, i < n → g' i = g i) : Strs w p n c g' := by
  refine ⟨h.cap, fun hn => ?_⟩
  obtain ⟨b, o, h1, h2, h3⟩ := h.at' hn
  exact ⟨b, o, h1, h2, fun i hi => by rw [hg i hi]; exact h3 i hi⟩
theorem quiet_class {P : Program} {C : World → Prop} {id : Nat} {Q : Exit → Act → World → Prop} {a : Act} {w : World} {l : List Oper} (hm : P.follows .mixedOrders = true) (hB : Region.lexB .any l.toArray = true) (hC : C { w with drawn := w.drawn + 1 })
    (h : wpQuiet P l.toArray C (fun a' => ∀ w', C w' → Q .normal a' w') l a) : (Code.region id l.toArray true).wp P Q a w :=
  wp_region_quiet hm hB hC (by simpa using h)
theorem rootF_le (f : Nat → ByteArray) (hf : ∀ i, (f i).size ≤ 400) : ∀ F o n, (rootF f F o n).size ≤ 400
  | 0, _, _ => by rw [rootF, noneS, sumS_size]; omega
  | F + 1, o, n => by
    simp only [rootF]
    split
    · rw [noneS, sumS_size]; omega
    · split
      · exact hf o
      · rw [nodeS, sumS_size]; omega
end Go.Proofs.YtjamahpccblkiabDoor
