/- A list of strings that lies somewhere; the highest of a way (highest), whether a text is a digest (isDigest), called. -/
import Derived.Test.YtjamahpccblkiabDoorHlf
import Derived.WalkKit
import Derived.WalkSpells
import Derived.WalkLawsBesides
import Derived.Deep.QuietTactic
import Derived.BigQuiet
import Derived.BigGuardPart
import Derived.OwnWalk
namespace Go.Proofs.YtjamahpccblkiabDoor
open Go.RowKit
structure Strs (w : World) (p : Option Addr) (n c : Nat) (g : Nat → ByteArray) : Prop where
  cap : n ≤ c ∧ c ≤ maxLen
  at' : 0 < n → ∃ b o, p = some ⟨b, o, none⟩ ∧ b < w.heap.size ∧ ∀ i, i < n → w.cell? ⟨b, o + i, none⟩ = some (.string (g i))
theorem Strs.later {w w' : World} {p : Option Addr} {n c : Nat} {g : Nat → ByteArray} (h : Strs w p n c g) (hb : Below w.heap.size w w') : Strs w' p n c g := by
  refine ⟨h.cap, fun hn => ?_⟩
  obtain ⟨b, o, h1, h2, h3⟩ := h.at' hn
  exact ⟨b, o, h1, Nat.lt_of_lt_of_le h2 hb.size, fun i hi => (hb.cell (p := ⟨b, o + i, none⟩) h2).trans (h3 i hi)⟩
theorem Strs.less {w : World} {p : Option Addr} {n c : Nat} {g : Nat → ByteArray} (h : Strs w p n c g) (m : Nat) (hm : m ≤ n) : Strs w p m c g := by
  refine ⟨⟨Nat.le_trans hm h.cap.1, h.cap.2⟩, fun hn => ?_⟩
  obtain ⟨b, o, h1, h2, h3⟩ := h.at' (by omega)
  exact ⟨b, o, h1, h2, fun i hi => h3 i (by omega)⟩
def revL (g : Nat → ByteArray) : Nat → List ByteArray
  | 0 => []
  | n + 1 => g n :: revL g n
theorem revL_len (g : Nat → ByteArray) : ∀ n, (revL g n).length = n
  | 0 => rfl
  | n + 1 => by rw [revL, List.length_cons, revL_len g n]
theorem revL_rev (g : Nat → ByteArray) : ∀ n, (revL g n).reverse = (List.range n).map g
  | 0 => rfl
  | n + 1 => by rw [revL, List.reverse_cons, revL_rev g n, List.range_succ, List.map_append]; rfl
theorem dig_any (s : ByteArray) (w : World) :
    Calls Tryd.prog 19 #[.string s] w fun e w' => e = .returned (.bool (decide ((s.size : Int) = 32))) ∧ w' = w := by
  go_enter Tryd.func19, Tryd.ntmps19
  go_wp2
  go_ret
  exact ⟨rfl, rfl⟩
theorem dig_yes (s : ByteArray) (h : s.size = 32) (w : World) :
    Calls Tryd.prog 19 #[.string s] w fun e w' => e = .returned (.bool true) ∧ w' = w := by
  have := dig_any s w
  rw [decide_eq_true (by omega)] at this
  exact this
theorem dig_no (s : ByteArray) (h : s.size ≠ 32) (w : World) :
    Calls Tryd.prog 19 #[.string s] w fun e w' => e = .returned (.bool false) ∧ w' = w := by
  have := dig_any s w
  rw [decide_eq_false (by omega)] at this
  exact this
set_option maxHeartbeats 1000000 in
theorem high_none (p : Option Addr) (c : Nat) (w : World) :
    Calls Tryd.prog 28 #[.slice p 0 c] w fun e w' => e = .returned (.tuple #[.slice none 0 0, .string ⟨#[]⟩, .bool false]) ∧ w' = w := by
  go_enter Tryd.func28, Tryd.ntmps28
  go_wp2
  go_ret3
  exact ⟨rfl, rfl⟩
set_option maxHeartbeats 1000000 in
theorem high_bad (p : Option Addr) (n c : Nat) (g : Nat → ByteArray) (w : World) (H : Strs w p (n + 1) c g) (h : (g n).size ≠ 32) :
    Calls Tryd.prog 28 #[.slice p (n + 1) c] w fun e w' => e = .returned (.tuple #[.slice none 0 0, .string ⟨#[]⟩, .bool false]) ∧ w' = w := by
  obtain ⟨b, o, rfl, hbl, hc⟩ := H.at' (by omega)
  have hcap := H.cap
  have c0 := hc n (by omega)
  obtain ⟨x, hx⟩ : ∃ x, g n = x := ⟨_, rfl⟩
  rw [hx] at h c0
  clear hx hc H
  have hm : maxLen = 9223372036854775807 := rfl
  go_enter Tryd.func28, Tryd.ntmps28
  go_wp2_with (go_at_call 19; refine (dig_no x h _).mono ?_; rintro e w' ⟨rfl, rfl⟩)
  go_ret3
  exact ⟨rfl, rfl⟩
set_option maxHeartbeats 1000000 in
theorem high_ok (p : Option Addr) (n c : Nat) (g : Nat → ByteArray) (w : World) (H : Strs w p (n + 1) c g) (h : (g n).size = 32) :
    Calls Tryd.prog 28 #[.slice p (n + 1) c] w fun e w' => e = .returned (.tuple #[.slice p n c, .string (g n), .bool true]) ∧ Below w.heap.size w w' := by
  obtain ⟨b, o, rfl, hbl, hc⟩ := H.at' (by omega)
  have hcap := H.cap
  have c0 := hc n (by omega)
  obtain ⟨x, hx⟩ : ∃ x, g n = x := ⟨_, rfl⟩
  rw [hx] at h c0 ⊢
  clear hx hc H
  have hm : maxLen = 9223372036854775807 := rfl
  go_enter Tryd.func28, Tryd.ntmps28
  go_wp2_with (go_at_call 19; refine (dig_yes x h _).mono ?_; rintro e w' ⟨rfl, rfl⟩)
  go_quiet (fail)
  go_wp2
  go_ret3
  exact ⟨rfl, below_drewN (Below.refl _ _) _⟩
end Go.Proofs.YtjamahpccblkiabDoor
