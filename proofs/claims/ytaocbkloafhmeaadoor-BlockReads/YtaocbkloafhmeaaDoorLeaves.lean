/- The law HashLeaves as a walk: of any three strings that fit, with the round numbers laid, the call returns true and nothing that was there has changed. -/
import Derived.Test.YtaocbkloafhmeaaDoorSums
import Derived.WalkKit
import Derived.WalkSpells
import Derived.WalkLawsBesides
namespace Go.Proofs.YtaocbkloafhmeaaDoor
open Go.RowKit
def leafT (s : ByteArray) : ByteArray := ⟨#[0]⟩ ++ s
def nodeT (a b : ByteArray) : ByteArray := (⟨#[1]⟩ ++ a) ++ b
theorem leafT_size (s : ByteArray) (h : s.size ≤ 18014398509481984) : (leafT s).size ≤ 72057594037927936 := by
  unfold leafT; rw [ByteArray.size_append]
  have : (⟨#[0]⟩ : ByteArray).size = 1 := rfl
  omega
theorem nodeT_size (a b : ByteArray) (ha : a.size ≤ 18014398509481984) (hb : b.size ≤ 18014398509481984) : (nodeT a b).size ≤ 72057594037927936 := by
  unfold nodeT; rw [ByteArray.size_append, ByteArray.size_append]
  have : (⟨#[1]⟩ : ByteArray).size = 1 := rfl
  omega
theorem leaf_ne_node (s a b : ByteArray) : leafT s ≠ nodeT a b := by
  intro h
  have := congrArg (fun x : ByteArray => x.data.toList.head?) h
  simp [leafT, nodeT] at this
theorem size_one (c : UInt8) : (⟨#[c]⟩ : ByteArray).size = 1 := rfl
set_option maxHeartbeats 400000 in
theorem leaf_any (s : ByteArray) (hs : s.size ≤ 18014398509481984) (w : World) (hG : GL w) :
    Calls Tryd.prog 15 #[.string s] w fun e w' => e = .returned (.string (sumS (leafT s))) ∧ Below w.heap.size w w' := by
  have h1 := size_one 0
  go_enter Tryd.func15, Tryd.ntmps15
  go_wp2_with fail
  refine (hsum (leafT s) (leafT_size s hs) _ hG).mono ?_
  rintro e w1 ⟨rfl, hb1⟩
  go_wp2
  go_ret
  exact ⟨rfl, hb1⟩
set_option maxHeartbeats 400000 in
theorem rleaf_any (s : ByteArray) (hs : s.size ≤ 18014398509481984) (w : World) :
    Calls Tryd.prog 39 #[.string s] w fun e w' => e = .returned (.string (sumS (leafT s))) ∧ Below w.heap.size w w' := by
  have h1 := size_one 0
  go_enter Tryd.func39, Tryd.ntmps39
  go_wp2_with fail
  refine (rsum (leafT s) (leafT_size s hs) _).mono ?_
  rintro e w1 ⟨rfl, hb1⟩
  go_wp2
  go_ret
  exact ⟨rfl, hb1⟩
set_option maxHeartbeats 400000 in
theorem node_any (a b : ByteArray) (ha : a.size ≤ 18014398509481984) (hb : b.size ≤ 18014398509481984) (w : World) (hG : GL w) :
    Calls Tryd.prog 77 #[.string a, .string b] w fun e w' => e = .returned (.string (sumS (nodeT a b))) ∧ Below w.heap.size w w' := by
  have h1 := size_one 1
  go_enter Tryd.func77, Tryd.ntmps77
  go_wp2_with fail
  refine (hsum (nodeT a b) (nodeT_size a b ha hb) _ hG).mono ?_
  rintro e w1 ⟨rfl, hb1⟩
  go_wp2
  go_ret
  exact ⟨rfl, hb1⟩
set_option maxHeartbeats 400000 in
theorem rnode_any (a b : ByteArray) (ha : a.size ≤ 18014398509481984) (hb : b.size ≤ 18014398509481984) (w : World) :
    Calls Tryd.prog 81 #[.string a, .string b] w fun e w' => e = .returned (.string (sumS (nodeT a b))) ∧ Below w.heap.size w w' := by
  have h1 := size_one 1
  go_enter Tryd.func81, Tryd.ntmps81
  go_wp2_with fail
  refine (rsum (nodeT a b) (nodeT_size a b ha hb) _).mono ?_
  rintro e w1 ⟨rfl, hb1⟩
  go_wp2
  go_ret
  exact ⟨rfl, hb1⟩
end Go.Proofs.YtaocbkloafhmeaaDoor
