/- The law HashLeaves as a walk: of any three strings that fit, with the round numbers laid, the call returns true and nothing that was there has changed. -/
import Derived.Test.YthgddfkinbcphaaDoorCollides
import Derived.WalkKit
import Derived.WalkSpells
import Derived.WalkLawsBesides
namespace Go.Proofs.YthgddfkinbcphaaDoor
open Go.RowKit
def leafT (s : ByteArray) : ByteArray := ⟨#[0]⟩ ++ s
def nodeT (a b : ByteArray) : ByteArray := (⟨#[1]⟩ ++ a) ++ b
theorem leafT_size (s : ByteArray) (h : s.size ≤ 400) : (leafT s).size ≤ 4096 := by
  unfold leafT; rw [ByteArray.size_append]
  have : (⟨#[0]⟩ : ByteArray).size = 1 := rfl
  omega
theorem nodeT_size (a b : ByteArray) (ha : a.size ≤ 400) (hb : b.size ≤ 400) : (nodeT a b).size ≤ 4096 := by
  unfold nodeT; rw [ByteArray.size_append, ByteArray.size_append]
  have : (⟨#[1]⟩ : ByteArray).size = 1 := rfl
  omega
theorem leaf_ne_node (s a b : ByteArray) : leafT s ≠ nodeT a b := by
  intro h
  have := congrArg (fun x : ByteArray => x.data.toList.head?) h
  simp [leafT, nodeT] at this
theorem size_one (c : UInt8) : (⟨#[c]⟩ : ByteArray).size = 1 := rfl
set_option maxHeartbeats 400000 in
theorem leaf_any (s : ByteArray) (hs : s.size ≤ 400) (w : World) (hG : GL w) :
    Calls Tryd.prog 16 #[.string s] w fun e w' => e = .returned (.string (sumS (leafT s))) ∧ Below w.heap.size w w' := by
  have h1 := size_one 0
  go_enter Tryd.func16, Tryd.ntmps16
  go_wp2_with fail
  refine (hsum (leafT s) (leafT_size s hs) _ hG).mono ?_
  rintro e w1 ⟨rfl, hb1⟩
  go_wp2
  go_ret
  exact ⟨rfl, hb1⟩
set_option maxHeartbeats 400000 in
theorem rleaf_any (s : ByteArray) (hs : s.size ≤ 400) (w : World) :
    Calls Tryd.prog 17 #[.string s] w fun e w' => e = .returned (.string (sumS (leafT s))) ∧ Below w.heap.size w w' := by
  have h1 := size_one 0
  go_enter Tryd.func17, Tryd.ntmps17
  go_wp2_with fail
  refine (rsum (leafT s) (leafT_size s hs) _).mono ?_
  rintro e w1 ⟨rfl, hb1⟩
  go_wp2
  go_ret
  exact ⟨rfl, hb1⟩
set_option maxHeartbeats 400000 in
theorem node_any (a b : ByteArray) (ha : a.size ≤ 400) (hb : b.size ≤ 400) (w : World) (hG : GL w) :
    Calls Tryd.prog 18 #[.string a, .string b] w fun e w' => e = .returned (.string (sumS (nodeT a b))) ∧ Below w.heap.size w w' := by
  have h1 := size_one 1
  go_enter Tryd.func18, Tryd.ntmps18
  go_wp2_with fail
  refine (hsum (nodeT a b) (nodeT_size a b ha hb) _ hG).mono ?_
  rintro e w1 ⟨rfl, hb1⟩
  go_wp2
  go_ret
  exact ⟨rfl, hb1⟩
set_option maxHeartbeats 400000 in
theorem rnode_any (a b : ByteArray) (ha : a.size ≤ 400) (hb : b.size ≤ 400) (w : World) :
    Calls Tryd.prog 19 #[.string a, .string b] w fun e w' => e = .returned (.string (sumS (nodeT a b))) ∧ Below w.heap.size w w' := by
  have h1 := size_one 1
  go_enter Tryd.func19, Tryd.ntmps19
  go_wp2_with fail
  refine (rsum (nodeT a b) (nodeT_size a b ha hb) _).mono ?_
  rintro e w1 ⟨rfl, hb1⟩
  go_wp2
  go_ret
  exact ⟨rfl, hb1⟩
set_option maxHeartbeats 1000000 in
theorem leaves_apart (s a b : ByteArray) (w : World) (hG : GL w) (hs : s.size ≤ maxLen) (ha : a.size ≤ maxLen) (hb : b.size ≤ maxLen) (hr : ((sumS (leafT (fewS s))).toList == (sumS (nodeT (fewS a) (fewS b))).toList) = false) :
    Calls Tryd.prog 6 #[.string s, .string a, .string b] w fun e w' => e = .returned (.bool true) ∧ Below w.heap.size w w' := by
  have f1 := fewS_size s
  have f2 := fewS_size a
  have f3 := fewS_size b
  obtain ⟨x, hx⟩ : ∃ x, fewS s = x := ⟨_, rfl⟩
  obtain ⟨y, hy⟩ : ∃ y, fewS a = y := ⟨_, rfl⟩
  obtain ⟨z, hz⟩ : ∃ z, fewS b = z := ⟨_, rfl⟩
  have HX : Hid (fewS s = x) := hx
  have HY : Hid (fewS a = y) := hy
  have HZ : Hid (fewS b = z) := hz
  rw [hx] at f1
  rw [hy] at f2
  rw [hz] at f3
  rw [hx, hy, hz] at hr
  clear hx hy hz
  have s0 := size_one 0
  have s1 := size_one 1
  go_enter Tryd.func6, Tryd.ntmps6
  go_wp2_with fail
  refine (few_any s _ hs).mono ?_
  rintro e w1 ⟨rfl, rfl⟩
  go_wp2_with fail
  refine (few_any a _ ha).mono ?_
  rintro e w1 ⟨rfl, rfl⟩
  go_wp2_with fail
  refine (few_any b _ hb).mono ?_
  rintro e w1 ⟨rfl, rfl⟩
  rw [HX.out, HY.out, HZ.out]
  go_wp2_with fail
  refine (awake_any _ hG).mono ?_
  rintro e w1 ⟨rfl, hb1⟩
  go_wp2_with fail
  refine (leaf_any x f1 _ (hG.later hb1)).mono ?_
  rintro e w2 ⟨rfl, hb2⟩
  have b2 := below2 hb1 hb2
  go_wp2_with fail
  refine (rleaf_any x f1 _).mono ?_
  rintro e w3 ⟨rfl, hb3⟩
  have b3 := below2 b2 hb3
  go_wp2_with fail
  refine (node_any y z f2 f3 _ (hG.later b3)).mono ?_
  rintro e w4 ⟨rfl, hb4⟩
  have b4 := below2 b3 hb4
  go_wp2_with fail
  refine (rnode_any y z f2 f3 _).mono ?_
  rintro e w5 ⟨rfl, hb5⟩
  have b5 := below2 b4 hb5
  go_wp2_with fail
  refine (leaf_any x f1 _ (hG.later b5)).mono ?_
  rintro e w6 ⟨rfl, hb6⟩
  have b6 := below2 b5 hb6
  go_wp2_with fail
  refine (node_any y z f2 f3 _ (hG.later b6)).mono ?_
  rintro e w7 ⟨rfl, hb7⟩
  have b7 := below2 b6 hb7
  go_wp2
  go_ret
  exact ⟨rfl, b7⟩
set_option maxHeartbeats 1000000 in
theorem leaves_meet (s a b : ByteArray) (w : World) (hG : GL w) (hs : s.size ≤ maxLen) (ha : a.size ≤ maxLen) (hb : b.size ≤ maxLen) (hr : ((sumS (leafT (fewS s))).toList == (sumS (nodeT (fewS a) (fewS b))).toList) = true) :
    Calls Tryd.prog 6 #[.string s, .string a, .string b] w fun e w' => e = .returned (.bool true) ∧ Below w.heap.size w w' := by
  have f1 := fewS_size s
  have f2 := fewS_size a
  have f3 := fewS_size b
  obtain ⟨x, hx⟩ : ∃ x, fewS s = x := ⟨_, rfl⟩
  obtain ⟨y, hy⟩ : ∃ y, fewS a = y := ⟨_, rfl⟩
  obtain ⟨z, hz⟩ : ∃ z, fewS b = z := ⟨_, rfl⟩
  have HX : Hid (fewS s = x) := hx
  have HY : Hid (fewS a = y) := hy
  have HZ : Hid (fewS b = z) := hz
  rw [hx] at f1
  rw [hy] at f2
  rw [hz] at f3
  rw [hx, hy, hz] at hr
  clear hx hy hz
  have s0 := size_one 0
  have s1 := size_one 1
  go_enter Tryd.func6, Tryd.ntmps6
  go_wp2_with fail
  refine (few_any s _ hs).mono ?_
  rintro e w1 ⟨rfl, rfl⟩
  go_wp2_with fail
  refine (few_any a _ ha).mono ?_
  rintro e w1 ⟨rfl, rfl⟩
  go_wp2_with fail
  refine (few_any b _ hb).mono ?_
  rintro e w1 ⟨rfl, rfl⟩
  rw [HX.out, HY.out, HZ.out]
  go_wp2_with fail
  refine (awake_any _ hG).mono ?_
  rintro e w1 ⟨rfl, hb1⟩
  go_wp2_with fail
  refine (leaf_any x f1 _ (hG.later hb1)).mono ?_
  rintro e w2 ⟨rfl, hb2⟩
  have b2 := below2 hb1 hb2
  go_wp2_with fail
  refine (rleaf_any x f1 _).mono ?_
  rintro e w3 ⟨rfl, hb3⟩
  have b3 := below2 b2 hb3
  go_wp2_with fail
  refine (node_any y z f2 f3 _ (hG.later b3)).mono ?_
  rintro e w4 ⟨rfl, hb4⟩
  have b4 := below2 b3 hb4
  go_wp2_with fail
  refine (rnode_any y z f2 f3 _).mono ?_
  rintro e w5 ⟨rfl, hb5⟩
  have b5 := below2 b4 hb5
  go_wp2_with fail
  refine (leaf_any x f1 _ (hG.later b5)).mono ?_
  rintro e w6 ⟨rfl, hb6⟩
  have b6 := below2 b5 hb6
  go_wp2_with fail
  refine (node_any y z f2 f3 _ (hG.later b6)).mono ?_
  rintro e w7 ⟨rfl, hb7⟩
  have b7 := below2 b6 hb7
  go_wp2_with fail
  refine (coll_unlike (leafT x) (nodeT y z) (leafT_size x f1) (nodeT_size y z f2 f3) true (beq_of_ne (leaf_ne_node x y z)) hr _ (hG.later b7)).mono ?_
  rintro e w8 ⟨rfl, hb8⟩
  go_wp2
  go_ret
  exact ⟨rfl, below2 b7 hb8⟩
theorem leaves_walk (s a b : ByteArray) (w : World) (hG : GL w) (hs : s.size ≤ maxLen) (ha : a.size ≤ maxLen) (hb : b.size ≤ maxLen) :
    Calls Tryd.prog 6 #[.string s, .string a, .string b] w fun e w' => e = .returned (.bool true) ∧ Below w.heap.size w w' := by
  cases hr : ((sumS (leafT (fewS s))).toList == (sumS (nodeT (fewS a) (fewS b))).toList)
  · exact leaves_apart s a b w hG hs ha hb hr
  · exact leaves_meet s a b w hG hs ha hb hr
end Go.Proofs.YthgddfkinbcphaaDoor
