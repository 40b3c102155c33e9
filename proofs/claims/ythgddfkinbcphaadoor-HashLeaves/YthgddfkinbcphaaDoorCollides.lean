/- The law HashCollides as a walk: of any two strings that fit, with the round numbers laid, the call returns true and nothing that was there has changed. -/
import Derived.Test.YthgddfkinbcphaaDoorColl
import Derived.WalkKit
import Derived.WalkSpells
import Derived.WalkLawsBesides
namespace Go.Proofs.YthgddfkinbcphaaDoor
open Go.RowKit
theorem beq_of_ne {a b : ByteArray} (h : a ≠ b) : (a.toList == b.toList) = false := by
  rw [beq_eq_false_iff_ne]
  intro e
  rw [ByteArray.toList_eq, ByteArray.toList_eq] at e
  exact h (ByteArray.ext (Array.toList_inj.1 e))
theorem below2 {w w1 w2 : World} (h1 : Below w.heap.size w w1) (h2 : Below w1.heap.size w1 w2) : Below w.heap.size w w2 :=
  h1.trans (h2.mono h1.size)
set_option maxHeartbeats 1000000 in
theorem collides_like (s t : ByteArray) (w : World) (hG : GL w) (hs : s.size ≤ maxLen) (ht : t.size ≤ maxLen) (hst : fewS s = fewS t) :
    Calls Tryd.prog 7 #[.string s, .string t] w fun e w' => e = .returned (.bool true) ∧ Below w.heap.size w w' := by
  have HST : Hid (fewS s = fewS t) := hst
  clear hst
  go_enter Tryd.func7, Tryd.ntmps7
  go_wp2_with fail
  refine (few_any s _ hs).mono ?_
  rintro e w1 ⟨rfl, rfl⟩
  go_wp2_with fail
  refine (few_any t _ ht).mono ?_
  rintro e w1 ⟨rfl, rfl⟩
  rw [HST.out]
  go_wp2_with fail
  refine (awake_any _ hG).mono ?_
  rintro e w1 ⟨rfl, hb1⟩
  go_wp2_with fail
  refine (coll_same _ _ (hG.later hb1)).mono ?_
  rintro e w2 ⟨rfl, hb2⟩
  have b2 := below2 hb1 hb2
  go_wp2_with fail
  refine (coll_same _ _ (hG.later b2)).mono ?_
  rintro e w3 ⟨rfl, hb3⟩
  go_wp2
  go_ret
  exact ⟨rfl, below2 b2 hb3⟩
set_option maxHeartbeats 1000000 in
theorem collides_unlike (s t : ByteArray) (w : World) (hG : GL w) (hs : s.size ≤ maxLen) (ht : t.size ≤ maxLen) (hst : fewS s ≠ fewS t) :
    Calls Tryd.prog 7 #[.string s, .string t] w fun e w' => e = .returned (.bool true) ∧ Below w.heap.size w w' := by
  have f1 := fewS_size s
  have f2 := fewS_size t
  have hne := beq_of_ne hst
  obtain ⟨x, hx⟩ : ∃ x, fewS s = x := ⟨_, rfl⟩
  obtain ⟨y, hy⟩ : ∃ y, fewS t = y := ⟨_, rfl⟩
  have HX : Hid (fewS s = x) := hx
  have HY : Hid (fewS t = y) := hy
  rw [hx] at f1
  rw [hy] at f2
  rw [hx, hy] at hne
  clear hx hy hst
  obtain ⟨r, hr⟩ : ∃ r, ((sumS x).toList == (sumS y).toList) = r := ⟨_, rfl⟩
  go_enter Tryd.func7, Tryd.ntmps7
  go_wp2_with fail
  refine (few_any s _ hs).mono ?_
  rintro e w1 ⟨rfl, rfl⟩
  go_wp2_with fail
  refine (few_any t _ ht).mono ?_
  rintro e w1 ⟨rfl, rfl⟩
  rw [HX.out, HY.out]
  go_wp2_with fail
  refine (awake_any _ hG).mono ?_
  rintro e w1 ⟨rfl, hb1⟩
  go_wp2_with fail
  refine (coll_unlike x y (by omega) (by omega) r hne hr _ (hG.later hb1)).mono ?_
  rintro e w2 ⟨rfl, hb2⟩
  have b2 := below2 hb1 hb2
  go_wp2_with fail
  refine (rsum x (by omega) _).mono ?_
  rintro e w3 ⟨rfl, hb3⟩
  have b3 := below2 b2 hb3
  go_wp2_with fail
  refine (rsum y (by omega) _).mono ?_
  rintro e w4 ⟨rfl, hb4⟩
  have b4 := below2 b3 hb4
  go_wp2_with fail
  refine (coll_same _ _ (hG.later b4)).mono ?_
  rintro e w5 ⟨rfl, hb5⟩
  go_wp2
  go_ret
  exact ⟨rfl, below2 b4 hb5⟩
theorem collides_walk (s t : ByteArray) (w : World) (hG : GL w) (hs : s.size ≤ maxLen) (ht : t.size ≤ maxLen) :
    Calls Tryd.prog 7 #[.string s, .string t] w fun e w' => e = .returned (.bool true) ∧ Below w.heap.size w w' := by
  by_cases h : fewS s = fewS t
  · exact collides_like s t w hG hs ht h
  · exact collides_unlike s t w hG hs ht h
end Go.Proofs.YthgddfkinbcphaaDoor
