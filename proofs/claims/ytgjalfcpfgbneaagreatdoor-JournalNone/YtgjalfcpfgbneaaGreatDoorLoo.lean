/- The loose sectors of a file of which nothing is sure (loose). -/
import Derived.Test.YtgjalfcpfgbneaaGreatDoorCol
import Derived.Test.YtgjalfcpfgbneaaGreatDoorCln
namespace Go.Proofs.YtgjalfcpfgbneaaGreatDoor
open Go.RowKit Go.Shelf
def upto (k : Nat) : List Value := (List.range k).map fun (i : Nat) => Value.int .i64 (i : Int)
theorem upto_succ (k : Nat) : upto (k + 1) = upto k ++ [.int .i64 (k : Int)] := by simp [upto, List.range_succ]
set_option maxRecDepth 100000 in
set_option maxHeartbeats 2000000 in
theorem loose_none {w : World} {f L c : Nat} {p : Option Addr} (hL : L ≤ 1000000) (K : Nat) (hK : secN (L : Int) = (K : Int)) (h : Fl w f (.slice p L c) 0 (.map none)) :
    Calls Tryz.prog 67 #[.pointer (some ⟨f, 0, none⟩)] w fun e w' => ∃ v, e = .returned v ∧ w'.ownsRow w.heap.size 3 1 v K (upto K) ∧ Below w.heap.size w w' := by
  obtain ⟨c0, c1, c2⟩ := h.cells
  obtain ⟨i0, hi, hz0, hz1, hz2⟩ := info_parts info3
  have hKb : K ≤ 20000 := by
    have : secN (L : Int) ≤ 20000 := by unfold secN; omega
    omega
  have kk := skeys_box w
  obtain ⟨w1, hw1⟩ : ∃ w1, w.alloc (.cells #[.map none] 95) = w1 := ⟨_, rfl⟩
  rw [hw1] at kk
  have hb1 : Below w.heap.size w w1 := by rw [← hw1]; exact (Below.refl _ w).alloc (Nat.le_refl _) _
  have r1 : w1.heap[w.heap.size]? = some (.cells #[.map none] 95 (0, 0)) := by rw [← hw1]; exact heap_alloc_new _ _
  have ks := sorted_none w.heap.size r1
  have hs0 := fun w => sectors_any 0 (by omega) (by omega) w
  have hz : secN 0 = 0 := by decide
  rw [hz] at hs0
  have hsL := fun w => sectors_any (L : Int) (by omega) (by omega) w
  rw [hK] at hsL
  clear hw1 hz
  go_enter Tryz.func67, Tryz.ntmps67
  go_wp2_with fail
  refine kk.mono ?_
  rintro e w1b ⟨rfl, rfl⟩
  go_wp2_with fail
  refine ks.mono ?_
  rintro e w2 ⟨rfl, hb2⟩
  have hB2 : Below w.heap.size w w2 := hb1.trans (hb2.mono hb1.size)
  have h2 : Fl w2 f (.slice p L c) 0 (.map none) := (hB2.block _ (lt_of_row h)).trans h
  obtain ⟨d0, d1, d2⟩ := h2.cells
  clear kk ks c0 c1 c2
  go_wp2_with fail
  refine (hs0 _).mono ?_
  rintro e w3 ⟨rfl, rfl⟩
  go_wp2
  go_loopw [3, 4] (fun v3 v4 wr => ∃ i : Nat, v4 = .int .i64 (i : Int) ∧ i ≤ K ∧ wr.ownsRow w.heap.size 3 1 v3 i (upto i) ∧ Below w.heap.size w wr) (fun _ v4 _ => K - (intOf v4).toNat)
  case atStart => exact ⟨0, rfl, Nat.zero_le _, ⟨rfl, Or.inl ⟨rfl, rfl⟩⟩, hB2⟩
  case round =>
    clear d0 d1 d2
    obtain ⟨i, rfl, hiK, hown, hbr⟩ := hrel
    have hr : Fl wr f (.slice p L c) 0 (.map none) := (hbr.block _ (lt_of_row h)).trans h
    obtain ⟨d0, d1, d2⟩ := hr.cells
    go_wp2_with fail
    refine (hsL _).mono ?_
    rintro e w4 ⟨rfl, rfl⟩
    by_cases hlt : i < K
    · have hlt' : (i : Int) < (K : Int) := by omega
      go_wp2_with (first
        | (at_builtin; refine wpList_append_own _ rfl _ _ 32 rfl w.heap.size 3 i0 (.int .i64 0) 1 8 Tryz.underlying32 hi hz0 hz1 hz2 rfl (by decide) _ _ _ rfl (hown.alloc _) ⟨w4.heap.size, 0, none⟩ 1 1 [.int .i64 (i : Int)] rfl rfl (cell_one_new _ _ _) (by simp [Value.oneCell']) (by unfold maxLen; omega) (by omega) (by have := hbr.size; simp; omega) ?_; intro v' w5 hown' hg5 hnil5; obtain ⟨qq, cc, rfl⟩ := ownsRow_succ hown')
        | go_in)
      go_roundw
      case rel =>
        refine ⟨i + 1, by go_num, by omega, by rw [upto_succ]; exact hown', ?_⟩
        exact (hbr.alloc hbr.size _).grown hg5 (by simp; have := hbr.size; omega) (fun k hk => (hown.lt k hk).1)
      case measure => simp [intOf]; omega
    · obtain rfl : i = K := by omega
      obtain ⟨pp, cc, rfl, _⟩ := own_slice hown
      go_wp2
      go_ret
      exact ⟨_, rfl, hown, hbr⟩
end Go.Proofs.YtgjalfcpfgbneaaGreatDoor
