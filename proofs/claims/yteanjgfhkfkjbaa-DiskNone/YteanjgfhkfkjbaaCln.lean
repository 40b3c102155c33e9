/- slices.Clone of bytes, maps.Clone of a nil map, called. -/
import Derived.Test.YteanjgfhkfkjbaaLos
import Derived.Deep.RegionLaw
namespace Go.Proofs.Yteanjgfhkfkjbaa
open Go.RowKit
theorem eql_map82 (w : World) (m : Option Nat) : (binOp .eql 82 (.map m) (.map none)).run Try.prog w = .ok (.bool m.isNone) w := by
  simp [binOp, run_equal_map_nil w 82 3 110 m Try.underlying82, Result.andThen]
set_option maxHeartbeats 2000000 in
theorem mclone_nil (w : World) : Calls Try.prog 66 #[.map none] w fun e w' => e = .returned (.map none) ∧ w' = w := by
  have heq := eql_map82 w none
  go_enter Try.func66, Try.ntmps66
  go_wp2
  go_ret
  exact ⟨rfl, rfl⟩
theorem eql_slice (w : World) (a : Option Addr) (l c : Nat) : (binOp .eql 81 (.slice a l c) (.slice none 0 0)).run Try.prog w = .ok (.bool a.isNone) w := by
  simp [binOp, run_equal_slice_nil w 81 5 a l c Try.underlying81, Result.andThen]
set_option maxRecDepth 20000 in
set_option maxHeartbeats 2000000 in
theorem bclone {g n cap : Nat} (hn0 : 0 < n) (hn : n ≤ 1000000) (xs : List Value) (hxl : xs.length = n) (hone : ∀ u ∈ xs, u.oneCell' = true) (w : World) (hgl : g < w.heap.size) (hc : ∀ i x, xs[i]? = some x → w.cell? ⟨g, i, none⟩ = some x) :
    Calls Try.prog 65 #[.slice (some ⟨g, 0, none⟩) n cap] w fun e w' => ∃ v, e = .returned v ∧ w'.ownsRow w.heap.size 5 1 v n xs ∧ Below w.heap.size w w' := by
  obtain ⟨i5, hi, hz0, hz1, hz2⟩ := info_parts info5
  have hmade : (w.alloc (.cells #[] 5)).ownsRow w.heap.size 5 1 (.slice (some ⟨w.heap.size, 0, none⟩) 0 0) 0 [] := World.ownsRow_made w #[] 0 (Nat.le_refl _) (by unfold maxLen; omega) rfl
  have hnews : ∀ (j : Nat) (u : Value), xs[j]? = some u → (w.alloc (.cells #[] 5)).cell? ((⟨g, 0, none⟩ : Addr).add j) = some u := fun j u hu => by
    have hadd : (⟨g, 0, none⟩ : Addr).add j = ⟨g, j, none⟩ := by unfold Addr.add; split <;> simp_all
    rw [hadd]
    exact (World.cell?_of_block (a := ⟨g, j, none⟩) (Below.heap_alloc w _ g hgl)).trans (hc j u hu)
  have heq := eql_slice w (some ⟨g, 0, none⟩) n cap
  go_enter Try.func65, Try.ntmps65
  go_wp2_with (at_builtin; refine wpList_append_lies _ (by rfl) (.tmp 5) (.tmp 6) 81 (by rfl) w.heap.size 5 i5 _ 1 1 Try.underlying81 hi hz0 hz1 hz2 (by rfl) (by decide) (.slice (some ⟨w.heap.size, 0, none⟩) 0 0) 0 [] (by rfl) hmade ⟨g, 0, none⟩ n cap xs (by rfl) (by omega) hnews hone hn0 (by unfold maxLen; omega) (by omega) (by simp) _ rfl ?_; intro g6 cap6 w6 hown6 hgr6 hat6 hlt6)
  rw [Nat.zero_add, List.nil_append] at hown6
  go_ret
  refine ⟨_, rfl, ?_, ((Below.refl _ _).alloc (Nat.le_refl _) _).grown hgr6 (by simp) (fun k hk => (hmade.lt k hk).1)⟩
  exact hown6
set_option maxRecDepth 20000 in
set_option maxHeartbeats 4000000 in
theorem fclone {f g n cap : Nat} {sure : Int} (hn0 : 0 < n) (hn : n ≤ 1000000) (xs : List Value) (hxl : xs.length = n) (hone : ∀ u ∈ xs, u.oneCell' = true) (w : World) (h : Fl w f (.slice (some ⟨g, 0, none⟩) n cap) sure (.map none)) (hgl : g < w.heap.size) (hc : ∀ i x, xs[i]? = some x → w.cell? ⟨g, i, none⟩ = some x) :
    Calls Try.prog 49 #[.pointer (some ⟨f, 0, none⟩)] w fun e w' => ∃ f' v, e = .returned (.pointer (some ⟨f', 0, none⟩)) ∧ w.heap.size ≤ f' ∧ Fl w' f' v sure (.map none) ∧ w'.ownsRow w.heap.size 5 1 v n xs ∧ v.ownBlock ≠ some f' ∧ Below w.heap.size w w' := by
  obtain ⟨c0, c1, c2⟩ := h.cells
  have hfl : f < w.heap.size := lt_of_row h
  have hcl := bclone hn0 hn xs hxl hone (cap := cap) w.drew hgl hc
  go_enter Try.func49, Try.ntmps49
  go_wp2_with fail
  go_region_law ((first | (go_simp; go_at_call 65; refine hcl.mono ?_; rintro e w2 ⟨v, rfl, hown, hb2⟩; obtain ⟨pv, pc, rfl, hpc⟩ := own_slice hown; have e1 := (hb2.cell (p := ⟨f, 1, none⟩) hfl).trans c1; have e2 := (hb2.cell (p := ⟨f, 2, none⟩) hfl).trans c2; dsimp only) | (go_simp; go_at_call 66; refine (mclone_nil _).mono ?_; rintro e w3 ⟨rfl, rfl⟩; dsimp only)))
  all_goals
    go_wp2
    go_ret
    have hs2 := hb2.size
    refine ⟨w3.heap.size, _, rfl, hs2, heap_alloc_new _ _, World.ownsRow.alloc hown _, fun hk => absurd (hown.lt _ hk).2 (Nat.lt_irrefl _), Below.alloc ?_ hs2 _⟩
    exact ⟨hb2.os, hb2.tape, hb2.output, hb2.size, hb2.block⟩
end Go.Proofs.Yteanjgfhkfkjbaa
