/- Check, called: of any revision. -/
import Derived.Test.YtaocbkloafhmeaaDoorChk
namespace Go.Proofs.YtaocbkloafhmeaaDoor
open Go.RowKit
set_option maxRecDepth 100000 in
set_option maxHeartbeats 2000000 in
theorem check_any (r : Rv) (hr : r.fit) (w : World) (hG : GL w) : Calls Tryd.prog 11 #[r.val] w fun e w' => e = .returned (.int .i64 (checkR r)) ∧ Below w.heap.size w w' := by
  have hnm := fun W => name_any r.t W
  have hfi := fun W => fits_any r hr W
  have hbo := fun W hG => body_any r hr W hG
  have hhs := fun W => has_any r.op W
  have hC : checkR r = if nameB r.t && fitsB r && (if bodied r.op then bodyB r else r.h.toList.isEmpty && r.b.toList.isEmpty && !r.g) then 0 else 6 := by
    rw [empty_size, empty_size]
    rfl
  rw [hC]
  clear hC
  obtain ⟨N, hN⟩ : ∃ N, nameB r.t = N := ⟨_, rfl⟩
  obtain ⟨F, hF⟩ : ∃ F, fitsB r = F := ⟨_, rfl⟩
  obtain ⟨H, hH⟩ : ∃ H, bodied r.op = H := ⟨_, rfl⟩
  obtain ⟨B, hB⟩ : ∃ B, bodyB r = B := ⟨_, rfl⟩
  rw [hN] at hnm ⊢
  rw [hF] at hfi ⊢
  rw [hH] at hhs ⊢
  rw [hB] at hbo ⊢
  clear hN hF hH hB hr
  obtain ⟨op, t, f, d, v, h, b, g⟩ := r
  rw [show (Rv.mk op t f d v h b g).val = .agg #[.int .i64 op, .string t, .string f, .int .u64 (d : Int), .int .u64 (v : Int), .string h, .string b, .bool g] from rfl] at hfi hbo ⊢
  simp only at hnm hhs ⊢
  obtain ⟨X, hX⟩ : ∃ X, h.toList.isEmpty = X := ⟨_, rfl⟩
  obtain ⟨Y, hY⟩ : ∃ Y, b.toList.isEmpty = Y := ⟨_, rfl⟩
  rw [hX, hY]
  go_enter Tryd.func11, Tryd.ntmps11
  go_wp2_with fail
  refine (hnm _).mono ?_
  rintro e w1 ⟨rfl, rfl⟩
  have hG1 := hG.later ((Below.refl _ w).alloc (Nat.le_refl _) (.cells #[.int .i64 op, .string t, .string f, .int .u64 (d : Int), .int .u64 (v : Int), .string h, .string b, .bool g] 24))
  cases N with
  | false =>
    go_wp2
    go_ret
    exact ⟨rfl, (Below.refl _ w).alloc (Nat.le_refl _) _⟩
  | true =>
    go_wp2_with fail
    refine (hfi _).mono ?_
    rintro e w2 ⟨rfl, hb2⟩
    have hb0 : Below w.heap.size w w2 := ((Below.refl _ w).alloc (Nat.le_refl _) _).trans (hb2.mono (by simp))
    have hrow := (hb2.block w.heap.size (by simp)).trans (heap_alloc_new w (.cells #[.int .i64 op, .string t, .string f, .int .u64 (d : Int), .int .u64 (v : Int), .string h, .string b, .bool g] 24))
    have c0 := cell_of_row w2 _ 0 _ _ _ hrow
    have c1 := cell_of_row w2 _ 1 _ _ _ hrow
    have c2 := cell_of_row w2 _ 2 _ _ _ hrow
    have c3 := cell_of_row w2 _ 3 _ _ _ hrow
    have c4 := cell_of_row w2 _ 4 _ _ _ hrow
    have c5 := cell_of_row w2 _ 5 _ _ _ hrow
    have c6 := cell_of_row w2 _ 6 _ _ _ hrow
    have c7 := cell_of_row w2 _ 7 _ _ _ hrow
    have hG2 := hG1.later hb2
    cases F with
    | false =>
      go_wp2
      go_ret
      exact ⟨rfl, hb0⟩
    | true =>
      go_wp2_with fail
      refine (hhs _).mono ?_
      rintro e w3 ⟨rfl, rfl⟩
      cases H with
      | true =>
        go_wp2_with fail
        refine (hbo _ hG2).mono ?_
        rintro e w4 ⟨rfl, hb4⟩
        go_wp2
        all_goals
          go_ret
          exact ⟨by simp_all, hb0.trans (hb4.mono hb0.size)⟩
      | false =>
        go_wp2
        all_goals
          go_ret
          refine ⟨?_, hb0⟩
          simp_all
end Go.Proofs.YtaocbkloafhmeaaDoor
