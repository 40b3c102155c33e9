/- What a collision is (Collides), called: of two like texts the call returns false; of two unlike ones whether their digests are one; nothing that was there has changed. -/
import Derived.Test.YthgddfkinbcphaaDoorSums
import Derived.WalkKit
import Derived.WalkSpells
import Derived.WalkLawsBesides
import Derived.Deep.QuietTactic
import Derived.BigQuiet
namespace Go.Proofs.YthgddfkinbcphaaDoor
open Go.RowKit
structure CInv (w W : World) (a b : ByteArray) : Prop where
  hh : W.heap[w.heap.size]? = some (.cells #[.string a, .string b] 36 (0, 0))
  hg : GL W
  hb : Below w.heap.size w W
theorem CInv.later {w W W' : World} {a b : ByteArray} (H : CInv w W a b) (hb : Below W.heap.size W W') : CInv w W' a b := by
  have hl := lt_of_row H.hh
  exact ⟨(below_heap hb _ hl).trans H.hh, H.hg.later hb, H.hb.trans (hb.mono (by omega))⟩
theorem CInv.drewN {w W : World} {a b : ByteArray} (H : CInv w W a b) (n : Nat) : CInv w (W.drewN n) a b := ⟨H.hh, H.hg, below_drewN H.hb n⟩
theorem CInv.c0 {w W : World} {a b : ByteArray} (H : CInv w W a b) : W.cell? ⟨w.heap.size, 0, none⟩ = some (.string a) := cell_of_row W _ 0 _ _ _ H.hh
theorem CInv.c1 {w W : World} {a b : ByteArray} (H : CInv w W a b) : W.cell? ⟨w.heap.size, 1, none⟩ = some (.string b) := cell_of_row W _ 1 _ _ _ H.hh
theorem q_at {P : Program} {o : Oper} {a : Act} {C : World → Prop} {K : Act → Prop} {v : Value} (hrun : ∀ W, C W → (execOp a.eval o).run P W = .ok (.value v) W) (hk : K (a.put o.dst v)) : o.quiet P a C K :=
  ⟨v, fun W hW => by unfold Oper.quietAt; rw [hrun W hW]; exact ⟨rfl, rfl⟩, hk⟩
set_option maxHeartbeats 1000000 in
theorem coll_same (a : ByteArray) (w : World) (hG : GL w) :
    Calls Tryd.prog 20 #[.agg #[.string a, .string a]] w fun e w' => e = .returned (.bool false) ∧ Below w.heap.size w w' := by
  have inv0 : CInv w (w.alloc (.cells #[.string a, .string a] 36)) a a := ⟨heap_alloc_new _ _, hG.later ((Below.refl _ _).alloc (Nat.le_refl _) _), (Below.refl _ _).alloc (Nat.le_refl _) _⟩
  go_enter Tryd.func20, Tryd.ntmps20
  go_wp2_with fail
  refine wp_region_quiet (C := fun W => CInv w W a a) (by kernel_rfl) (by kernel_rfl) (inv0.drewN 1) ?_
  refine BigFrame.wpQuiet_want (by rfl) (fun K hK => q_pure (v := .pointer (some ⟨w.heap.size, 0, none⟩)) (fun W => ?_) (hK _ ?_))
  · go_simp
  simp only [Act.put, List.setIfInBounds_toArray, List.set_cons_zero, List.set_cons_succ]
  refine BigFrame.wpQuiet_want (by rfl) (fun K hK => q_at (v := .string a) (fun W hW => ?_) (hK _ ?_))
  · have hc := CInv.c0 hW
    go_simp
  simp only [Act.put, List.setIfInBounds_toArray, List.set_cons_zero, List.set_cons_succ]
  refine BigFrame.wpQuiet_want (by rfl) (fun K hK => q_pure (v := .pointer (some ⟨w.heap.size, 1, none⟩)) (fun W => ?_) (hK _ ?_))
  · go_simp
  simp only [Act.put, List.setIfInBounds_toArray, List.set_cons_zero, List.set_cons_succ]
  refine BigFrame.wpQuiet_want (by rfl) (fun K hK => q_at (v := .string a) (fun W hW => ?_) (hK _ ?_))
  · have hc := CInv.c1 hW
    go_simp
  simp only [Act.put, List.setIfInBounds_toArray, List.set_cons_zero, List.set_cons_succ]
  refine BigFrame.wpQuiet_want (by rfl) (fun K hK => q_pure (v := .bool false) (fun W => ?_) (hK _ ?_))
  · go_simp
  simp only [Act.put, List.setIfInBounds_toArray, List.set_cons_zero, List.set_cons_succ]
  go_big_quiet_step (fail)
  go_big_quiet_step (fail)
  go_big_quiet_step (fail)
  go_big_quiet_step (fail)
  go_big_quiet_step (fail)
  go_big_quiet_step (fail)
  go_big_quiet_step (fail)
  go_big_quiet_step (fail)
  refine BigFrame.wpQuiet_want (by rfl) (fun K hK => q_pure (v := .bool false) (fun W => ?_) (hK _ ?_))
  · go_simp
  simp only [Act.put, List.setIfInBounds_toArray, List.set_cons_zero, List.set_cons_succ]
  go_big_quiet_step (fail)
  refine wpQuiet_nil ?_
  intro w' hw'
  go_wp2
  go_ret
  exact ⟨rfl, hw'.hb⟩
set_option maxHeartbeats 1000000 in
theorem coll_unlike (a b : ByteArray) (ha : a.size ≤ 4096) (hb0 : b.size ≤ 4096) (r : Bool) (hab : (a.toList == b.toList) = false) (hr : ((sumS a).toList == (sumS b).toList) = r) (w : World) (hG : GL w) :
    Calls Tryd.prog 20 #[.agg #[.string a, .string b]] w fun e w' => e = .returned (.bool r) ∧ Below w.heap.size w w' := by
  have inv0 : CInv w (w.alloc (.cells #[.string a, .string b] 36)) a b := ⟨heap_alloc_new _ _, hG.later ((Below.refl _ _).alloc (Nat.le_refl _) _), (Below.refl _ _).alloc (Nat.le_refl _) _⟩
  go_enter Tryd.func20, Tryd.ntmps20
  go_wp2_with fail
  refine wp_region_quiet (C := fun W => CInv w W a b) (by kernel_rfl) (by kernel_rfl) (inv0.drewN 1) ?_
  refine BigFrame.wpQuiet_want (by rfl) (fun K hK => q_pure (v := .pointer (some ⟨w.heap.size, 0, none⟩)) (fun W => ?_) (hK _ ?_))
  · go_simp
  simp only [Act.put, List.setIfInBounds_toArray, List.set_cons_zero, List.set_cons_succ]
  refine BigFrame.wpQuiet_want (by rfl) (fun K hK => q_at (v := .string a) (fun W hW => ?_) (hK _ ?_))
  · have hc := CInv.c0 hW
    go_simp
  simp only [Act.put, List.setIfInBounds_toArray, List.set_cons_zero, List.set_cons_succ]
  refine BigFrame.wpQuiet_want (by rfl) (fun K hK => q_pure (v := .pointer (some ⟨w.heap.size, 1, none⟩)) (fun W => ?_) (hK _ ?_))
  · go_simp
  simp only [Act.put, List.setIfInBounds_toArray, List.set_cons_zero, List.set_cons_succ]
  refine BigFrame.wpQuiet_want (by rfl) (fun K hK => q_at (v := .string b) (fun W hW => ?_) (hK _ ?_))
  · have hc := CInv.c1 hW
    go_simp
  simp only [Act.put, List.setIfInBounds_toArray, List.set_cons_zero, List.set_cons_succ]
  refine BigFrame.wpQuiet_want (by rfl) (fun K hK => q_pure (v := .bool true) (fun W => ?_) (hK _ ?_))
  · go_simp
  simp only [Act.put, List.setIfInBounds_toArray, List.set_cons_zero, List.set_cons_succ]
  go_big_quiet_step (fail)
  refine BigFrame.wpQuiet_want (by rfl) (fun K hK => q_pure (v := .pointer (some ⟨w.heap.size, 0, none⟩)) (fun W => ?_) (hK _ ?_))
  · go_simp
  simp only [Act.put, List.setIfInBounds_toArray, List.set_cons_zero, List.set_cons_succ]
  refine BigFrame.wpQuiet_want (by rfl) (fun K hK => q_at (v := .string a) (fun W hW => ?_) (hK _ ?_))
  · have hc := CInv.c0 hW
    go_simp
  simp only [Act.put, List.setIfInBounds_toArray, List.set_cons_zero, List.set_cons_succ]
  refine BigFrame.wpQuiet_want (by rfl) (fun K hK => q_call (f := 14) (args := #[.string a]) (v := .string (sumS a)) (fun W => ?_) (fun W hW => (hsum a ha W hW.hg).mono fun e w' ⟨he, hb⟩ => ⟨he, hW.later hb⟩) (hK _ ?_))
  · go_simp
  simp only [Act.put, List.setIfInBounds_toArray, List.set_cons_zero, List.set_cons_succ]
  refine BigFrame.wpQuiet_want (by rfl) (fun K hK => q_pure (v := .pointer (some ⟨w.heap.size, 1, none⟩)) (fun W => ?_) (hK _ ?_))
  · go_simp
  simp only [Act.put, List.setIfInBounds_toArray, List.set_cons_zero, List.set_cons_succ]
  refine BigFrame.wpQuiet_want (by rfl) (fun K hK => q_at (v := .string b) (fun W hW => ?_) (hK _ ?_))
  · have hc := CInv.c1 hW
    go_simp
  simp only [Act.put, List.setIfInBounds_toArray, List.set_cons_zero, List.set_cons_succ]
  refine BigFrame.wpQuiet_want (by rfl) (fun K hK => q_call (f := 14) (args := #[.string b]) (v := .string (sumS b)) (fun W => ?_) (fun W hW => (hsum b hb0 W hW.hg).mono fun e w' ⟨he, hb⟩ => ⟨he, hW.later hb⟩) (hK _ ?_))
  · go_simp
  simp only [Act.put, List.setIfInBounds_toArray, List.set_cons_zero, List.set_cons_succ]
  refine BigFrame.wpQuiet_want (by rfl) (fun K hK => q_pure (v := .bool r) (fun W => ?_) (hK _ ?_))
  · go_simp
  simp only [Act.put, List.setIfInBounds_toArray, List.set_cons_zero, List.set_cons_succ]
  refine BigFrame.wpQuiet_want (by rfl) (fun K hK => q_pure (v := .bool r) (fun W => ?_) (hK _ ?_))
  · go_simp
  simp only [Act.put, List.setIfInBounds_toArray, List.set_cons_zero, List.set_cons_succ]
  go_big_quiet_step (fail)
  refine wpQuiet_nil ?_
  intro w' hw'
  go_wp2
  go_ret
  exact ⟨rfl, hw'.hb⟩
end Go.Proofs.YthgddfkinbcphaaDoor
