/- The law EncWalks, called with nothing to take: the call returns true, and nothing that was there has changed. -/
import Derived.Test.YtmijbflgfbfbiaaWalks
import Derived.WalkKit
import Derived.WalkSpells
import Derived.WalkLawsBesides
import Derived.Deep.QuietTactic
import Derived.BigQuiet
import Derived.Deep.RegionWith
import Derived.Deep.DeepCutAuto
import Derived.Deep.CutBlock
import Derived.Lib.Strings
namespace Go.Proofs.Ytmijbflgfbfbiaa
open Go.RowKit
set_option maxRecDepth 20000 in
set_option maxHeartbeats 1000000 in
theorem law_walks0 (s : ByteArray) (a : Option Addr) (cap : Nat) (w : World) :
    Calls Try.prog 6 #[.string s, .slice a 0 cap] w fun r w' => r = .returned (.bool true) ∧ Below w.heap.size w w' := by
  have hfe := fun W => few_any s W
  have ht := fewB_size s
  obtain ⟨t, hfew⟩ : ∃ t, fewB s = t := ⟨_, rfl⟩
  rw [hfew] at ht
  simp only [hfew] at hfe
  clear hfew
  go_enter Try.func6, Try.ntmps6
  go_wp2_with fail
  refine (hfe _).mono ?_
  rintro e0 w1 ⟨rfl, rfl⟩
  go_wp2_with fail
  refine (at_any _ _).mono ?_
  rintro e0 w2 ⟨rfl, rfl⟩
  go_wp2
  have inv0 : WInv w1 ((w1.alloc (.cells #[.string t, .int .i64 0, .int .i64 0] 61)).alloc (.cells #[.string t, .int .i64 0, .int .i64 0] 36)) w1.heap.size (w1.heap.size + 1) t 0 0 :=
    ⟨below_two _ _ _, heap_alloc2_old _ _ _, heap_alloc2_new _ _ _⟩
  obtain ⟨b, hbb⟩ : ∃ b, w1.heap.size = b := ⟨_, rfl⟩
  obtain ⟨W0, hW0⟩ : ∃ W0, (w1.alloc (.cells #[.string t, .int .i64 0, .int .i64 0] 61)).alloc (.cells #[.string t, .int .i64 0, .int .i64 0] 36) = W0 := ⟨_, rfl⟩
  rw [hW0] at inv0 ⊢
  rw [hbb] at inv0 ⊢
  obtain ⟨d, hdd⟩ : ∃ d, b + 1 = d := ⟨_, rfl⟩
  rw [hdd] at inv0 ⊢
  have hwb : Hid (w1.heap.size ≤ b) := by show _ ≤ _; omega
  have hbd : b ≠ d := by omega
  have hwd : Hid (w1.heap.size ≤ d) := by show _ ≤ _; omega
  have HW : Hid (∀ (W : World) (o : Nat) (e : Int), WInv w1 W b d t o e → True) := fun _ _ _ _ => trivial
  clear hbb hW0 hdd hfe HW hwd
  go_loopw [8] (fun c8 wr => ∃ (o : Nat) (e : Int), c8 = .int .i64 0 ∧ WInv w1 wr b d t o e) (fun _ _ => 0)
  case atStart => exact ⟨0, 0, rfl, inv0⟩
  case round =>
    clear inv0
    obtain ⟨o, e, rfl, inv⟩ := hrel
    go_wp2_with fail
    refine wp_region_quiet (C := fun W => EInv w1 W b d t o e) (by kernel_rfl) (by kernel_rfl) (⟨below_drewN inv.hb 1, Or.inl inv.hc, inv.hd⟩ : EInv w1 (wr.drewN 1) b d t o e) ?_
    refine BigFrame.wpQuiet_want (by rfl) (fun K hK => q_call (f := 11) (args := #[]) (v := .bool true) (fun W => ?_) (fun W hW => hW.awake) (hK _ ?_))
    · go_simp
    simp only [Act.put, List.setIfInBounds_toArray, List.set_cons_zero, List.set_cons_succ]
    go_big_quiet_step (fail)
    go_big_quiet_step (fail)
    refine BigFrame.wpQuiet_want (by rfl) (fun K hK => q_call (f := 14) (args := #[.pointer (some ⟨b, 0, none⟩)]) (v := .int .i64 (endE t o e)) (fun W => ?_) (fun W hW => hW.eend hwb.out hbd) (hK _ ?_))
    · go_simp
    simp only [Act.put, List.setIfInBounds_toArray, List.set_cons_zero, List.set_cons_succ]
    refine BigFrame.wpQuiet_want (by rfl) (fun K hK => q_at (v := .agg #[.string t, .int .i64 (o : Int), .int .i64 e]) (fun W hW => ?_) (hK _ ?_))
    · obtain ⟨c0, c1, c2⟩ := EInv.cells hW
      go_simp
    simp only [Act.put, List.setIfInBounds_toArray, List.set_cons_zero, List.set_cons_succ]
    refine BigFrame.wpQuiet_want (by rfl) (fun K hK => q_call (f := 32) (args := #[.agg #[.string t, .int .i64 (o : Int), .int .i64 e]]) (v := .agg #[.string t, .int .i64 (o : Int), .int .i64 (endE t o e)]) (fun W => ?_) (fun W hW => hW.rend) (hK _ ?_))
    · go_simp
    simp only [Act.put, List.setIfInBounds_toArray, List.set_cons_zero, List.set_cons_succ]
    refine BigFrame.wpQuiet_want (by rfl) (fun K hK => q_pure (v := .int .i64 (endE t o e)) (fun W => ?_) (hK _ ?_))
    · have hfi := field2 (.string t) (.int .i64 (o : Int)) (.int .i64 (endE t o e)) W
      go_simp
    simp only [Act.put, List.setIfInBounds_toArray, List.set_cons_zero, List.set_cons_succ]
    refine BigFrame.wpQuiet_want (by rfl) (fun K hK => q_pure (v := .bool true) (fun W => ?_) (hK _ ?_))
    · go_simp
    simp only [Act.put, List.setIfInBounds_toArray, List.set_cons_zero, List.set_cons_succ]
    refine BigFrame.wpQuiet_want (by rfl) (fun K hK => q_pure (v := .bool true) (fun W => ?_) (hK _ ?_))
    · go_simp
    simp only [Act.put, List.setIfInBounds_toArray, List.set_cons_zero, List.set_cons_succ]
    go_big_quiet_step (fail)
    refine wpQuiet_nil ?_
    intro w' hw'
    go_wp2
    go_ret
    exact ⟨rfl, hw'.hb⟩
end Go.Proofs.Ytmijbflgfbfbiaa
