/- The law EncTakes, called: of any text the call returns true, and nothing that was there has changed. -/
import Derived.Test.YtmijbflgfbfbiaaTexts
import Derived.WalkKit
import Derived.WalkSpells
import Derived.WalkLawsBesides
import Derived.Deep.QuietTactic
import Derived.BigQuiet
import Derived.Lib.Strings
namespace Go.Proofs.Ytmijbflgfbfbiaa
open Go.RowKit
theorem q_pure {P : Program} {o : Oper} {a : Act} {C : World → Prop} {K : Act → Prop} {v : Value} (hrun : ∀ W, (execOp a.eval o).run P W = .ok (.value v) W) (hk : K (a.put o.dst v)) : o.quiet P a C K :=
  ⟨v, fun W _ => by unfold Oper.quietAt; rw [hrun W]; exact ⟨rfl, rfl⟩, hk⟩
theorem q_call {P : Program} {o : Oper} {a : Act} {C : World → Prop} {K : Act → Prop} {v : Value} {f : FuncId} {args : Array Value} (hrun : ∀ W, (execOp a.eval o).run P W = .ok (.enter f args) W)
    (hc : ∀ W, C W → Calls P f args W fun e w' => e = .returned v ∧ C w') (hk : K (a.put o.dst v)) : o.quiet P a C K :=
  ⟨v, fun W hW => by unfold Oper.quietAt; rw [hrun W]; exact ⟨rfl, hc W hW⟩, hk⟩
theorem q_at {P : Program} {o : Oper} {a : Act} {C : World → Prop} {K : Act → Prop} {v : Value} (hrun : ∀ W, C W → (execOp a.eval o).run P W = .ok (.value v) W) (hk : K (a.put o.dst v)) : o.quiet P a C K :=
  ⟨v, fun W hW => by unfold Oper.quietAt; rw [hrun W hW]; exact ⟨rfl, rfl⟩, hk⟩
structure TInv (w W : World) (b d : Nat) (t : ByteArray) (o e : Int) : Prop where
  hb : Below w.heap.size w W
  hc : Cur W b t o e
  hd : W.heap[d]? = some (.cells #[.string t, .int .i64 o, .int .i64 e] 36 (0, 0))
theorem TInv.later {w W W' : World} {b d : Nat} {t : ByteArray} {o e : Int} (H : TInv w W b d t o e) (h : Below W.heap.size W W') : TInv w W' b d t o e :=
  ⟨H.hb.trans (h.mono H.hb.size), H.hc.later h, (h.block d (lt_of_row H.hd)).trans H.hd⟩
theorem TInv.drewN {w W : World} {b d : Nat} {t : ByteArray} {o e : Int} (H : TInv w W b d t o e) (n : Nat) : TInv w (W.drewN n) b d t o e := ⟨below_drewN H.hb n, H.hc, H.hd⟩
theorem TInv.d1 {w W : World} {b d : Nat} {t : ByteArray} {o e : Int} (H : TInv w W b d t o e) : W.cell? ⟨d, 1, none⟩ = some (.int .i64 o) := cell_of_row W _ 1 _ _ _ H.hd
theorem TInv.d2 {w W : World} {b d : Nat} {t : ByteArray} {o e : Int} (H : TInv w W b d t o e) : W.cell? ⟨d, 2, none⟩ = some (.int .i64 e) := cell_of_row W _ 2 _ _ _ H.hd
theorem TInv.err {w W : World} {b d : Nat} {t : ByteArray} {o e : Int} (H : TInv w W b d t o e) : Calls Try.prog 20 #[.pointer (some ⟨b, 0, none⟩)] W fun r w' => r = .returned (.int .i64 e) ∧ TInv w w' b d t o e :=
  (err_at H.hc).mono fun r w' h => by obtain ⟨h1, h2⟩ := h; subst h2; exact ⟨h1, H⟩
theorem TInv.off {w W : World} {b d : Nat} {t : ByteArray} {o e : Int} (H : TInv w W b d t o e) : Calls Try.prog 21 #[.pointer (some ⟨b, 0, none⟩)] W fun r w' => r = .returned (.int .i64 o) ∧ TInv w w' b d t o e :=
  (off_at H.hc).mono fun r w' h => by obtain ⟨h1, h2⟩ := h; subst h2; exact ⟨h1, H⟩
theorem TInv.awake {w W : World} {b d : Nat} {t : ByteArray} {o e : Int} (H : TInv w W b d t o e) : Calls Try.prog 11 #[] W fun r w' => r = .returned (.bool true) ∧ TInv w w' b d t o e :=
  (awake_any W).mono fun _ _ h => ⟨h.1, H.later h.2⟩
set_option maxHeartbeats 2000000 in
theorem takes_bad (s t : ByteArray) (n : Nat) (o e : Int) (he : e ≠ 0) (ho : o = 0)
    (hfe : ∀ W : World, Calls Try.prog 18 #[.string s] W fun r w' => r = .returned (.string t) ∧ w' = W)
    (hui : ∀ (W : World) (g : Nat), Cur W g t ((0 : Nat) : Int) 0 → Calls Try.prog 13 #[.pointer (some ⟨g, 0, none⟩)] W fun r w' => r = .returned (.int .u64 (n : Int)) ∧ Cur w' g t o e ∧ Only g W w')
    (hru : ∀ W : World, Calls Try.prog 19 #[.agg #[.string t, .int .i64 0, .int .i64 0]] W fun r w' => r = .returned (.tuple #[.agg #[.string t, .int .i64 o, .int .i64 e], .int .u64 (n : Int)]) ∧ Below W.heap.size W w') (w : World) :
    Calls Try.prog 5 #[.string s] w fun r w' => r = .returned (.bool true) ∧ Below w.heap.size w w' := by
  subst ho
  have he' : (e == 0) = false := beq_eq_false_iff_ne.mpr he
  go_enter Try.func5, Try.ntmps5
  go_wp2_with fail
  refine (hfe _).mono ?_
  rintro e0 w1 ⟨rfl, rfl⟩
  go_wp2_with fail
  refine (at_any _ _).mono ?_
  rintro e0 w2 ⟨rfl, rfl⟩
  have hc2 := cur_new w1 t
  have g2 := (Below.refl w1.heap.size w1).alloc (Nat.le_refl _) (.cells #[.string t, .int .i64 0, .int .i64 0] 61)
  obtain ⟨b, hbb⟩ : ∃ b, w1.heap.size = b := ⟨_, rfl⟩
  have HB : Hid (w1.heap.size = b) := hbb
  rw [hbb] at hc2 ⊢
  clear hbb
  obtain ⟨w3, hw3⟩ : ∃ w3, w1.alloc (.cells #[.string t, .int .i64 0, .int .i64 0] 61) = w3 := ⟨_, rfl⟩
  rw [hw3] at hc2 g2 ⊢
  clear hw3
  go_wp2_with fail
  refine (hui _ _ hc2).mono ?_
  rintro e0 w4 ⟨rfl, hk4, ho4⟩
  have g4 := g2.trans (ho4.below (by rw [HB.out]; exact Nat.le_refl _) g2.size)
  go_wp2_with fail
  refine (hru _).mono ?_
  rintro e0 w5 ⟨rfl, hb5⟩
  have inv0 : TInv w1 (w5.alloc (.cells #[.string t, .int .i64 0, .int .i64 e] 36)) b w5.heap.size t 0 e := by
    have hk5 := hk4.later hb5
    have g5 := g4.trans (hb5.mono g4.size)
    exact ⟨g5.alloc g5.size _, hk5.later ((Below.refl _ _).alloc (Nat.le_refl _) _), heap_alloc_new _ _⟩
  clear hb5 hk4 ho4 g4 g2 hc2 hui hru hfe
  obtain ⟨d, hdd⟩ : ∃ d, w5.heap.size = d := ⟨_, rfl⟩
  rw [hdd] at inv0
  go_wp2_with fail
  clear hdd
  refine wp_region_quiet (C := fun W => TInv w1 W b d t 0 e) (by kernel_rfl) (by kernel_rfl) (inv0.drewN 1) ?_
  refine BigFrame.wpQuiet_want (by rfl) (fun K hK => q_call (f := 11) (args := #[]) (v := .bool true) (fun W => ?_) (fun W hW => hW.awake) (hK _ ?_))
  · go_simp
  simp only [Act.put, List.setIfInBounds_toArray, List.set_cons_zero, List.set_cons_succ]
  go_big_quiet_step (fail)
  go_big_quiet_step (fail)
  go_big_quiet_step (fail)
  refine BigFrame.wpQuiet_want (by rfl) (fun K hK => q_pure (v := .bool true) (fun W => ?_) (hK _ ?_))
  · go_simp
  simp only [Act.put, List.setIfInBounds_toArray, List.set_cons_zero, List.set_cons_succ]
  refine BigFrame.wpQuiet_want (by rfl) (fun K hK => q_pure (v := .bool true) (fun W => ?_) (hK _ ?_))
  · go_simp
  simp only [Act.put, List.setIfInBounds_toArray, List.set_cons_zero, List.set_cons_succ]
  go_big_quiet_step (fail)
  go_big_quiet_step (fail)
  refine BigFrame.wpQuiet_want (by rfl) (fun K hK => q_call (f := 20) (args := #[.pointer (some ⟨b, 0, none⟩)]) (v := .int .i64 e) (fun W => ?_) (fun W hW => hW.err) (hK _ ?_))
  · go_simp
  simp only [Act.put, List.setIfInBounds_toArray, List.set_cons_zero, List.set_cons_succ]
  refine BigFrame.wpQuiet_want (by rfl) (fun K hK => q_pure (v := .pointer (some ⟨d, 2, none⟩)) (fun W => ?_) (hK _ ?_))
  · go_simp
  simp only [Act.put, List.setIfInBounds_toArray, List.set_cons_zero, List.set_cons_succ]
  refine BigFrame.wpQuiet_want (by rfl) (fun K hK => q_at (v := .int .i64 e) (fun W hW => ?_) (hK _ ?_))
  · have hc := TInv.d2 hW
    go_simp
  simp only [Act.put, List.setIfInBounds_toArray, List.set_cons_zero, List.set_cons_succ]
  refine BigFrame.wpQuiet_want (by rfl) (fun K hK => q_pure (v := .bool true) (fun W => ?_) (hK _ ?_))
  · go_simp
  simp only [Act.put, List.setIfInBounds_toArray, List.set_cons_zero, List.set_cons_succ]
  refine BigFrame.wpQuiet_want (by rfl) (fun K hK => q_pure (v := .bool true) (fun W => ?_) (hK _ ?_))
  · go_simp
  simp only [Act.put, List.setIfInBounds_toArray, List.set_cons_zero, List.set_cons_succ]
  go_big_quiet_step (fail)
  go_big_quiet_step (fail)
  refine BigFrame.wpQuiet_want (by rfl) (fun K hK => q_call (f := 21) (args := #[.pointer (some ⟨b, 0, none⟩)]) (v := .int .i64 0) (fun W => ?_) (fun W hW => hW.off) (hK _ ?_))
  · go_simp
  simp only [Act.put, List.setIfInBounds_toArray, List.set_cons_zero, List.set_cons_succ]
  refine BigFrame.wpQuiet_want (by rfl) (fun K hK => q_pure (v := .pointer (some ⟨d, 1, none⟩)) (fun W => ?_) (hK _ ?_))
  · go_simp
  simp only [Act.put, List.setIfInBounds_toArray, List.set_cons_zero, List.set_cons_succ]
  refine BigFrame.wpQuiet_want (by rfl) (fun K hK => q_at (v := .int .i64 0) (fun W hW => ?_) (hK _ ?_))
  · have hc := TInv.d1 hW
    go_simp
  simp only [Act.put, List.setIfInBounds_toArray, List.set_cons_zero, List.set_cons_succ]
  refine BigFrame.wpQuiet_want (by rfl) (fun K hK => q_pure (v := .bool true) (fun W => ?_) (hK _ ?_))
  · go_simp
  simp only [Act.put, List.setIfInBounds_toArray, List.set_cons_zero, List.set_cons_succ]
  refine BigFrame.wpQuiet_want (by rfl) (fun K hK => q_pure (v := .bool true) (fun W => ?_) (hK _ ?_))
  · go_simp
  simp only [Act.put, List.setIfInBounds_toArray, List.set_cons_zero, List.set_cons_succ]
  go_big_quiet_step (fail)
  refine BigFrame.wpQuiet_want (by rfl) (fun K hK => q_pure (v := .pointer (some ⟨d, 2, none⟩)) (fun W => ?_) (hK _ ?_))
  · go_simp
  simp only [Act.put, List.setIfInBounds_toArray, List.set_cons_zero, List.set_cons_succ]
  refine BigFrame.wpQuiet_want (by rfl) (fun K hK => q_at (v := .int .i64 e) (fun W hW => ?_) (hK _ ?_))
  · have hc := TInv.d2 hW
    go_simp
  simp only [Act.put, List.setIfInBounds_toArray, List.set_cons_zero, List.set_cons_succ]
  refine BigFrame.wpQuiet_want (by rfl) (fun K hK => q_pure (v := .bool true) (fun W => ?_) (hK _ ?_))
  · go_simp
  simp only [Act.put, List.setIfInBounds_toArray, List.set_cons_zero, List.set_cons_succ]
  go_big_quiet_step (fail)
  refine BigFrame.wpQuiet_want (by rfl) (fun K hK => q_pure (v := .pointer (some ⟨d, 1, none⟩)) (fun W => ?_) (hK _ ?_))
  · go_simp
  simp only [Act.put, List.setIfInBounds_toArray, List.set_cons_zero, List.set_cons_succ]
  refine BigFrame.wpQuiet_want (by rfl) (fun K hK => q_at (v := .int .i64 0) (fun W hW => ?_) (hK _ ?_))
  · have hc := TInv.d1 hW
    go_simp
  simp only [Act.put, List.setIfInBounds_toArray, List.set_cons_zero, List.set_cons_succ]
  refine BigFrame.wpQuiet_want (by rfl) (fun K hK => q_pure (v := .bool true) (fun W => ?_) (hK _ ?_))
  · go_simp
  simp only [Act.put, List.setIfInBounds_toArray, List.set_cons_zero, List.set_cons_succ]
  refine BigFrame.wpQuiet_want (by rfl) (fun K hK => q_pure (v := .bool true) (fun W => ?_) (hK _ ?_))
  · go_simp
  simp only [Act.put, List.setIfInBounds_toArray, List.set_cons_zero, List.set_cons_succ]
  go_big_quiet_step (fail)
  go_big_quiet_step (fail)
  go_big_quiet_step (fail)
  go_big_quiet_step (fail)
  go_big_quiet_step (fail)
  go_big_quiet_step (fail)
  go_big_quiet_step (fail)
  go_big_quiet_step (fail)
  go_big_quiet_step (fail)
  go_big_quiet_step (fail)
  go_big_quiet_step (fail)
  go_big_quiet_step (fail)
  go_big_quiet_step (fail)
  refine BigFrame.wpQuiet_want (by rfl) (fun K hK => q_pure (v := .bool true) (fun W => ?_) (hK _ ?_))
  · go_simp
  simp only [Act.put, List.setIfInBounds_toArray, List.set_cons_zero, List.set_cons_succ]
  refine BigFrame.wpQuiet_want (by rfl) (fun K hK => q_pure (v := .bool true) (fun W => ?_) (hK _ ?_))
  · go_simp
  simp only [Act.put, List.setIfInBounds_toArray, List.set_cons_zero, List.set_cons_succ]
  go_big_quiet_step (fail)
  refine wpQuiet_nil ?_
  intro w' hw'
  go_wp2
  go_ret
  exact ⟨rfl, hw'.hb⟩
set_option maxHeartbeats 2000000 in
theorem takes_ok (s t : ByteArray) (n : Nat) (o : Nat) (x : ByteArray) (ho : o ≤ t.size) (hx : t.extract 0 o = x) (hpu : ∀ W : World, Calls Try.prog 10 #[.int .u64 (n : Int)] W fun r w' => r = .returned (.string x) ∧ Below W.heap.size W w')
    (hfe : ∀ W : World, Calls Try.prog 18 #[.string s] W fun r w' => r = .returned (.string t) ∧ w' = W)
    (hui : ∀ (W : World) (g : Nat), Cur W g t ((0 : Nat) : Int) 0 → Calls Try.prog 13 #[.pointer (some ⟨g, 0, none⟩)] W fun r w' => r = .returned (.int .u64 (n : Int)) ∧ Cur w' g t (o : Int) 0 ∧ Only g W w')
    (hru : ∀ W : World, Calls Try.prog 19 #[.agg #[.string t, .int .i64 0, .int .i64 0]] W fun r w' => r = .returned (.tuple #[.agg #[.string t, .int .i64 (o : Int), .int .i64 0], .int .u64 (n : Int)]) ∧ Below W.heap.size W w') (w : World) :
    Calls Try.prog 5 #[.string s] w fun r w' => r = .returned (.bool true) ∧ Below w.heap.size w w' := by
  have ho' : (o : Int) ≤ (t.size : Int) := by omega
  have ho0 : (0 : Int) ≤ (o : Int) := by omega
  go_enter Try.func5, Try.ntmps5
  go_wp2_with fail
  refine (hfe _).mono ?_
  rintro e0 w1 ⟨rfl, rfl⟩
  go_wp2_with fail
  refine (at_any _ _).mono ?_
  rintro e0 w2 ⟨rfl, rfl⟩
  have hc2 := cur_new w1 t
  have g2 := (Below.refl w1.heap.size w1).alloc (Nat.le_refl _) (.cells #[.string t, .int .i64 0, .int .i64 0] 61)
  obtain ⟨b, hbb⟩ : ∃ b, w1.heap.size = b := ⟨_, rfl⟩
  have HB : Hid (w1.heap.size = b) := hbb
  rw [hbb] at hc2 ⊢
  clear hbb
  obtain ⟨w3, hw3⟩ : ∃ w3, w1.alloc (.cells #[.string t, .int .i64 0, .int .i64 0] 61) = w3 := ⟨_, rfl⟩
  rw [hw3] at hc2 g2 ⊢
  clear hw3
  go_wp2_with fail
  refine (hui _ _ hc2).mono ?_
  rintro e0 w4 ⟨rfl, hk4, ho4⟩
  have g4 := g2.trans (ho4.below (by rw [HB.out]; exact Nat.le_refl _) g2.size)
  go_wp2_with fail
  refine (hru _).mono ?_
  rintro e0 w5 ⟨rfl, hb5⟩
  have inv0 : TInv w1 (w5.alloc (.cells #[.string t, .int .i64 (o : Int), .int .i64 0] 36)) b w5.heap.size t (o : Int) 0 := by
    have hk5 := hk4.later hb5
    have g5 := g4.trans (hb5.mono g4.size)
    exact ⟨g5.alloc g5.size _, hk5.later ((Below.refl _ _).alloc (Nat.le_refl _) _), heap_alloc_new _ _⟩
  clear hb5 hk4 ho4 g4 g2 hc2 hui hru hfe
  obtain ⟨d, hdd⟩ : ∃ d, w5.heap.size = d := ⟨_, rfl⟩
  rw [hdd] at inv0
  go_wp2_with fail
  clear hdd
  refine wp_region_quiet (C := fun W => TInv w1 W b d t (o : Int) 0) (by kernel_rfl) (by kernel_rfl) (inv0.drewN 1) ?_
  refine BigFrame.wpQuiet_want (by rfl) (fun K hK => q_call (f := 11) (args := #[]) (v := .bool true) (fun W => ?_) (fun W hW => hW.awake) (hK _ ?_))
  · go_simp
  simp only [Act.put, List.setIfInBounds_toArray, List.set_cons_zero, List.set_cons_succ]
  go_big_quiet_step (fail)
  go_big_quiet_step (fail)
  go_big_quiet_step (fail)
  refine BigFrame.wpQuiet_want (by rfl) (fun K hK => q_pure (v := .bool true) (fun W => ?_) (hK _ ?_))
  · go_simp
  simp only [Act.put, List.setIfInBounds_toArray, List.set_cons_zero, List.set_cons_succ]
  refine BigFrame.wpQuiet_want (by rfl) (fun K hK => q_pure (v := .bool true) (fun W => ?_) (hK _ ?_))
  · go_simp
  simp only [Act.put, List.setIfInBounds_toArray, List.set_cons_zero, List.set_cons_succ]
  go_big_quiet_step (fail)
  go_big_quiet_step (fail)
  refine BigFrame.wpQuiet_want (by rfl) (fun K hK => q_call (f := 20) (args := #[.pointer (some ⟨b, 0, none⟩)]) (v := .int .i64 0) (fun W => ?_) (fun W hW => hW.err) (hK _ ?_))
  · go_simp
  simp only [Act.put, List.setIfInBounds_toArray, List.set_cons_zero, List.set_cons_succ]
  refine BigFrame.wpQuiet_want (by rfl) (fun K hK => q_pure (v := .pointer (some ⟨d, 2, none⟩)) (fun W => ?_) (hK _ ?_))
  · go_simp
  simp only [Act.put, List.setIfInBounds_toArray, List.set_cons_zero, List.set_cons_succ]
  refine BigFrame.wpQuiet_want (by rfl) (fun K hK => q_at (v := .int .i64 0) (fun W hW => ?_) (hK _ ?_))
  · have hc := TInv.d2 hW
    go_simp
  simp only [Act.put, List.setIfInBounds_toArray, List.set_cons_zero, List.set_cons_succ]
  refine BigFrame.wpQuiet_want (by rfl) (fun K hK => q_pure (v := .bool true) (fun W => ?_) (hK _ ?_))
  · go_simp
  simp only [Act.put, List.setIfInBounds_toArray, List.set_cons_zero, List.set_cons_succ]
  refine BigFrame.wpQuiet_want (by rfl) (fun K hK => q_pure (v := .bool true) (fun W => ?_) (hK _ ?_))
  · go_simp
  simp only [Act.put, List.setIfInBounds_toArray, List.set_cons_zero, List.set_cons_succ]
  go_big_quiet_step (fail)
  go_big_quiet_step (fail)
  refine BigFrame.wpQuiet_want (by rfl) (fun K hK => q_call (f := 21) (args := #[.pointer (some ⟨b, 0, none⟩)]) (v := .int .i64 (o : Int)) (fun W => ?_) (fun W hW => hW.off) (hK _ ?_))
  · go_simp
  simp only [Act.put, List.setIfInBounds_toArray, List.set_cons_zero, List.set_cons_succ]
  refine BigFrame.wpQuiet_want (by rfl) (fun K hK => q_pure (v := .pointer (some ⟨d, 1, none⟩)) (fun W => ?_) (hK _ ?_))
  · go_simp
  simp only [Act.put, List.setIfInBounds_toArray, List.set_cons_zero, List.set_cons_succ]
  refine BigFrame.wpQuiet_want (by rfl) (fun K hK => q_at (v := .int .i64 (o : Int)) (fun W hW => ?_) (hK _ ?_))
  · have hc := TInv.d1 hW
    go_simp
  simp only [Act.put, List.setIfInBounds_toArray, List.set_cons_zero, List.set_cons_succ]
  refine BigFrame.wpQuiet_want (by rfl) (fun K hK => q_pure (v := .bool true) (fun W => ?_) (hK _ ?_))
  · go_simp
  simp only [Act.put, List.setIfInBounds_toArray, List.set_cons_zero, List.set_cons_succ]
  refine BigFrame.wpQuiet_want (by rfl) (fun K hK => q_pure (v := .bool true) (fun W => ?_) (hK _ ?_))
  · go_simp
  simp only [Act.put, List.setIfInBounds_toArray, List.set_cons_zero, List.set_cons_succ]
  go_big_quiet_step (fail)
  refine BigFrame.wpQuiet_want (by rfl) (fun K hK => q_pure (v := .pointer (some ⟨d, 2, none⟩)) (fun W => ?_) (hK _ ?_))
  · go_simp
  simp only [Act.put, List.setIfInBounds_toArray, List.set_cons_zero, List.set_cons_succ]
  refine BigFrame.wpQuiet_want (by rfl) (fun K hK => q_at (v := .int .i64 0) (fun W hW => ?_) (hK _ ?_))
  · have hc := TInv.d2 hW
    go_simp
  simp only [Act.put, List.setIfInBounds_toArray, List.set_cons_zero, List.set_cons_succ]
  refine BigFrame.wpQuiet_want (by rfl) (fun K hK => q_pure (v := .bool false) (fun W => ?_) (hK _ ?_))
  · go_simp
  simp only [Act.put, List.setIfInBounds_toArray, List.set_cons_zero, List.set_cons_succ]
  go_big_quiet_step (fail)
  go_big_quiet_step (fail)
  go_big_quiet_step (fail)
  go_big_quiet_step (fail)
  refine BigFrame.wpQuiet_want (by rfl) (fun K hK => q_pure (v := .bool false) (fun W => ?_) (hK _ ?_))
  · go_simp
  simp only [Act.put, List.setIfInBounds_toArray, List.set_cons_zero, List.set_cons_succ]
  go_big_quiet_step (fail)
  refine BigFrame.wpQuiet_want (by rfl) (fun K hK => q_pure (v := .pointer (some ⟨d, 2, none⟩)) (fun W => ?_) (hK _ ?_))
  · go_simp
  simp only [Act.put, List.setIfInBounds_toArray, List.set_cons_zero, List.set_cons_succ]
  refine BigFrame.wpQuiet_want (by rfl) (fun K hK => q_at (v := .int .i64 0) (fun W hW => ?_) (hK _ ?_))
  · have hc := TInv.d2 hW
    go_simp
  simp only [Act.put, List.setIfInBounds_toArray, List.set_cons_zero, List.set_cons_succ]
  refine BigFrame.wpQuiet_want (by rfl) (fun K hK => q_pure (v := .bool true) (fun W => ?_) (hK _ ?_))
  · go_simp
  simp only [Act.put, List.setIfInBounds_toArray, List.set_cons_zero, List.set_cons_succ]
  go_big_quiet_step (fail)
  go_big_quiet_step (fail)
  refine BigFrame.wpQuiet_want (by rfl) (fun K hK => q_call (f := 10) (args := #[.int .u64 (n : Int)]) (v := .string x) (fun W => ?_) (fun W hW => (hpu W).mono fun _ _ h => ⟨h.1, hW.later h.2⟩) (hK _ ?_))
  · go_simp
  simp only [Act.put, List.setIfInBounds_toArray, List.set_cons_zero, List.set_cons_succ]
  go_big_quiet_step (fail)
  refine BigFrame.wpQuiet_want (by rfl) (fun K hK => q_pure (v := .pointer (some ⟨d, 1, none⟩)) (fun W => ?_) (hK _ ?_))
  · go_simp
  simp only [Act.put, List.setIfInBounds_toArray, List.set_cons_zero, List.set_cons_succ]
  refine BigFrame.wpQuiet_want (by rfl) (fun K hK => q_at (v := .int .i64 (o : Int)) (fun W hW => ?_) (hK _ ?_))
  · have hc := TInv.d1 hW
    go_simp
  simp only [Act.put, List.setIfInBounds_toArray, List.set_cons_zero, List.set_cons_succ]
  refine BigFrame.wpQuiet_want (by rfl) (fun K hK => q_pure (v := .string x) (fun W => ?_) (hK _ ?_))
  · go_simp
  simp only [Act.put, List.setIfInBounds_toArray, List.set_cons_zero, List.set_cons_succ]
  refine BigFrame.wpQuiet_want (by rfl) (fun K hK => q_pure (v := .bool true) (fun W => ?_) (hK _ ?_))
  · go_simp
  simp only [Act.put, List.setIfInBounds_toArray, List.set_cons_zero, List.set_cons_succ]
  refine BigFrame.wpQuiet_want (by rfl) (fun K hK => q_pure (v := .bool true) (fun W => ?_) (hK _ ?_))
  · go_simp
  simp only [Act.put, List.setIfInBounds_toArray, List.set_cons_zero, List.set_cons_succ]
  refine BigFrame.wpQuiet_want (by rfl) (fun K hK => q_pure (v := .bool true) (fun W => ?_) (hK _ ?_))
  · go_simp
  simp only [Act.put, List.setIfInBounds_toArray, List.set_cons_zero, List.set_cons_succ]
  refine BigFrame.wpQuiet_want (by rfl) (fun K hK => q_pure (v := .bool true) (fun W => ?_) (hK _ ?_))
  · go_simp
  simp only [Act.put, List.setIfInBounds_toArray, List.set_cons_zero, List.set_cons_succ]
  go_big_quiet_step (fail)
  refine wpQuiet_nil ?_
  intro w' hw'
  go_wp2
  go_ret
  exact ⟨rfl, hw'.hb⟩
end Go.Proofs.Ytmijbflgfbfbiaa
