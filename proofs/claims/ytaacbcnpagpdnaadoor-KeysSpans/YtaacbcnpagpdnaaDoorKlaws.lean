/- KeysSpans, called: what is in a span, in two, in none; of any spans and keys. -/
import Derived.Test.YtaacbcnpagpdnaaDoorKspan
import Derived.Test.YtaacbcnpagpdnaaDoorKawake
import Derived.Deep.QuietTactic
import Derived.BigQuiet
import Derived.Deep.DrawnRows
namespace Go.Proofs.YtaacbcnpagpdnaaDoor
open Go.RowKit
theorem q_pure {P : Program} {o : Oper} {a : Act} {C : World → Prop} {K : Act → Prop} {v : Value} (hrun : ∀ W, (execOp a.eval o).run P W = .ok (.value v) W) (hk : K (a.put o.dst v)) : o.quiet P a C K :=
  ⟨v, fun W _ => by unfold Oper.quietAt; rw [hrun W]; exact ⟨rfl, rfl⟩, hk⟩
theorem q_call {P : Program} {o : Oper} {a : Act} {C : World → Prop} {K : Act → Prop} {v : Value} {f : FuncId} {args : Array Value} (hrun : ∀ W, (execOp a.eval o).run P W = .ok (.enter f args) W)
    (hc : ∀ W, C W → Calls P f args W fun e w' => e = .returned v ∧ C w') (hk : K (a.put o.dst v)) : o.quiet P a C K :=
  ⟨v, fun W hW => by unfold Oper.quietAt; rw [hrun W]; exact ⟨rfl, hc W hW⟩, hk⟩
theorem q_at {P : Program} {o : Oper} {a : Act} {C : World → Prop} {K : Act → Prop} {v : Value} (hrun : ∀ W, C W → (execOp a.eval o).run P W = .ok (.value v) W) (hk : K (a.put o.dst v)) : o.quiet P a C K :=
  ⟨v, fun W hW => by unfold Oper.quietAt; rw [hrun W hW]; exact ⟨rfl, rfl⟩, hk⟩
structure SInv (w W : World) (z : Nat) (a0 a1 b0 b1 key m0 m1 : ByteArray) : Prop where
  ra : W.heap[w.heap.size]? = some (.cells #[.string a0, .string a1] 45 (0, 0))
  rb : W.heap[w.heap.size + 1]? = some (.cells #[.string b0, .string b1] 45 (0, 0))
  rk : W.heap[w.heap.size + 1 + 1]? = some (.cells #[.string key] 9 (0, 0))
  rm : W.heap[z]? = some (.cells #[.string m0, .string m1] 45 (0, 0))
  hb : Below w.heap.size w W
theorem SInv.later {w W W' : World} {z : Nat} {a0 a1 b0 b1 key m0 m1 : ByteArray} (H : SInv w W z a0 a1 b0 b1 key m0 m1) (h : Below W.heap.size W W') : SInv w W' z a0 a1 b0 b1 key m0 m1 := by
  have hl := lt_of_row H.ra
  exact ⟨(h.block _ (lt_of_row H.ra)).trans H.ra, (h.block _ (lt_of_row H.rb)).trans H.rb, (h.block _ (lt_of_row H.rk)).trans H.rk, (h.block _ (lt_of_row H.rm)).trans H.rm, H.hb.trans (h.mono (by omega))⟩
theorem SInv.drewN {w W : World} {z : Nat} {a0 a1 b0 b1 key m0 m1 : ByteArray} (H : SInv w W z a0 a1 b0 b1 key m0 m1) (n : Nat) : SInv w (W.drewN n) z a0 a1 b0 b1 key m0 m1 := ⟨H.ra, H.rb, H.rk, H.rm, below_drewN H.hb n⟩
theorem SInv.key {w W : World} {z : Nat} {a0 a1 b0 b1 k m0 m1 : ByteArray} (H : SInv w W z a0 a1 b0 b1 k m0 m1) : W.cell? ⟨w.heap.size + 1 + 1, 0, none⟩ = some (.string k) := cell_of_row W _ 0 _ _ _ H.rk
theorem less_of {a b : ByteArray} : Op.bytesLess a.toList b.toList = lt8 a.data.toList b.data.toList := by rw [Lib.toList_data, Lib.toList_data]; rfl
theorem meet_has (a0 a1 b0 b1 key : ByteArray) : hasB (maxS a0 b0) (lowerB a1 b1) key = (hasB a0 a1 key && hasB b0 b1 key) := by
  have key1 : (!Op.bytesLess key.toList (maxS a0 b0).toList) = (!Op.bytesLess key.toList a0.toList && !Op.bytesLess key.toList b0.toList) := by
    unfold maxS
    rw [less_of, less_of, less_of, less_of]
    cases h : lt8 a0.data.toList b0.data.toList with
    | false =>
      rw [if_pos (by rfl)]
      cases k : lt8 key.data.toList a0.data.toList with
      | true => rfl
      | false =>
        cases j : lt8 key.data.toList b0.data.toList with
        | false => rfl
        | true =>
          exfalso
          rcases lt8_total a0.data.toList b0.data.toList with q | q | q
          · rw [h] at q; cases q
          · rw [q, j] at k; cases k
          · rw [lt8_trans j q] at k; cases k
    | true =>
      rw [if_neg (by decide)]
      cases j : lt8 key.data.toList b0.data.toList with
      | true => simp
      | false =>
        cases k : lt8 key.data.toList a0.data.toList with
        | false => rfl
        | true => rw [lt8_trans k h] at j; cases j
  have key2 : ((lowerB a1 b1).toList.isEmpty || Op.bytesLess key.toList (lowerB a1 b1).toList) = ((a1.toList.isEmpty || Op.bytesLess key.toList a1.toList) && (b1.toList.isEmpty || Op.bytesLess key.toList b1.toList)) := by
    unfold lowerB
    cases ha : a1.toList.isEmpty with
    | true =>
      have e : a1 ++ b1 = b1 := by
        rw [Lib.toList_data] at ha
        refine ByteArray.ext (Array.ext' ?_)
        rw [ByteArray.data_append, Array.toList_append, List.isEmpty_iff.1 ha, List.nil_append]
      simp [e]
    | false =>
      cases hb : b1.toList.isEmpty with
      | true =>
        have e : a1 ++ b1 = a1 := by
          rw [Lib.toList_data] at hb
          refine ByteArray.ext (Array.ext' ?_)
          rw [ByteArray.data_append, Array.toList_append, List.isEmpty_iff.1 hb, List.append_nil]
        simp [e, ha]
      | false =>
        rw [if_neg (by decide), less_of, less_of]
        cases h : lt8 a1.data.toList b1.data.toList with
        | true =>
          rw [if_pos (by simp), ha, less_of]
          cases k : lt8 key.data.toList a1.data.toList with
          | false => rfl
          | true => rw [less_of, lt8_trans k h]; rfl
        | false =>
          by_cases q : a1.toList = b1.toList
          · rw [if_pos (by simp [q]), ha]
            have q' : a1.data.toList = b1.data.toList := by rw [← Lib.toList_data, ← Lib.toList_data]; exact q
            rw [less_of, less_of, q']
            cases lt8 key.data.toList b1.data.toList <;> rfl
          · rw [if_neg (by simp [q]), hb]
            have q' : ¬ a1.data.toList = b1.data.toList := by rw [← Lib.toList_data, ← Lib.toList_data]; exact q
            have q2 : lt8 b1.data.toList a1.data.toList = true := by
              rcases lt8_total a1.data.toList b1.data.toList with r | r | r
              · rw [h] at r; cases r
              · exact absurd r q'
              · exact r
            rw [less_of, less_of]
            cases k : lt8 key.data.toList b1.data.toList with
            | false => simp
            | true => rw [lt8_trans k q2]; rfl
  unfold hasB
  rw [key1, key2]
  cases Op.bytesLess key.toList a0.toList <;> cases Op.bytesLess key.toList b0.toList <;> simp
theorem all_has (key : ByteArray) : hasB ⟨#[]⟩ ⟨#[]⟩ key = true := by
  refine hasB_open ?_ ?_
  · rw [less_of]; exact lt8_nil_r _
  · rw [Lib.toList_data]; rfl
theorem empty_eq (lo hi : ByteArray) : emptyB lo hi = (!hi.toList.isEmpty && (Op.bytesLess hi.toList lo.toList || hi.toList == lo.toList)) := by
  unfold emptyB hasB
  rw [less_of, lt8_irrefl, less_of, less_of]
  cases hh : hi.toList.isEmpty with
  | true => rfl
  | false =>
    have e : (hi.toList == lo.toList) = decide (hi.data.toList = lo.data.toList) := by rw [Lib.toList_data, Lib.toList_data]; exact Bool.eq_iff_iff.2 (by simp)
    rw [e]
    rcases lt8_total lo.data.toList hi.data.toList with q | q | q
    · rw [q, lt8_asymm q, decide_eq_false (fun h => lt8_ne q h.symm)]; rfl
    · rw [q, lt8_irrefl]; simp
    · rw [q, lt8_asymm q]; rfl
theorem empty_out {lo hi key : ByteArray} (h : emptyB lo hi = true) : hasB lo hi key = false := by
  rw [empty_eq] at h
  simp only [Bool.and_eq_true, Bool.not_eq_true', Bool.or_eq_true, beq_iff_eq] at h
  obtain ⟨h1, h2⟩ := h
  cases k : Op.bytesLess key.toList lo.toList with
  | true => exact hasB_no k
  | false =>
    rw [hasB_end k h1]
    rw [less_of] at k ⊢
    cases j : lt8 key.data.toList hi.data.toList with
    | false => rfl
    | true =>
      exfalso
      rcases h2 with h2 | h2
      · rw [less_of] at h2; rw [lt8_trans j h2] at k; cases k
      · rw [Lib.toList_data, Lib.toList_data] at h2; rw [h2, k] at j; cases j
theorem low_has {lo hi : ByteArray} (h : emptyB lo hi = false) : hasB lo hi lo = true := by
  unfold emptyB at h
  simpa using h
set_option maxRecDepth 100000 in
set_option maxHeartbeats 8000000 in
theorem law_spans_ef (a0 a1 b0 b1 key : ByteArray) (w : World) (ha : a1.size ≤ maxLen) (hb : b1.size ≤ maxLen) (hia : hasB a0 a1 key = false) (hem : emptyB a0 a1 = true) : Calls Tryd.prog 6 #[.agg #[.string a0, .string a1], .agg #[.string b0, .string b1], .string key] w fun e w' => e = .returned (.bool true) ∧ Below w.heap.size w w' := by
  have cHa := fun W => has_any a0 a1 key W
  have cIa := fun W h => in_any a0 a1 key (w.heap.size + 1 + 1) W h
  have cIb := fun W h => in_any b0 b1 key (w.heap.size + 1 + 1) W h
  have cHm := fun W => has_any (maxS a0 b0) (lowerB a1 b1) key W
  have cEm := fun W => empty_any a0 a1 W
  have cAl := fun W => has_any ⟨#[]⟩ ⟨#[]⟩ key W
  have cLo := fun W => has_any a0 a1 a0 W
  rw [meet_has] at cHm
  rw [all_has] at cAl
  rw [hia] at cHa cIa cHm
  simp only [Bool.false_and] at cHm
  rw [hem] at cEm
  have cMe := fun W => meet_any a0 a1 b0 b1 W ha hb
  obtain ⟨m0, hm0⟩ : ∃ m0, maxS a0 b0 = m0 := ⟨_, rfl⟩
  obtain ⟨m1, hm1⟩ : ∃ m1, lowerB a1 b1 = m1 := ⟨_, rfl⟩
  rw [hm0, hm1] at cHm cMe
  have HEM : Hid (emptyB a0 a1 = true) := hem
  clear hm0 hm1 hia hem
  have hr0 := fresh_row w #[.string a0, .string a1] 45
  have hr1 := fresh_row (w.alloc (.cells #[.string a0, .string a1] 45)) #[.string b0, .string b1] 45
  have hr2 := fresh_row ((w.alloc (.cells #[.string a0, .string a1] 45)).alloc (.cells #[.string b0, .string b1] 45)) #[.string key] 9
  have hbw : Below w.heap.size w (((w.alloc (.cells #[.string a0, .string a1] 45)).alloc (.cells #[.string b0, .string b1] 45)).alloc (.cells #[.string key] 9)) := (((Below.refl _ w).alloc (Nat.le_refl _) _).alloc (by simp) _).alloc (by simp; omega) _
  replace hr0 := ((Below.heap_alloc (w.alloc (.cells #[.string a0, .string a1] 45)) (.cells #[.string b0, .string b1] 45) w.heap.size (by simp)).trans hr0)
  replace hr0 := ((Below.heap_alloc ((w.alloc (.cells #[.string a0, .string a1] 45)).alloc (.cells #[.string b0, .string b1] 45)) (.cells #[.string key] 9) w.heap.size (by simp; omega)).trans hr0)
  replace hr1 := ((Below.heap_alloc ((w.alloc (.cells #[.string a0, .string a1] 45)).alloc (.cells #[.string b0, .string b1] 45)) (.cells #[.string key] 9) _ (by simp)).trans hr1)
  obtain ⟨W, hW⟩ : ∃ W, (((w.alloc (.cells #[.string a0, .string a1] 45)).alloc (.cells #[.string b0, .string b1] 45)).alloc (.cells #[.string key] 9)) = W := ⟨_, rfl⟩
  have hs1 : (w.alloc (.cells #[.string a0, .string a1] 45)).heap.size = w.heap.size + 1 := by simp
  have hs2 : ((w.alloc (.cells #[.string a0, .string a1] 45)).alloc (.cells #[.string b0, .string b1] 45)).heap.size = w.heap.size + 1 + 1 := by simp
  rw [hs1] at hr1
  rw [hs2] at hr2
  rw [hW] at hr0 hr1 hr2 hbw
  clear hs1 hs2
  have c0 := cell_of_row W _ 0 _ _ _ hr0
  have c1 := cell_of_row W _ 1 _ _ _ hr0
  have d0 := cell_of_row W _ 0 _ _ _ hr1
  have d1 := cell_of_row W _ 1 _ _ _ hr1
  go_enter Tryd.func6, Tryd.ntmps6
  go_wp2_with fail
  clear hW
  refine (cMe _).mono ?_
  rintro e w1 ⟨rfl, hb1⟩
  clear c0 c1 d0 d1
  have hinv : SInv w (w1.alloc (.cells #[.string m0, .string m1] 45)) w1.heap.size a0 a1 b0 b1 key m0 m1 := by
    have hl0 := lt_of_row hr0
    have hz := hb1.size
    have ha1 := fun k (hk : k < w1.heap.size) => Below.heap_alloc w1 (.cells #[.string m0, .string m1] 45) k hk
    exact ⟨(ha1 _ (by have := lt_of_row hr0; omega)).trans ((hb1.block _ (lt_of_row hr0)).trans hr0), (ha1 _ (by have := lt_of_row hr1; omega)).trans ((hb1.block _ (lt_of_row hr1)).trans hr1), (ha1 _ (by have := lt_of_row hr2; omega)).trans ((hb1.block _ (lt_of_row hr2)).trans hr2), fresh_row w1 _ _, (hbw.trans (hb1.mono (by omega))).alloc (by omega) _⟩
  clear hr0 hr1 hr2 hbw hb1
  go_wp2_with fail
  obtain ⟨z, hz⟩ : ∃ z, w1.heap.size = z := ⟨_, rfl⟩
  obtain ⟨W8, hW8⟩ : ∃ W8, w1.alloc (.cells #[.string m0, .string m1] 45) = W8 := ⟨_, rfl⟩
  rw [hz, hW8] at hinv
  try rw [hz]
  try rw [hW8]
  clear hz hW8
  refine wp_region_quiet (C := fun W => SInv w W z a0 a1 b0 b1 key m0 m1) (by kernel_rfl) (by kernel_rfl) (hinv.drewN 1) ?_
  refine BigFrame.wpQuiet_want (by rfl) (fun K hK => q_call (f := 10) (args := #[]) (v := .bool true) (fun W => ?_) (fun W hW => (awake_any W).mono fun e w' ⟨he, hb⟩ => ⟨he, hW.later hb⟩) (hK _ ?_))
  · go_simp
  clear hK K
  simp only [Act.put, List.setIfInBounds_toArray, List.set_cons_zero, List.set_cons_succ]
  refine BigFrame.wpQuiet_want (by rfl) (fun K hK => q_pure (v := .bool false) (fun W => ?_) (hK _ ?_))
  · go_simp
  clear hK K
  simp only [Act.put, List.setIfInBounds_toArray, List.set_cons_zero, List.set_cons_succ]
  go_big_quiet_step (fail)
  refine BigFrame.wpQuiet_want (by rfl) (fun K hK => q_at (v := .agg #[.string a0, .string a1]) (fun W hW => ?_) (hK _ ?_))
  · have c0 := cell_of_row W _ 0 _ _ _ hW.ra
    have c1 := cell_of_row W _ 1 _ _ _ hW.ra
    go_simp
  clear hK K
  simp only [Act.put, List.setIfInBounds_toArray, List.set_cons_zero, List.set_cons_succ]
  refine BigFrame.wpQuiet_want (by rfl) (fun K hK => q_at (v := .string key) (fun W hW => ?_) (hK _ ?_))
  · have c0 := cell_of_row W _ 0 _ _ _ hW.rk
    go_simp
  clear hK K
  simp only [Act.put, List.setIfInBounds_toArray, List.set_cons_zero, List.set_cons_succ]
  refine BigFrame.wpQuiet_want (by rfl) (fun K hK => q_call (f := 22) (args := #[.agg #[.string a0, .string a1], .string key]) (v := .bool false) (fun W => ?_) (fun W hW => (cHa W).mono fun e w' ⟨he, hb⟩ => ⟨he, hW.later hb⟩) (hK _ ?_))
  · go_simp
  clear hK K
  simp only [Act.put, List.setIfInBounds_toArray, List.set_cons_zero, List.set_cons_succ]
  go_big_quiet_step (fail)
  refine BigFrame.wpQuiet_want (by rfl) (fun K hK => q_at (v := .agg #[.string a0, .string a1]) (fun W hW => ?_) (hK _ ?_))
  · have c0 := cell_of_row W _ 0 _ _ _ hW.ra
    have c1 := cell_of_row W _ 1 _ _ _ hW.ra
    go_simp
  clear hK K
  simp only [Act.put, List.setIfInBounds_toArray, List.set_cons_zero, List.set_cons_succ]
  refine BigFrame.wpQuiet_want (by rfl) (fun K hK => q_call (f := 20) (args := #[.agg #[.string a0, .string a1], .pointer (some ⟨w.heap.size + 1 + 1, 0, none⟩)]) (v := .bool false) (fun W => ?_) (fun W hW => (cIa W hW.key).mono fun e w' ⟨he, hb⟩ => ⟨he, hW.later hb⟩) (hK _ ?_))
  · go_simp
  clear hK K
  simp only [Act.put, List.setIfInBounds_toArray, List.set_cons_zero, List.set_cons_succ]
  refine BigFrame.wpQuiet_want (by rfl) (fun K hK => q_pure (v := .bool false) (fun W => ?_) (hK _ ?_))
  · go_simp
  clear hK K
  simp only [Act.put, List.setIfInBounds_toArray, List.set_cons_zero, List.set_cons_succ]
  refine BigFrame.wpQuiet_want (by rfl) (fun K hK => q_pure (v := .bool false) (fun W => ?_) (hK _ ?_))
  · go_simp
  clear hK K
  simp only [Act.put, List.setIfInBounds_toArray, List.set_cons_zero, List.set_cons_succ]
  go_big_quiet_step (fail)
  refine BigFrame.wpQuiet_want (by rfl) (fun K hK => q_at (v := .agg #[.string m0, .string m1]) (fun W hW => ?_) (hK _ ?_))
  · have c0 := cell_of_row W _ 0 _ _ _ hW.rm
    have c1 := cell_of_row W _ 1 _ _ _ hW.rm
    go_simp
  clear hK K
  simp only [Act.put, List.setIfInBounds_toArray, List.set_cons_zero, List.set_cons_succ]
  refine BigFrame.wpQuiet_want (by rfl) (fun K hK => q_at (v := .string key) (fun W hW => ?_) (hK _ ?_))
  · have c0 := cell_of_row W _ 0 _ _ _ hW.rk
    go_simp
  clear hK K
  simp only [Act.put, List.setIfInBounds_toArray, List.set_cons_zero, List.set_cons_succ]
  refine BigFrame.wpQuiet_want (by rfl) (fun K hK => q_call (f := 22) (args := #[.agg #[.string m0, .string m1], .string key]) (v := .bool false) (fun W => ?_) (fun W hW => (cHm W).mono fun e w' ⟨he, hb⟩ => ⟨he, hW.later hb⟩) (hK _ ?_))
  · go_simp
  clear hK K
  simp only [Act.put, List.setIfInBounds_toArray, List.set_cons_zero, List.set_cons_succ]
  go_big_quiet_step (fail)
  refine BigFrame.wpQuiet_want (by rfl) (fun K hK => q_at (v := .agg #[.string a0, .string a1]) (fun W hW => ?_) (hK _ ?_))
  · have c0 := cell_of_row W _ 0 _ _ _ hW.ra
    have c1 := cell_of_row W _ 1 _ _ _ hW.ra
    go_simp
  clear hK K
  simp only [Act.put, List.setIfInBounds_toArray, List.set_cons_zero, List.set_cons_succ]
  refine BigFrame.wpQuiet_want (by rfl) (fun K hK => q_call (f := 20) (args := #[.agg #[.string a0, .string a1], .pointer (some ⟨w.heap.size + 1 + 1, 0, none⟩)]) (v := .bool false) (fun W => ?_) (fun W hW => (cIa W hW.key).mono fun e w' ⟨he, hb⟩ => ⟨he, hW.later hb⟩) (hK _ ?_))
  · go_simp
  clear hK K
  simp only [Act.put, List.setIfInBounds_toArray, List.set_cons_zero, List.set_cons_succ]
  go_big_quiet_step (fail)
  go_big_quiet_step (fail)
  go_big_quiet_step (fail)
  go_big_quiet_step (fail)
  refine BigFrame.wpQuiet_want (by rfl) (fun K hK => q_pure (v := .bool false) (fun W => ?_) (hK _ ?_))
  · go_simp
  clear hK K
  simp only [Act.put, List.setIfInBounds_toArray, List.set_cons_zero, List.set_cons_succ]
  refine BigFrame.wpQuiet_want (by rfl) (fun K hK => q_pure (v := .bool false) (fun W => ?_) (hK _ ?_))
  · go_simp
  clear hK K
  simp only [Act.put, List.setIfInBounds_toArray, List.set_cons_zero, List.set_cons_succ]
  refine BigFrame.wpQuiet_want (by rfl) (fun K hK => q_pure (v := .bool false) (fun W => ?_) (hK _ ?_))
  · go_simp
  clear hK K
  simp only [Act.put, List.setIfInBounds_toArray, List.set_cons_zero, List.set_cons_succ]
  go_big_quiet_step (fail)
  refine BigFrame.wpQuiet_want (by rfl) (fun K hK => q_at (v := .agg #[.string a0, .string a1]) (fun W hW => ?_) (hK _ ?_))
  · have c0 := cell_of_row W _ 0 _ _ _ hW.ra
    have c1 := cell_of_row W _ 1 _ _ _ hW.ra
    go_simp
  clear hK K
  simp only [Act.put, List.setIfInBounds_toArray, List.set_cons_zero, List.set_cons_succ]
  refine BigFrame.wpQuiet_want (by rfl) (fun K hK => q_call (f := 23) (args := #[.agg #[.string a0, .string a1]]) (v := .bool true) (fun W => ?_) (fun W hW => (cEm W).mono fun e w' ⟨he, hb⟩ => ⟨he, hW.later hb⟩) (hK _ ?_))
  · go_simp
  clear hK K
  simp only [Act.put, List.setIfInBounds_toArray, List.set_cons_zero, List.set_cons_succ]
  go_big_quiet_step (fail)
  go_big_quiet_step (fail)
  refine BigFrame.wpQuiet_want (by rfl) (fun K hK => q_at (v := .agg #[.string a0, .string a1]) (fun W hW => ?_) (hK _ ?_))
  · have c0 := cell_of_row W _ 0 _ _ _ hW.ra
    have c1 := cell_of_row W _ 1 _ _ _ hW.ra
    go_simp
  clear hK K
  simp only [Act.put, List.setIfInBounds_toArray, List.set_cons_zero, List.set_cons_succ]
  refine BigFrame.wpQuiet_want (by rfl) (fun K hK => q_call (f := 20) (args := #[.agg #[.string a0, .string a1], .pointer (some ⟨w.heap.size + 1 + 1, 0, none⟩)]) (v := .bool false) (fun W => ?_) (fun W hW => (cIa W hW.key).mono fun e w' ⟨he, hb⟩ => ⟨he, hW.later hb⟩) (hK _ ?_))
  · go_simp
  clear hK K
  simp only [Act.put, List.setIfInBounds_toArray, List.set_cons_zero, List.set_cons_succ]
  refine BigFrame.wpQuiet_want (by rfl) (fun K hK => q_pure (v := .bool false) (fun W => ?_) (hK _ ?_))
  · go_simp
  clear hK K
  simp only [Act.put, List.setIfInBounds_toArray, List.set_cons_zero, List.set_cons_succ]
  refine BigFrame.wpQuiet_want (by rfl) (fun K hK => q_pure (v := .bool false) (fun W => ?_) (hK _ ?_))
  · go_simp
  clear hK K
  simp only [Act.put, List.setIfInBounds_toArray, List.set_cons_zero, List.set_cons_succ]
  go_big_quiet_step (fail)
  refine BigFrame.wpQuiet_want (by rfl) (fun K hK => q_call (f := 24) (args := #[]) (v := .agg #[.string ⟨#[]⟩, .string ⟨#[]⟩]) (fun W => ?_) (fun W hW => (all_any W).mono fun e w' ⟨he, hb⟩ => ⟨he, hW.later hb⟩) (hK _ ?_))
  · go_simp
  clear hK K
  simp only [Act.put, List.setIfInBounds_toArray, List.set_cons_zero, List.set_cons_succ]
  refine BigFrame.wpQuiet_want (by rfl) (fun K hK => q_at (v := .string key) (fun W hW => ?_) (hK _ ?_))
  · have c0 := cell_of_row W _ 0 _ _ _ hW.rk
    go_simp
  clear hK K
  simp only [Act.put, List.setIfInBounds_toArray, List.set_cons_zero, List.set_cons_succ]
  refine BigFrame.wpQuiet_want (by rfl) (fun K hK => q_call (f := 22) (args := #[.agg #[.string ⟨#[]⟩, .string ⟨#[]⟩], .string key]) (v := .bool true) (fun W => ?_) (fun W hW => (cAl W).mono fun e w' ⟨he, hb⟩ => ⟨he, hW.later hb⟩) (hK _ ?_))
  · go_simp
  clear hK K
  simp only [Act.put, List.setIfInBounds_toArray, List.set_cons_zero, List.set_cons_succ]
  refine BigFrame.wpQuiet_want (by rfl) (fun K hK => q_pure (v := .bool false) (fun W => ?_) (hK _ ?_))
  · go_simp
  clear hK K
  simp only [Act.put, List.setIfInBounds_toArray, List.set_cons_zero, List.set_cons_succ]
  refine BigFrame.wpQuiet_want (by rfl) (fun K hK => q_pure (v := .bool false) (fun W => ?_) (hK _ ?_))
  · go_simp
  clear hK K
  simp only [Act.put, List.setIfInBounds_toArray, List.set_cons_zero, List.set_cons_succ]
  refine wpQuiet_nil ?_
  intro w3 hw3
  go_wp2_with fail
  have h5 := HEM.out
  rw [empty_eq] at h5
  simp only [Bool.and_eq_true, Bool.not_eq_true'] at h5
  obtain ⟨he1, hlq⟩ := h5
  refine wp_region_quiet (C := fun W => SInv w W z a0 a1 b0 b1 key m0 m1) (by kernel_rfl) (by kernel_rfl) (hw3.drewN 1) ?_
  refine BigFrame.wpQuiet_want (by rfl) (fun K hK => q_at (v := .agg #[.string a0, .string a1]) (fun W hW => ?_) (hK _ ?_))
  · have c0 := cell_of_row W _ 0 _ _ _ hW.ra
    have c1 := cell_of_row W _ 1 _ _ _ hW.ra
    go_simp
  clear hK K
  simp only [Act.put, List.setIfInBounds_toArray, List.set_cons_zero, List.set_cons_succ]
  refine BigFrame.wpQuiet_want (by rfl) (fun K hK => q_call (f := 23) (args := #[.agg #[.string a0, .string a1]]) (v := .bool true) (fun W => ?_) (fun W hW => (cEm W).mono fun e w' ⟨he, hb⟩ => ⟨he, hW.later hb⟩) (hK _ ?_))
  · go_simp
  clear hK K
  simp only [Act.put, List.setIfInBounds_toArray, List.set_cons_zero, List.set_cons_succ]
  refine BigFrame.wpQuiet_want (by rfl) (fun K hK => q_pure (v := .pointer (some ⟨w.heap.size, 1, none⟩)) (fun W => ?_) (hK _ ?_))
  · go_simp
  clear hK K
  simp only [Act.put, List.setIfInBounds_toArray, List.set_cons_zero, List.set_cons_succ]
  refine BigFrame.wpQuiet_want (by rfl) (fun K hK => q_at (v := .string a1) (fun W hW => ?_) (hK _ ?_))
  · have c1 := cell_of_row W _ 1 _ _ _ hW.ra
    go_simp
  clear hK K
  simp only [Act.put, List.setIfInBounds_toArray, List.set_cons_zero, List.set_cons_succ]
  refine BigFrame.wpQuiet_want (by rfl) (fun K hK => q_pure (v := .bool true) (fun W => ?_) (hK _ ?_))
  · go_simp
  clear hK K
  simp only [Act.put, List.setIfInBounds_toArray, List.set_cons_zero, List.set_cons_succ]
  go_big_quiet_step (fail)
  refine BigFrame.wpQuiet_want (by rfl) (fun K hK => q_pure (v := .pointer (some ⟨w.heap.size, 1, none⟩)) (fun W => ?_) (hK _ ?_))
  · go_simp
  clear hK K
  simp only [Act.put, List.setIfInBounds_toArray, List.set_cons_zero, List.set_cons_succ]
  refine BigFrame.wpQuiet_want (by rfl) (fun K hK => q_at (v := .string a1) (fun W hW => ?_) (hK _ ?_))
  · have c1 := cell_of_row W _ 1 _ _ _ hW.ra
    go_simp
  clear hK K
  simp only [Act.put, List.setIfInBounds_toArray, List.set_cons_zero, List.set_cons_succ]
  refine BigFrame.wpQuiet_want (by rfl) (fun K hK => q_pure (v := .pointer (some ⟨w.heap.size, 0, none⟩)) (fun W => ?_) (hK _ ?_))
  · go_simp
  clear hK K
  simp only [Act.put, List.setIfInBounds_toArray, List.set_cons_zero, List.set_cons_succ]
  refine BigFrame.wpQuiet_want (by rfl) (fun K hK => q_at (v := .string a0) (fun W hW => ?_) (hK _ ?_))
  · have c0 := cell_of_row W _ 0 _ _ _ hW.ra
    go_simp
  clear hK K
  simp only [Act.put, List.setIfInBounds_toArray, List.set_cons_zero, List.set_cons_succ]
  refine BigFrame.wpQuiet_want (by rfl) (fun K hK => q_pure (v := .bool true) (fun W => ?_) (hK _ ?_))
  · go_simp
  clear hK K
  simp only [Act.put, List.setIfInBounds_toArray, List.set_cons_zero, List.set_cons_succ]
  refine BigFrame.wpQuiet_want (by rfl) (fun K hK => q_pure (v := .bool true) (fun W => ?_) (hK _ ?_))
  · go_simp
  clear hK K
  simp only [Act.put, List.setIfInBounds_toArray, List.set_cons_zero, List.set_cons_succ]
  refine BigFrame.wpQuiet_want (by rfl) (fun K hK => q_pure (v := .bool true) (fun W => ?_) (hK _ ?_))
  · go_simp
  clear hK K
  simp only [Act.put, List.setIfInBounds_toArray, List.set_cons_zero, List.set_cons_succ]
  go_big_quiet_step (fail)
  refine BigFrame.wpQuiet_want (by rfl) (fun K hK => q_at (v := .agg #[.string a0, .string a1]) (fun W hW => ?_) (hK _ ?_))
  · have c0 := cell_of_row W _ 0 _ _ _ hW.ra
    have c1 := cell_of_row W _ 1 _ _ _ hW.ra
    go_simp
  clear hK K
  simp only [Act.put, List.setIfInBounds_toArray, List.set_cons_zero, List.set_cons_succ]
  refine BigFrame.wpQuiet_want (by rfl) (fun K hK => q_call (f := 23) (args := #[.agg #[.string a0, .string a1]]) (v := .bool true) (fun W => ?_) (fun W hW => (cEm W).mono fun e w' ⟨he, hb⟩ => ⟨he, hW.later hb⟩) (hK _ ?_))
  · go_simp
  clear hK K
  simp only [Act.put, List.setIfInBounds_toArray, List.set_cons_zero, List.set_cons_succ]
  go_big_quiet_step (fail)
  go_big_quiet_step (fail)
  go_big_quiet_step (fail)
  go_big_quiet_step (fail)
  go_big_quiet_step (fail)
  refine BigFrame.wpQuiet_want (by rfl) (fun K hK => q_pure (v := .bool true) (fun W => ?_) (hK _ ?_))
  · go_simp
  clear hK K
  simp only [Act.put, List.setIfInBounds_toArray, List.set_cons_zero, List.set_cons_succ]
  refine BigFrame.wpQuiet_want (by rfl) (fun K hK => q_pure (v := .bool true) (fun W => ?_) (hK _ ?_))
  · go_simp
  clear hK K
  simp only [Act.put, List.setIfInBounds_toArray, List.set_cons_zero, List.set_cons_succ]
  go_big_quiet_step (fail)
  refine wpQuiet_nil ?_
  intro w5 hw5
  go_wp2
  go_ret
  exact ⟨rfl, hw5.hb⟩
set_option maxRecDepth 100000 in
set_option maxHeartbeats 8000000 in
theorem law_spans_ff (a0 a1 b0 b1 key : ByteArray) (w : World) (ha : a1.size ≤ maxLen) (hb : b1.size ≤ maxLen) (hia : hasB a0 a1 key = false) (hem : emptyB a0 a1 = false) : Calls Tryd.prog 6 #[.agg #[.string a0, .string a1], .agg #[.string b0, .string b1], .string key] w fun e w' => e = .returned (.bool true) ∧ Below w.heap.size w w' := by
  have cHa := fun W => has_any a0 a1 key W
  have cIa := fun W h => in_any a0 a1 key (w.heap.size + 1 + 1) W h
  have cIb := fun W h => in_any b0 b1 key (w.heap.size + 1 + 1) W h
  have cHm := fun W => has_any (maxS a0 b0) (lowerB a1 b1) key W
  have cEm := fun W => empty_any a0 a1 W
  have cAl := fun W => has_any ⟨#[]⟩ ⟨#[]⟩ key W
  have cLo := fun W => has_any a0 a1 a0 W
  rw [meet_has] at cHm
  rw [all_has] at cAl
  rw [hia] at cHa cIa cHm
  simp only [Bool.false_and] at cHm
  rw [hem] at cEm
  rw [low_has hem] at cLo
  have cMe := fun W => meet_any a0 a1 b0 b1 W ha hb
  obtain ⟨m0, hm0⟩ : ∃ m0, maxS a0 b0 = m0 := ⟨_, rfl⟩
  obtain ⟨m1, hm1⟩ : ∃ m1, lowerB a1 b1 = m1 := ⟨_, rfl⟩
  rw [hm0, hm1] at cHm cMe
  have HEM : Hid (emptyB a0 a1 = false) := hem
  clear hm0 hm1 hia hem
  have hr0 := fresh_row w #[.string a0, .string a1] 45
  have hr1 := fresh_row (w.alloc (.cells #[.string a0, .string a1] 45)) #[.string b0, .string b1] 45
  have hr2 := fresh_row ((w.alloc (.cells #[.string a0, .string a1] 45)).alloc (.cells #[.string b0, .string b1] 45)) #[.string key] 9
  have hbw : Below w.heap.size w (((w.alloc (.cells #[.string a0, .string a1] 45)).alloc (.cells #[.string b0, .string b1] 45)).alloc (.cells #[.string key] 9)) := (((Below.refl _ w).alloc (Nat.le_refl _) _).alloc (by simp) _).alloc (by simp; omega) _
  replace hr0 := ((Below.heap_alloc (w.alloc (.cells #[.string a0, .string a1] 45)) (.cells #[.string b0, .string b1] 45) w.heap.size (by simp)).trans hr0)
  replace hr0 := ((Below.heap_alloc ((w.alloc (.cells #[.string a0, .string a1] 45)).alloc (.cells #[.string b0, .string b1] 45)) (.cells #[.string key] 9) w.heap.size (by simp; omega)).trans hr0)
  replace hr1 := ((Below.heap_alloc ((w.alloc (.cells #[.string a0, .string a1] 45)).alloc (.cells #[.string b0, .string b1] 45)) (.cells #[.string key] 9) _ (by simp)).trans hr1)
  obtain ⟨W, hW⟩ : ∃ W, (((w.alloc (.cells #[.string a0, .string a1] 45)).alloc (.cells #[.string b0, .string b1] 45)).alloc (.cells #[.string key] 9)) = W := ⟨_, rfl⟩
  have hs1 : (w.alloc (.cells #[.string a0, .string a1] 45)).heap.size = w.heap.size + 1 := by simp
  have hs2 : ((w.alloc (.cells #[.string a0, .string a1] 45)).alloc (.cells #[.string b0, .string b1] 45)).heap.size = w.heap.size + 1 + 1 := by simp
  rw [hs1] at hr1
  rw [hs2] at hr2
  rw [hW] at hr0 hr1 hr2 hbw
  clear hs1 hs2
  have c0 := cell_of_row W _ 0 _ _ _ hr0
  have c1 := cell_of_row W _ 1 _ _ _ hr0
  have d0 := cell_of_row W _ 0 _ _ _ hr1
  have d1 := cell_of_row W _ 1 _ _ _ hr1
  go_enter Tryd.func6, Tryd.ntmps6
  go_wp2_with fail
  clear hW
  refine (cMe _).mono ?_
  rintro e w1 ⟨rfl, hb1⟩
  clear c0 c1 d0 d1
  have hinv : SInv w (w1.alloc (.cells #[.string m0, .string m1] 45)) w1.heap.size a0 a1 b0 b1 key m0 m1 := by
    have hl0 := lt_of_row hr0
    have hz := hb1.size
    have ha1 := fun k (hk : k < w1.heap.size) => Below.heap_alloc w1 (.cells #[.string m0, .string m1] 45) k hk
    exact ⟨(ha1 _ (by have := lt_of_row hr0; omega)).trans ((hb1.block _ (lt_of_row hr0)).trans hr0), (ha1 _ (by have := lt_of_row hr1; omega)).trans ((hb1.block _ (lt_of_row hr1)).trans hr1), (ha1 _ (by have := lt_of_row hr2; omega)).trans ((hb1.block _ (lt_of_row hr2)).trans hr2), fresh_row w1 _ _, (hbw.trans (hb1.mono (by omega))).alloc (by omega) _⟩
  clear hr0 hr1 hr2 hbw hb1
  go_wp2_with fail
  obtain ⟨z, hz⟩ : ∃ z, w1.heap.size = z := ⟨_, rfl⟩
  obtain ⟨W8, hW8⟩ : ∃ W8, w1.alloc (.cells #[.string m0, .string m1] 45) = W8 := ⟨_, rfl⟩
  rw [hz, hW8] at hinv
  try rw [hz]
  try rw [hW8]
  clear hz hW8
  refine wp_region_quiet (C := fun W => SInv w W z a0 a1 b0 b1 key m0 m1) (by kernel_rfl) (by kernel_rfl) (hinv.drewN 1) ?_
  refine BigFrame.wpQuiet_want (by rfl) (fun K hK => q_call (f := 10) (args := #[]) (v := .bool true) (fun W => ?_) (fun W hW => (awake_any W).mono fun e w' ⟨he, hb⟩ => ⟨he, hW.later hb⟩) (hK _ ?_))
  · go_simp
  clear hK K
  simp only [Act.put, List.setIfInBounds_toArray, List.set_cons_zero, List.set_cons_succ]
  refine BigFrame.wpQuiet_want (by rfl) (fun K hK => q_pure (v := .bool false) (fun W => ?_) (hK _ ?_))
  · go_simp
  clear hK K
  simp only [Act.put, List.setIfInBounds_toArray, List.set_cons_zero, List.set_cons_succ]
  go_big_quiet_step (fail)
  refine BigFrame.wpQuiet_want (by rfl) (fun K hK => q_at (v := .agg #[.string a0, .string a1]) (fun W hW => ?_) (hK _ ?_))
  · have c0 := cell_of_row W _ 0 _ _ _ hW.ra
    have c1 := cell_of_row W _ 1 _ _ _ hW.ra
    go_simp
  clear hK K
  simp only [Act.put, List.setIfInBounds_toArray, List.set_cons_zero, List.set_cons_succ]
  refine BigFrame.wpQuiet_want (by rfl) (fun K hK => q_at (v := .string key) (fun W hW => ?_) (hK _ ?_))
  · have c0 := cell_of_row W _ 0 _ _ _ hW.rk
    go_simp
  clear hK K
  simp only [Act.put, List.setIfInBounds_toArray, List.set_cons_zero, List.set_cons_succ]
  refine BigFrame.wpQuiet_want (by rfl) (fun K hK => q_call (f := 22) (args := #[.agg #[.string a0, .string a1], .string key]) (v := .bool false) (fun W => ?_) (fun W hW => (cHa W).mono fun e w' ⟨he, hb⟩ => ⟨he, hW.later hb⟩) (hK _ ?_))
  · go_simp
  clear hK K
  simp only [Act.put, List.setIfInBounds_toArray, List.set_cons_zero, List.set_cons_succ]
  go_big_quiet_step (fail)
  refine BigFrame.wpQuiet_want (by rfl) (fun K hK => q_at (v := .agg #[.string a0, .string a1]) (fun W hW => ?_) (hK _ ?_))
  · have c0 := cell_of_row W _ 0 _ _ _ hW.ra
    have c1 := cell_of_row W _ 1 _ _ _ hW.ra
    go_simp
  clear hK K
  simp only [Act.put, List.setIfInBounds_toArray, List.set_cons_zero, List.set_cons_succ]
  refine BigFrame.wpQuiet_want (by rfl) (fun K hK => q_call (f := 20) (args := #[.agg #[.string a0, .string a1], .pointer (some ⟨w.heap.size + 1 + 1, 0, none⟩)]) (v := .bool false) (fun W => ?_) (fun W hW => (cIa W hW.key).mono fun e w' ⟨he, hb⟩ => ⟨he, hW.later hb⟩) (hK _ ?_))
  · go_simp
  clear hK K
  simp only [Act.put, List.setIfInBounds_toArray, List.set_cons_zero, List.set_cons_succ]
  refine BigFrame.wpQuiet_want (by rfl) (fun K hK => q_pure (v := .bool false) (fun W => ?_) (hK _ ?_))
  · go_simp
  clear hK K
  simp only [Act.put, List.setIfInBounds_toArray, List.set_cons_zero, List.set_cons_succ]
  refine BigFrame.wpQuiet_want (by rfl) (fun K hK => q_pure (v := .bool false) (fun W => ?_) (hK _ ?_))
  · go_simp
  clear hK K
  simp only [Act.put, List.setIfInBounds_toArray, List.set_cons_zero, List.set_cons_succ]
  go_big_quiet_step (fail)
  refine BigFrame.wpQuiet_want (by rfl) (fun K hK => q_at (v := .agg #[.string m0, .string m1]) (fun W hW => ?_) (hK _ ?_))
  · have c0 := cell_of_row W _ 0 _ _ _ hW.rm
    have c1 := cell_of_row W _ 1 _ _ _ hW.rm
    go_simp
  clear hK K
  simp only [Act.put, List.setIfInBounds_toArray, List.set_cons_zero, List.set_cons_succ]
  refine BigFrame.wpQuiet_want (by rfl) (fun K hK => q_at (v := .string key) (fun W hW => ?_) (hK _ ?_))
  · have c0 := cell_of_row W _ 0 _ _ _ hW.rk
    go_simp
  clear hK K
  simp only [Act.put, List.setIfInBounds_toArray, List.set_cons_zero, List.set_cons_succ]
  refine BigFrame.wpQuiet_want (by rfl) (fun K hK => q_call (f := 22) (args := #[.agg #[.string m0, .string m1], .string key]) (v := .bool false) (fun W => ?_) (fun W hW => (cHm W).mono fun e w' ⟨he, hb⟩ => ⟨he, hW.later hb⟩) (hK _ ?_))
  · go_simp
  clear hK K
  simp only [Act.put, List.setIfInBounds_toArray, List.set_cons_zero, List.set_cons_succ]
  go_big_quiet_step (fail)
  refine BigFrame.wpQuiet_want (by rfl) (fun K hK => q_at (v := .agg #[.string a0, .string a1]) (fun W hW => ?_) (hK _ ?_))
  · have c0 := cell_of_row W _ 0 _ _ _ hW.ra
    have c1 := cell_of_row W _ 1 _ _ _ hW.ra
    go_simp
  clear hK K
  simp only [Act.put, List.setIfInBounds_toArray, List.set_cons_zero, List.set_cons_succ]
  refine BigFrame.wpQuiet_want (by rfl) (fun K hK => q_call (f := 20) (args := #[.agg #[.string a0, .string a1], .pointer (some ⟨w.heap.size + 1 + 1, 0, none⟩)]) (v := .bool false) (fun W => ?_) (fun W hW => (cIa W hW.key).mono fun e w' ⟨he, hb⟩ => ⟨he, hW.later hb⟩) (hK _ ?_))
  · go_simp
  clear hK K
  simp only [Act.put, List.setIfInBounds_toArray, List.set_cons_zero, List.set_cons_succ]
  go_big_quiet_step (fail)
  go_big_quiet_step (fail)
  go_big_quiet_step (fail)
  go_big_quiet_step (fail)
  refine BigFrame.wpQuiet_want (by rfl) (fun K hK => q_pure (v := .bool false) (fun W => ?_) (hK _ ?_))
  · go_simp
  clear hK K
  simp only [Act.put, List.setIfInBounds_toArray, List.set_cons_zero, List.set_cons_succ]
  refine BigFrame.wpQuiet_want (by rfl) (fun K hK => q_pure (v := .bool false) (fun W => ?_) (hK _ ?_))
  · go_simp
  clear hK K
  simp only [Act.put, List.setIfInBounds_toArray, List.set_cons_zero, List.set_cons_succ]
  refine BigFrame.wpQuiet_want (by rfl) (fun K hK => q_pure (v := .bool false) (fun W => ?_) (hK _ ?_))
  · go_simp
  clear hK K
  simp only [Act.put, List.setIfInBounds_toArray, List.set_cons_zero, List.set_cons_succ]
  go_big_quiet_step (fail)
  refine BigFrame.wpQuiet_want (by rfl) (fun K hK => q_at (v := .agg #[.string a0, .string a1]) (fun W hW => ?_) (hK _ ?_))
  · have c0 := cell_of_row W _ 0 _ _ _ hW.ra
    have c1 := cell_of_row W _ 1 _ _ _ hW.ra
    go_simp
  clear hK K
  simp only [Act.put, List.setIfInBounds_toArray, List.set_cons_zero, List.set_cons_succ]
  refine BigFrame.wpQuiet_want (by rfl) (fun K hK => q_call (f := 23) (args := #[.agg #[.string a0, .string a1]]) (v := .bool false) (fun W => ?_) (fun W hW => (cEm W).mono fun e w' ⟨he, hb⟩ => ⟨he, hW.later hb⟩) (hK _ ?_))
  · go_simp
  clear hK K
  simp only [Act.put, List.setIfInBounds_toArray, List.set_cons_zero, List.set_cons_succ]
  go_big_quiet_step (fail)
  go_big_quiet_step (fail)
  go_big_quiet_step (fail)
  go_big_quiet_step (fail)
  refine BigFrame.wpQuiet_want (by rfl) (fun K hK => q_pure (v := .bool false) (fun W => ?_) (hK _ ?_))
  · go_simp
  clear hK K
  simp only [Act.put, List.setIfInBounds_toArray, List.set_cons_zero, List.set_cons_succ]
  refine BigFrame.wpQuiet_want (by rfl) (fun K hK => q_pure (v := .bool false) (fun W => ?_) (hK _ ?_))
  · go_simp
  clear hK K
  simp only [Act.put, List.setIfInBounds_toArray, List.set_cons_zero, List.set_cons_succ]
  go_big_quiet_step (fail)
  refine BigFrame.wpQuiet_want (by rfl) (fun K hK => q_call (f := 24) (args := #[]) (v := .agg #[.string ⟨#[]⟩, .string ⟨#[]⟩]) (fun W => ?_) (fun W hW => (all_any W).mono fun e w' ⟨he, hb⟩ => ⟨he, hW.later hb⟩) (hK _ ?_))
  · go_simp
  clear hK K
  simp only [Act.put, List.setIfInBounds_toArray, List.set_cons_zero, List.set_cons_succ]
  refine BigFrame.wpQuiet_want (by rfl) (fun K hK => q_at (v := .string key) (fun W hW => ?_) (hK _ ?_))
  · have c0 := cell_of_row W _ 0 _ _ _ hW.rk
    go_simp
  clear hK K
  simp only [Act.put, List.setIfInBounds_toArray, List.set_cons_zero, List.set_cons_succ]
  refine BigFrame.wpQuiet_want (by rfl) (fun K hK => q_call (f := 22) (args := #[.agg #[.string ⟨#[]⟩, .string ⟨#[]⟩], .string key]) (v := .bool true) (fun W => ?_) (fun W hW => (cAl W).mono fun e w' ⟨he, hb⟩ => ⟨he, hW.later hb⟩) (hK _ ?_))
  · go_simp
  clear hK K
  simp only [Act.put, List.setIfInBounds_toArray, List.set_cons_zero, List.set_cons_succ]
  refine BigFrame.wpQuiet_want (by rfl) (fun K hK => q_pure (v := .bool false) (fun W => ?_) (hK _ ?_))
  · go_simp
  clear hK K
  simp only [Act.put, List.setIfInBounds_toArray, List.set_cons_zero, List.set_cons_succ]
  refine BigFrame.wpQuiet_want (by rfl) (fun K hK => q_pure (v := .bool false) (fun W => ?_) (hK _ ?_))
  · go_simp
  clear hK K
  simp only [Act.put, List.setIfInBounds_toArray, List.set_cons_zero, List.set_cons_succ]
  refine wpQuiet_nil ?_
  intro w3 hw3
  go_wp2_with fail
  cases he1 : a1.toList.isEmpty with
  | true =>
    refine wp_region_quiet (C := fun W => SInv w W z a0 a1 b0 b1 key m0 m1) (by kernel_rfl) (by kernel_rfl) (hw3.drewN 1) ?_
    refine BigFrame.wpQuiet_want (by rfl) (fun K hK => q_at (v := .agg #[.string a0, .string a1]) (fun W hW => ?_) (hK _ ?_))
    · have c0 := cell_of_row W _ 0 _ _ _ hW.ra
      have c1 := cell_of_row W _ 1 _ _ _ hW.ra
      go_simp
    clear hK K
    simp only [Act.put, List.setIfInBounds_toArray, List.set_cons_zero, List.set_cons_succ]
    refine BigFrame.wpQuiet_want (by rfl) (fun K hK => q_call (f := 23) (args := #[.agg #[.string a0, .string a1]]) (v := .bool false) (fun W => ?_) (fun W hW => (cEm W).mono fun e w' ⟨he, hb⟩ => ⟨he, hW.later hb⟩) (hK _ ?_))
    · go_simp
    clear hK K
    simp only [Act.put, List.setIfInBounds_toArray, List.set_cons_zero, List.set_cons_succ]
    refine BigFrame.wpQuiet_want (by rfl) (fun K hK => q_pure (v := .pointer (some ⟨w.heap.size, 1, none⟩)) (fun W => ?_) (hK _ ?_))
    · go_simp
    clear hK K
    simp only [Act.put, List.setIfInBounds_toArray, List.set_cons_zero, List.set_cons_succ]
    refine BigFrame.wpQuiet_want (by rfl) (fun K hK => q_at (v := .string a1) (fun W hW => ?_) (hK _ ?_))
    · have c1 := cell_of_row W _ 1 _ _ _ hW.ra
      go_simp
    clear hK K
    simp only [Act.put, List.setIfInBounds_toArray, List.set_cons_zero, List.set_cons_succ]
    refine BigFrame.wpQuiet_want (by rfl) (fun K hK => q_pure (v := .bool false) (fun W => ?_) (hK _ ?_))
    · go_simp
    clear hK K
    simp only [Act.put, List.setIfInBounds_toArray, List.set_cons_zero, List.set_cons_succ]
    go_big_quiet_step (fail)
    go_big_quiet_step (fail)
    go_big_quiet_step (fail)
    go_big_quiet_step (fail)
    go_big_quiet_step (fail)
    go_big_quiet_step (fail)
    refine BigFrame.wpQuiet_want (by rfl) (fun K hK => q_pure (v := .bool false) (fun W => ?_) (hK _ ?_))
    · go_simp
    clear hK K
    simp only [Act.put, List.setIfInBounds_toArray, List.set_cons_zero, List.set_cons_succ]
    refine BigFrame.wpQuiet_want (by rfl) (fun K hK => q_pure (v := .bool true) (fun W => ?_) (hK _ ?_))
    · go_simp
    clear hK K
    simp only [Act.put, List.setIfInBounds_toArray, List.set_cons_zero, List.set_cons_succ]
    go_big_quiet_step (fail)
    refine BigFrame.wpQuiet_want (by rfl) (fun K hK => q_at (v := .agg #[.string a0, .string a1]) (fun W hW => ?_) (hK _ ?_))
    · have c0 := cell_of_row W _ 0 _ _ _ hW.ra
      have c1 := cell_of_row W _ 1 _ _ _ hW.ra
      go_simp
    clear hK K
    simp only [Act.put, List.setIfInBounds_toArray, List.set_cons_zero, List.set_cons_succ]
    refine BigFrame.wpQuiet_want (by rfl) (fun K hK => q_call (f := 23) (args := #[.agg #[.string a0, .string a1]]) (v := .bool false) (fun W => ?_) (fun W hW => (cEm W).mono fun e w' ⟨he, hb⟩ => ⟨he, hW.later hb⟩) (hK _ ?_))
    · go_simp
    clear hK K
    simp only [Act.put, List.setIfInBounds_toArray, List.set_cons_zero, List.set_cons_succ]
    go_big_quiet_step (fail)
    refine BigFrame.wpQuiet_want (by rfl) (fun K hK => q_at (v := .agg #[.string a0, .string a1]) (fun W hW => ?_) (hK _ ?_))
    · have c0 := cell_of_row W _ 0 _ _ _ hW.ra
      have c1 := cell_of_row W _ 1 _ _ _ hW.ra
      go_simp
    clear hK K
    simp only [Act.put, List.setIfInBounds_toArray, List.set_cons_zero, List.set_cons_succ]
    refine BigFrame.wpQuiet_want (by rfl) (fun K hK => q_pure (v := .pointer (some ⟨w.heap.size, 0, none⟩)) (fun W => ?_) (hK _ ?_))
    · go_simp
    clear hK K
    simp only [Act.put, List.setIfInBounds_toArray, List.set_cons_zero, List.set_cons_succ]
    refine BigFrame.wpQuiet_want (by rfl) (fun K hK => q_at (v := .string a0) (fun W hW => ?_) (hK _ ?_))
    · have c0 := cell_of_row W _ 0 _ _ _ hW.ra
      go_simp
    clear hK K
    simp only [Act.put, List.setIfInBounds_toArray, List.set_cons_zero, List.set_cons_succ]
    refine BigFrame.wpQuiet_want (by rfl) (fun K hK => q_call (f := 22) (args := #[.agg #[.string a0, .string a1], .string a0]) (v := .bool true) (fun W => ?_) (fun W hW => (cLo W).mono fun e w' ⟨he, hb⟩ => ⟨he, hW.later hb⟩) (hK _ ?_))
    · go_simp
    clear hK K
    simp only [Act.put, List.setIfInBounds_toArray, List.set_cons_zero, List.set_cons_succ]
    refine BigFrame.wpQuiet_want (by rfl) (fun K hK => q_pure (v := .bool true) (fun W => ?_) (hK _ ?_))
    · go_simp
    clear hK K
    simp only [Act.put, List.setIfInBounds_toArray, List.set_cons_zero, List.set_cons_succ]
    refine BigFrame.wpQuiet_want (by rfl) (fun K hK => q_pure (v := .bool true) (fun W => ?_) (hK _ ?_))
    · go_simp
    clear hK K
    simp only [Act.put, List.setIfInBounds_toArray, List.set_cons_zero, List.set_cons_succ]
    go_big_quiet_step (fail)
    refine wpQuiet_nil ?_
    intro w5 hw5
    go_wp2
    go_ret
    exact ⟨rfl, hw5.hb⟩
  | false =>
    have hlq : (Op.bytesLess a1.toList a0.toList || a1.toList == a0.toList) = false := by have h5 := HEM.out; rw [empty_eq, he1] at h5; simpa using h5
    refine wp_region_quiet (C := fun W => SInv w W z a0 a1 b0 b1 key m0 m1) (by kernel_rfl) (by kernel_rfl) (hw3.drewN 1) ?_
    refine BigFrame.wpQuiet_want (by rfl) (fun K hK => q_at (v := .agg #[.string a0, .string a1]) (fun W hW => ?_) (hK _ ?_))
    · have c0 := cell_of_row W _ 0 _ _ _ hW.ra
      have c1 := cell_of_row W _ 1 _ _ _ hW.ra
      go_simp
    clear hK K
    simp only [Act.put, List.setIfInBounds_toArray, List.set_cons_zero, List.set_cons_succ]
    refine BigFrame.wpQuiet_want (by rfl) (fun K hK => q_call (f := 23) (args := #[.agg #[.string a0, .string a1]]) (v := .bool false) (fun W => ?_) (fun W hW => (cEm W).mono fun e w' ⟨he, hb⟩ => ⟨he, hW.later hb⟩) (hK _ ?_))
    · go_simp
    clear hK K
    simp only [Act.put, List.setIfInBounds_toArray, List.set_cons_zero, List.set_cons_succ]
    refine BigFrame.wpQuiet_want (by rfl) (fun K hK => q_pure (v := .pointer (some ⟨w.heap.size, 1, none⟩)) (fun W => ?_) (hK _ ?_))
    · go_simp
    clear hK K
    simp only [Act.put, List.setIfInBounds_toArray, List.set_cons_zero, List.set_cons_succ]
    refine BigFrame.wpQuiet_want (by rfl) (fun K hK => q_at (v := .string a1) (fun W hW => ?_) (hK _ ?_))
    · have c1 := cell_of_row W _ 1 _ _ _ hW.ra
      go_simp
    clear hK K
    simp only [Act.put, List.setIfInBounds_toArray, List.set_cons_zero, List.set_cons_succ]
    refine BigFrame.wpQuiet_want (by rfl) (fun K hK => q_pure (v := .bool true) (fun W => ?_) (hK _ ?_))
    · go_simp
    clear hK K
    simp only [Act.put, List.setIfInBounds_toArray, List.set_cons_zero, List.set_cons_succ]
    go_big_quiet_step (fail)
    refine BigFrame.wpQuiet_want (by rfl) (fun K hK => q_pure (v := .pointer (some ⟨w.heap.size, 1, none⟩)) (fun W => ?_) (hK _ ?_))
    · go_simp
    clear hK K
    simp only [Act.put, List.setIfInBounds_toArray, List.set_cons_zero, List.set_cons_succ]
    refine BigFrame.wpQuiet_want (by rfl) (fun K hK => q_at (v := .string a1) (fun W hW => ?_) (hK _ ?_))
    · have c1 := cell_of_row W _ 1 _ _ _ hW.ra
      go_simp
    clear hK K
    simp only [Act.put, List.setIfInBounds_toArray, List.set_cons_zero, List.set_cons_succ]
    refine BigFrame.wpQuiet_want (by rfl) (fun K hK => q_pure (v := .pointer (some ⟨w.heap.size, 0, none⟩)) (fun W => ?_) (hK _ ?_))
    · go_simp
    clear hK K
    simp only [Act.put, List.setIfInBounds_toArray, List.set_cons_zero, List.set_cons_succ]
    refine BigFrame.wpQuiet_want (by rfl) (fun K hK => q_at (v := .string a0) (fun W hW => ?_) (hK _ ?_))
    · have c0 := cell_of_row W _ 0 _ _ _ hW.ra
      go_simp
    clear hK K
    simp only [Act.put, List.setIfInBounds_toArray, List.set_cons_zero, List.set_cons_succ]
    refine BigFrame.wpQuiet_want (by rfl) (fun K hK => q_pure (v := .bool false) (fun W => ?_) (hK _ ?_))
    · go_simp
    clear hK K
    simp only [Act.put, List.setIfInBounds_toArray, List.set_cons_zero, List.set_cons_succ]
    refine BigFrame.wpQuiet_want (by rfl) (fun K hK => q_pure (v := .bool false) (fun W => ?_) (hK _ ?_))
    · go_simp
    clear hK K
    simp only [Act.put, List.setIfInBounds_toArray, List.set_cons_zero, List.set_cons_succ]
    refine BigFrame.wpQuiet_want (by rfl) (fun K hK => q_pure (v := .bool true) (fun W => ?_) (hK _ ?_))
    · go_simp
    clear hK K
    simp only [Act.put, List.setIfInBounds_toArray, List.set_cons_zero, List.set_cons_succ]
    go_big_quiet_step (fail)
    refine BigFrame.wpQuiet_want (by rfl) (fun K hK => q_at (v := .agg #[.string a0, .string a1]) (fun W hW => ?_) (hK _ ?_))
    · have c0 := cell_of_row W _ 0 _ _ _ hW.ra
      have c1 := cell_of_row W _ 1 _ _ _ hW.ra
      go_simp
    clear hK K
    simp only [Act.put, List.setIfInBounds_toArray, List.set_cons_zero, List.set_cons_succ]
    refine BigFrame.wpQuiet_want (by rfl) (fun K hK => q_call (f := 23) (args := #[.agg #[.string a0, .string a1]]) (v := .bool false) (fun W => ?_) (fun W hW => (cEm W).mono fun e w' ⟨he, hb⟩ => ⟨he, hW.later hb⟩) (hK _ ?_))
    · go_simp
    clear hK K
    simp only [Act.put, List.setIfInBounds_toArray, List.set_cons_zero, List.set_cons_succ]
    go_big_quiet_step (fail)
    refine BigFrame.wpQuiet_want (by rfl) (fun K hK => q_at (v := .agg #[.string a0, .string a1]) (fun W hW => ?_) (hK _ ?_))
    · have c0 := cell_of_row W _ 0 _ _ _ hW.ra
      have c1 := cell_of_row W _ 1 _ _ _ hW.ra
      go_simp
    clear hK K
    simp only [Act.put, List.setIfInBounds_toArray, List.set_cons_zero, List.set_cons_succ]
    refine BigFrame.wpQuiet_want (by rfl) (fun K hK => q_pure (v := .pointer (some ⟨w.heap.size, 0, none⟩)) (fun W => ?_) (hK _ ?_))
    · go_simp
    clear hK K
    simp only [Act.put, List.setIfInBounds_toArray, List.set_cons_zero, List.set_cons_succ]
    refine BigFrame.wpQuiet_want (by rfl) (fun K hK => q_at (v := .string a0) (fun W hW => ?_) (hK _ ?_))
    · have c0 := cell_of_row W _ 0 _ _ _ hW.ra
      go_simp
    clear hK K
    simp only [Act.put, List.setIfInBounds_toArray, List.set_cons_zero, List.set_cons_succ]
    refine BigFrame.wpQuiet_want (by rfl) (fun K hK => q_call (f := 22) (args := #[.agg #[.string a0, .string a1], .string a0]) (v := .bool true) (fun W => ?_) (fun W hW => (cLo W).mono fun e w' ⟨he, hb⟩ => ⟨he, hW.later hb⟩) (hK _ ?_))
    · go_simp
    clear hK K
    simp only [Act.put, List.setIfInBounds_toArray, List.set_cons_zero, List.set_cons_succ]
    refine BigFrame.wpQuiet_want (by rfl) (fun K hK => q_pure (v := .bool true) (fun W => ?_) (hK _ ?_))
    · go_simp
    clear hK K
    simp only [Act.put, List.setIfInBounds_toArray, List.set_cons_zero, List.set_cons_succ]
    refine BigFrame.wpQuiet_want (by rfl) (fun K hK => q_pure (v := .bool true) (fun W => ?_) (hK _ ?_))
    · go_simp
    clear hK K
    simp only [Act.put, List.setIfInBounds_toArray, List.set_cons_zero, List.set_cons_succ]
    go_big_quiet_step (fail)
    refine wpQuiet_nil ?_
    intro w5 hw5
    go_wp2
    go_ret
    exact ⟨rfl, hw5.hb⟩
set_option maxRecDepth 100000 in
set_option maxHeartbeats 8000000 in
theorem law_spans_tf (a0 a1 b0 b1 key : ByteArray) (w : World) (ha : a1.size ≤ maxLen) (hb : b1.size ≤ maxLen) (hia : hasB a0 a1 key = true) (hib : hasB b0 b1 key = false) (hem : emptyB a0 a1 = false) : Calls Tryd.prog 6 #[.agg #[.string a0, .string a1], .agg #[.string b0, .string b1], .string key] w fun e w' => e = .returned (.bool true) ∧ Below w.heap.size w w' := by
  have cHa := fun W => has_any a0 a1 key W
  have cIa := fun W h => in_any a0 a1 key (w.heap.size + 1 + 1) W h
  have cIb := fun W h => in_any b0 b1 key (w.heap.size + 1 + 1) W h
  have cHm := fun W => has_any (maxS a0 b0) (lowerB a1 b1) key W
  have cEm := fun W => empty_any a0 a1 W
  have cAl := fun W => has_any ⟨#[]⟩ ⟨#[]⟩ key W
  have cLo := fun W => has_any a0 a1 a0 W
  rw [meet_has] at cHm
  rw [all_has] at cAl
  rw [hia] at cHa cIa cHm
  rw [hib] at cIb cHm
  simp only [Bool.and_false] at cHm
  rw [hem] at cEm
  rw [low_has hem] at cLo
  have cMe := fun W => meet_any a0 a1 b0 b1 W ha hb
  obtain ⟨m0, hm0⟩ : ∃ m0, maxS a0 b0 = m0 := ⟨_, rfl⟩
  obtain ⟨m1, hm1⟩ : ∃ m1, lowerB a1 b1 = m1 := ⟨_, rfl⟩
  rw [hm0, hm1] at cHm cMe
  have HEM : Hid (emptyB a0 a1 = false) := hem
  clear hm0 hm1 hia hem hib
  have hr0 := fresh_row w #[.string a0, .string a1] 45
  have hr1 := fresh_row (w.alloc (.cells #[.string a0, .string a1] 45)) #[.string b0, .string b1] 45
  have hr2 := fresh_row ((w.alloc (.cells #[.string a0, .string a1] 45)).alloc (.cells #[.string b0, .string b1] 45)) #[.string key] 9
  have hbw : Below w.heap.size w (((w.alloc (.cells #[.string a0, .string a1] 45)).alloc (.cells #[.string b0, .string b1] 45)).alloc (.cells #[.string key] 9)) := (((Below.refl _ w).alloc (Nat.le_refl _) _).alloc (by simp) _).alloc (by simp; omega) _
  replace hr0 := ((Below.heap_alloc (w.alloc (.cells #[.string a0, .string a1] 45)) (.cells #[.string b0, .string b1] 45) w.heap.size (by simp)).trans hr0)
  replace hr0 := ((Below.heap_alloc ((w.alloc (.cells #[.string a0, .string a1] 45)).alloc (.cells #[.string b0, .string b1] 45)) (.cells #[.string key] 9) w.heap.size (by simp; omega)).trans hr0)
  replace hr1 := ((Below.heap_alloc ((w.alloc (.cells #[.string a0, .string a1] 45)).alloc (.cells #[.string b0, .string b1] 45)) (.cells #[.string key] 9) _ (by simp)).trans hr1)
  obtain ⟨W, hW⟩ : ∃ W, (((w.alloc (.cells #[.string a0, .string a1] 45)).alloc (.cells #[.string b0, .string b1] 45)).alloc (.cells #[.string key] 9)) = W := ⟨_, rfl⟩
  have hs1 : (w.alloc (.cells #[.string a0, .string a1] 45)).heap.size = w.heap.size + 1 := by simp
  have hs2 : ((w.alloc (.cells #[.string a0, .string a1] 45)).alloc (.cells #[.string b0, .string b1] 45)).heap.size = w.heap.size + 1 + 1 := by simp
  rw [hs1] at hr1
  rw [hs2] at hr2
  rw [hW] at hr0 hr1 hr2 hbw
  clear hs1 hs2
  have c0 := cell_of_row W _ 0 _ _ _ hr0
  have c1 := cell_of_row W _ 1 _ _ _ hr0
  have d0 := cell_of_row W _ 0 _ _ _ hr1
  have d1 := cell_of_row W _ 1 _ _ _ hr1
  go_enter Tryd.func6, Tryd.ntmps6
  go_wp2_with fail
  clear hW
  refine (cMe _).mono ?_
  rintro e w1 ⟨rfl, hb1⟩
  clear c0 c1 d0 d1
  have hinv : SInv w (w1.alloc (.cells #[.string m0, .string m1] 45)) w1.heap.size a0 a1 b0 b1 key m0 m1 := by
    have hl0 := lt_of_row hr0
    have hz := hb1.size
    have ha1 := fun k (hk : k < w1.heap.size) => Below.heap_alloc w1 (.cells #[.string m0, .string m1] 45) k hk
    exact ⟨(ha1 _ (by have := lt_of_row hr0; omega)).trans ((hb1.block _ (lt_of_row hr0)).trans hr0), (ha1 _ (by have := lt_of_row hr1; omega)).trans ((hb1.block _ (lt_of_row hr1)).trans hr1), (ha1 _ (by have := lt_of_row hr2; omega)).trans ((hb1.block _ (lt_of_row hr2)).trans hr2), fresh_row w1 _ _, (hbw.trans (hb1.mono (by omega))).alloc (by omega) _⟩
  clear hr0 hr1 hr2 hbw hb1
  go_wp2_with fail
  obtain ⟨z, hz⟩ : ∃ z, w1.heap.size = z := ⟨_, rfl⟩
  obtain ⟨W8, hW8⟩ : ∃ W8, w1.alloc (.cells #[.string m0, .string m1] 45) = W8 := ⟨_, rfl⟩
  rw [hz, hW8] at hinv
  try rw [hz]
  try rw [hW8]
  clear hz hW8
  refine wp_region_quiet (C := fun W => SInv w W z a0 a1 b0 b1 key m0 m1) (by kernel_rfl) (by kernel_rfl) (hinv.drewN 1) ?_
  refine BigFrame.wpQuiet_want (by rfl) (fun K hK => q_call (f := 10) (args := #[]) (v := .bool true) (fun W => ?_) (fun W hW => (awake_any W).mono fun e w' ⟨he, hb⟩ => ⟨he, hW.later hb⟩) (hK _ ?_))
  · go_simp
  clear hK K
  simp only [Act.put, List.setIfInBounds_toArray, List.set_cons_zero, List.set_cons_succ]
  refine BigFrame.wpQuiet_want (by rfl) (fun K hK => q_pure (v := .bool false) (fun W => ?_) (hK _ ?_))
  · go_simp
  clear hK K
  simp only [Act.put, List.setIfInBounds_toArray, List.set_cons_zero, List.set_cons_succ]
  go_big_quiet_step (fail)
  refine BigFrame.wpQuiet_want (by rfl) (fun K hK => q_at (v := .agg #[.string a0, .string a1]) (fun W hW => ?_) (hK _ ?_))
  · have c0 := cell_of_row W _ 0 _ _ _ hW.ra
    have c1 := cell_of_row W _ 1 _ _ _ hW.ra
    go_simp
  clear hK K
  simp only [Act.put, List.setIfInBounds_toArray, List.set_cons_zero, List.set_cons_succ]
  refine BigFrame.wpQuiet_want (by rfl) (fun K hK => q_at (v := .string key) (fun W hW => ?_) (hK _ ?_))
  · have c0 := cell_of_row W _ 0 _ _ _ hW.rk
    go_simp
  clear hK K
  simp only [Act.put, List.setIfInBounds_toArray, List.set_cons_zero, List.set_cons_succ]
  refine BigFrame.wpQuiet_want (by rfl) (fun K hK => q_call (f := 22) (args := #[.agg #[.string a0, .string a1], .string key]) (v := .bool true) (fun W => ?_) (fun W hW => (cHa W).mono fun e w' ⟨he, hb⟩ => ⟨he, hW.later hb⟩) (hK _ ?_))
  · go_simp
  clear hK K
  simp only [Act.put, List.setIfInBounds_toArray, List.set_cons_zero, List.set_cons_succ]
  go_big_quiet_step (fail)
  refine BigFrame.wpQuiet_want (by rfl) (fun K hK => q_at (v := .agg #[.string a0, .string a1]) (fun W hW => ?_) (hK _ ?_))
  · have c0 := cell_of_row W _ 0 _ _ _ hW.ra
    have c1 := cell_of_row W _ 1 _ _ _ hW.ra
    go_simp
  clear hK K
  simp only [Act.put, List.setIfInBounds_toArray, List.set_cons_zero, List.set_cons_succ]
  refine BigFrame.wpQuiet_want (by rfl) (fun K hK => q_call (f := 20) (args := #[.agg #[.string a0, .string a1], .pointer (some ⟨w.heap.size + 1 + 1, 0, none⟩)]) (v := .bool true) (fun W => ?_) (fun W hW => (cIa W hW.key).mono fun e w' ⟨he, hb⟩ => ⟨he, hW.later hb⟩) (hK _ ?_))
  · go_simp
  clear hK K
  simp only [Act.put, List.setIfInBounds_toArray, List.set_cons_zero, List.set_cons_succ]
  refine BigFrame.wpQuiet_want (by rfl) (fun K hK => q_pure (v := .bool false) (fun W => ?_) (hK _ ?_))
  · go_simp
  clear hK K
  simp only [Act.put, List.setIfInBounds_toArray, List.set_cons_zero, List.set_cons_succ]
  refine BigFrame.wpQuiet_want (by rfl) (fun K hK => q_pure (v := .bool false) (fun W => ?_) (hK _ ?_))
  · go_simp
  clear hK K
  simp only [Act.put, List.setIfInBounds_toArray, List.set_cons_zero, List.set_cons_succ]
  go_big_quiet_step (fail)
  refine BigFrame.wpQuiet_want (by rfl) (fun K hK => q_at (v := .agg #[.string m0, .string m1]) (fun W hW => ?_) (hK _ ?_))
  · have c0 := cell_of_row W _ 0 _ _ _ hW.rm
    have c1 := cell_of_row W _ 1 _ _ _ hW.rm
    go_simp
  clear hK K
  simp only [Act.put, List.setIfInBounds_toArray, List.set_cons_zero, List.set_cons_succ]
  refine BigFrame.wpQuiet_want (by rfl) (fun K hK => q_at (v := .string key) (fun W hW => ?_) (hK _ ?_))
  · have c0 := cell_of_row W _ 0 _ _ _ hW.rk
    go_simp
  clear hK K
  simp only [Act.put, List.setIfInBounds_toArray, List.set_cons_zero, List.set_cons_succ]
  refine BigFrame.wpQuiet_want (by rfl) (fun K hK => q_call (f := 22) (args := #[.agg #[.string m0, .string m1], .string key]) (v := .bool false) (fun W => ?_) (fun W hW => (cHm W).mono fun e w' ⟨he, hb⟩ => ⟨he, hW.later hb⟩) (hK _ ?_))
  · go_simp
  clear hK K
  simp only [Act.put, List.setIfInBounds_toArray, List.set_cons_zero, List.set_cons_succ]
  go_big_quiet_step (fail)
  refine BigFrame.wpQuiet_want (by rfl) (fun K hK => q_at (v := .agg #[.string a0, .string a1]) (fun W hW => ?_) (hK _ ?_))
  · have c0 := cell_of_row W _ 0 _ _ _ hW.ra
    have c1 := cell_of_row W _ 1 _ _ _ hW.ra
    go_simp
  clear hK K
  simp only [Act.put, List.setIfInBounds_toArray, List.set_cons_zero, List.set_cons_succ]
  refine BigFrame.wpQuiet_want (by rfl) (fun K hK => q_call (f := 20) (args := #[.agg #[.string a0, .string a1], .pointer (some ⟨w.heap.size + 1 + 1, 0, none⟩)]) (v := .bool true) (fun W => ?_) (fun W hW => (cIa W hW.key).mono fun e w' ⟨he, hb⟩ => ⟨he, hW.later hb⟩) (hK _ ?_))
  · go_simp
  clear hK K
  simp only [Act.put, List.setIfInBounds_toArray, List.set_cons_zero, List.set_cons_succ]
  go_big_quiet_step (fail)
  go_big_quiet_step (fail)
  refine BigFrame.wpQuiet_want (by rfl) (fun K hK => q_at (v := .agg #[.string b0, .string b1]) (fun W hW => ?_) (hK _ ?_))
  · have c0 := cell_of_row W _ 0 _ _ _ hW.rb
    have c1 := cell_of_row W _ 1 _ _ _ hW.rb
    go_simp
  clear hK K
  simp only [Act.put, List.setIfInBounds_toArray, List.set_cons_zero, List.set_cons_succ]
  refine BigFrame.wpQuiet_want (by rfl) (fun K hK => q_call (f := 20) (args := #[.agg #[.string b0, .string b1], .pointer (some ⟨w.heap.size + 1 + 1, 0, none⟩)]) (v := .bool false) (fun W => ?_) (fun W hW => (cIb W hW.key).mono fun e w' ⟨he, hb⟩ => ⟨he, hW.later hb⟩) (hK _ ?_))
  · go_simp
  clear hK K
  simp only [Act.put, List.setIfInBounds_toArray, List.set_cons_zero, List.set_cons_succ]
  refine BigFrame.wpQuiet_want (by rfl) (fun K hK => q_pure (v := .bool false) (fun W => ?_) (hK _ ?_))
  · go_simp
  clear hK K
  simp only [Act.put, List.setIfInBounds_toArray, List.set_cons_zero, List.set_cons_succ]
  refine BigFrame.wpQuiet_want (by rfl) (fun K hK => q_pure (v := .bool false) (fun W => ?_) (hK _ ?_))
  · go_simp
  clear hK K
  simp only [Act.put, List.setIfInBounds_toArray, List.set_cons_zero, List.set_cons_succ]
  refine BigFrame.wpQuiet_want (by rfl) (fun K hK => q_pure (v := .bool false) (fun W => ?_) (hK _ ?_))
  · go_simp
  clear hK K
  simp only [Act.put, List.setIfInBounds_toArray, List.set_cons_zero, List.set_cons_succ]
  go_big_quiet_step (fail)
  refine BigFrame.wpQuiet_want (by rfl) (fun K hK => q_at (v := .agg #[.string a0, .string a1]) (fun W hW => ?_) (hK _ ?_))
  · have c0 := cell_of_row W _ 0 _ _ _ hW.ra
    have c1 := cell_of_row W _ 1 _ _ _ hW.ra
    go_simp
  clear hK K
  simp only [Act.put, List.setIfInBounds_toArray, List.set_cons_zero, List.set_cons_succ]
  refine BigFrame.wpQuiet_want (by rfl) (fun K hK => q_call (f := 23) (args := #[.agg #[.string a0, .string a1]]) (v := .bool false) (fun W => ?_) (fun W hW => (cEm W).mono fun e w' ⟨he, hb⟩ => ⟨he, hW.later hb⟩) (hK _ ?_))
  · go_simp
  clear hK K
  simp only [Act.put, List.setIfInBounds_toArray, List.set_cons_zero, List.set_cons_succ]
  go_big_quiet_step (fail)
  go_big_quiet_step (fail)
  go_big_quiet_step (fail)
  go_big_quiet_step (fail)
  refine BigFrame.wpQuiet_want (by rfl) (fun K hK => q_pure (v := .bool false) (fun W => ?_) (hK _ ?_))
  · go_simp
  clear hK K
  simp only [Act.put, List.setIfInBounds_toArray, List.set_cons_zero, List.set_cons_succ]
  refine BigFrame.wpQuiet_want (by rfl) (fun K hK => q_pure (v := .bool false) (fun W => ?_) (hK _ ?_))
  · go_simp
  clear hK K
  simp only [Act.put, List.setIfInBounds_toArray, List.set_cons_zero, List.set_cons_succ]
  go_big_quiet_step (fail)
  refine BigFrame.wpQuiet_want (by rfl) (fun K hK => q_call (f := 24) (args := #[]) (v := .agg #[.string ⟨#[]⟩, .string ⟨#[]⟩]) (fun W => ?_) (fun W hW => (all_any W).mono fun e w' ⟨he, hb⟩ => ⟨he, hW.later hb⟩) (hK _ ?_))
  · go_simp
  clear hK K
  simp only [Act.put, List.setIfInBounds_toArray, List.set_cons_zero, List.set_cons_succ]
  refine BigFrame.wpQuiet_want (by rfl) (fun K hK => q_at (v := .string key) (fun W hW => ?_) (hK _ ?_))
  · have c0 := cell_of_row W _ 0 _ _ _ hW.rk
    go_simp
  clear hK K
  simp only [Act.put, List.setIfInBounds_toArray, List.set_cons_zero, List.set_cons_succ]
  refine BigFrame.wpQuiet_want (by rfl) (fun K hK => q_call (f := 22) (args := #[.agg #[.string ⟨#[]⟩, .string ⟨#[]⟩], .string key]) (v := .bool true) (fun W => ?_) (fun W hW => (cAl W).mono fun e w' ⟨he, hb⟩ => ⟨he, hW.later hb⟩) (hK _ ?_))
  · go_simp
  clear hK K
  simp only [Act.put, List.setIfInBounds_toArray, List.set_cons_zero, List.set_cons_succ]
  refine BigFrame.wpQuiet_want (by rfl) (fun K hK => q_pure (v := .bool false) (fun W => ?_) (hK _ ?_))
  · go_simp
  clear hK K
  simp only [Act.put, List.setIfInBounds_toArray, List.set_cons_zero, List.set_cons_succ]
  refine BigFrame.wpQuiet_want (by rfl) (fun K hK => q_pure (v := .bool false) (fun W => ?_) (hK _ ?_))
  · go_simp
  clear hK K
  simp only [Act.put, List.setIfInBounds_toArray, List.set_cons_zero, List.set_cons_succ]
  refine wpQuiet_nil ?_
  intro w3 hw3
  go_wp2_with fail
  cases he1 : a1.toList.isEmpty with
  | true =>
    refine wp_region_quiet (C := fun W => SInv w W z a0 a1 b0 b1 key m0 m1) (by kernel_rfl) (by kernel_rfl) (hw3.drewN 1) ?_
    refine BigFrame.wpQuiet_want (by rfl) (fun K hK => q_at (v := .agg #[.string a0, .string a1]) (fun W hW => ?_) (hK _ ?_))
    · have c0 := cell_of_row W _ 0 _ _ _ hW.ra
      have c1 := cell_of_row W _ 1 _ _ _ hW.ra
      go_simp
    clear hK K
    simp only [Act.put, List.setIfInBounds_toArray, List.set_cons_zero, List.set_cons_succ]
    refine BigFrame.wpQuiet_want (by rfl) (fun K hK => q_call (f := 23) (args := #[.agg #[.string a0, .string a1]]) (v := .bool false) (fun W => ?_) (fun W hW => (cEm W).mono fun e w' ⟨he, hb⟩ => ⟨he, hW.later hb⟩) (hK _ ?_))
    · go_simp
    clear hK K
    simp only [Act.put, List.setIfInBounds_toArray, List.set_cons_zero, List.set_cons_succ]
    refine BigFrame.wpQuiet_want (by rfl) (fun K hK => q_pure (v := .pointer (some ⟨w.heap.size, 1, none⟩)) (fun W => ?_) (hK _ ?_))
    · go_simp
    clear hK K
    simp only [Act.put, List.setIfInBounds_toArray, List.set_cons_zero, List.set_cons_succ]
    refine BigFrame.wpQuiet_want (by rfl) (fun K hK => q_at (v := .string a1) (fun W hW => ?_) (hK _ ?_))
    · have c1 := cell_of_row W _ 1 _ _ _ hW.ra
      go_simp
    clear hK K
    simp only [Act.put, List.setIfInBounds_toArray, List.set_cons_zero, List.set_cons_succ]
    refine BigFrame.wpQuiet_want (by rfl) (fun K hK => q_pure (v := .bool false) (fun W => ?_) (hK _ ?_))
    · go_simp
    clear hK K
    simp only [Act.put, List.setIfInBounds_toArray, List.set_cons_zero, List.set_cons_succ]
    go_big_quiet_step (fail)
    go_big_quiet_step (fail)
    go_big_quiet_step (fail)
    go_big_quiet_step (fail)
    go_big_quiet_step (fail)
    go_big_quiet_step (fail)
    refine BigFrame.wpQuiet_want (by rfl) (fun K hK => q_pure (v := .bool false) (fun W => ?_) (hK _ ?_))
    · go_simp
    clear hK K
    simp only [Act.put, List.setIfInBounds_toArray, List.set_cons_zero, List.set_cons_succ]
    refine BigFrame.wpQuiet_want (by rfl) (fun K hK => q_pure (v := .bool true) (fun W => ?_) (hK _ ?_))
    · go_simp
    clear hK K
    simp only [Act.put, List.setIfInBounds_toArray, List.set_cons_zero, List.set_cons_succ]
    go_big_quiet_step (fail)
    refine BigFrame.wpQuiet_want (by rfl) (fun K hK => q_at (v := .agg #[.string a0, .string a1]) (fun W hW => ?_) (hK _ ?_))
    · have c0 := cell_of_row W _ 0 _ _ _ hW.ra
      have c1 := cell_of_row W _ 1 _ _ _ hW.ra
      go_simp
    clear hK K
    simp only [Act.put, List.setIfInBounds_toArray, List.set_cons_zero, List.set_cons_succ]
    refine BigFrame.wpQuiet_want (by rfl) (fun K hK => q_call (f := 23) (args := #[.agg #[.string a0, .string a1]]) (v := .bool false) (fun W => ?_) (fun W hW => (cEm W).mono fun e w' ⟨he, hb⟩ => ⟨he, hW.later hb⟩) (hK _ ?_))
    · go_simp
    clear hK K
    simp only [Act.put, List.setIfInBounds_toArray, List.set_cons_zero, List.set_cons_succ]
    go_big_quiet_step (fail)
    refine BigFrame.wpQuiet_want (by rfl) (fun K hK => q_at (v := .agg #[.string a0, .string a1]) (fun W hW => ?_) (hK _ ?_))
    · have c0 := cell_of_row W _ 0 _ _ _ hW.ra
      have c1 := cell_of_row W _ 1 _ _ _ hW.ra
      go_simp
    clear hK K
    simp only [Act.put, List.setIfInBounds_toArray, List.set_cons_zero, List.set_cons_succ]
    refine BigFrame.wpQuiet_want (by rfl) (fun K hK => q_pure (v := .pointer (some ⟨w.heap.size, 0, none⟩)) (fun W => ?_) (hK _ ?_))
    · go_simp
    clear hK K
    simp only [Act.put, List.setIfInBounds_toArray, List.set_cons_zero, List.set_cons_succ]
    refine BigFrame.wpQuiet_want (by rfl) (fun K hK => q_at (v := .string a0) (fun W hW => ?_) (hK _ ?_))
    · have c0 := cell_of_row W _ 0 _ _ _ hW.ra
      go_simp
    clear hK K
    simp only [Act.put, List.setIfInBounds_toArray, List.set_cons_zero, List.set_cons_succ]
    refine BigFrame.wpQuiet_want (by rfl) (fun K hK => q_call (f := 22) (args := #[.agg #[.string a0, .string a1], .string a0]) (v := .bool true) (fun W => ?_) (fun W hW => (cLo W).mono fun e w' ⟨he, hb⟩ => ⟨he, hW.later hb⟩) (hK _ ?_))
    · go_simp
    clear hK K
    simp only [Act.put, List.setIfInBounds_toArray, List.set_cons_zero, List.set_cons_succ]
    refine BigFrame.wpQuiet_want (by rfl) (fun K hK => q_pure (v := .bool true) (fun W => ?_) (hK _ ?_))
    · go_simp
    clear hK K
    simp only [Act.put, List.setIfInBounds_toArray, List.set_cons_zero, List.set_cons_succ]
    refine BigFrame.wpQuiet_want (by rfl) (fun K hK => q_pure (v := .bool true) (fun W => ?_) (hK _ ?_))
    · go_simp
    clear hK K
    simp only [Act.put, List.setIfInBounds_toArray, List.set_cons_zero, List.set_cons_succ]
    go_big_quiet_step (fail)
    refine wpQuiet_nil ?_
    intro w5 hw5
    go_wp2
    go_ret
    exact ⟨rfl, hw5.hb⟩
  | false =>
    have hlq : (Op.bytesLess a1.toList a0.toList || a1.toList == a0.toList) = false := by have h5 := HEM.out; rw [empty_eq, he1] at h5; simpa using h5
    refine wp_region_quiet (C := fun W => SInv w W z a0 a1 b0 b1 key m0 m1) (by kernel_rfl) (by kernel_rfl) (hw3.drewN 1) ?_
    refine BigFrame.wpQuiet_want (by rfl) (fun K hK => q_at (v := .agg #[.string a0, .string a1]) (fun W hW => ?_) (hK _ ?_))
    · have c0 := cell_of_row W _ 0 _ _ _ hW.ra
      have c1 := cell_of_row W _ 1 _ _ _ hW.ra
      go_simp
    clear hK K
    simp only [Act.put, List.setIfInBounds_toArray, List.set_cons_zero, List.set_cons_succ]
    refine BigFrame.wpQuiet_want (by rfl) (fun K hK => q_call (f := 23) (args := #[.agg #[.string a0, .string a1]]) (v := .bool false) (fun W => ?_) (fun W hW => (cEm W).mono fun e w' ⟨he, hb⟩ => ⟨he, hW.later hb⟩) (hK _ ?_))
    · go_simp
    clear hK K
    simp only [Act.put, List.setIfInBounds_toArray, List.set_cons_zero, List.set_cons_succ]
    refine BigFrame.wpQuiet_want (by rfl) (fun K hK => q_pure (v := .pointer (some ⟨w.heap.size, 1, none⟩)) (fun W => ?_) (hK _ ?_))
    · go_simp
    clear hK K
    simp only [Act.put, List.setIfInBounds_toArray, List.set_cons_zero, List.set_cons_succ]
    refine BigFrame.wpQuiet_want (by rfl) (fun K hK => q_at (v := .string a1) (fun W hW => ?_) (hK _ ?_))
    · have c1 := cell_of_row W _ 1 _ _ _ hW.ra
      go_simp
    clear hK K
    simp only [Act.put, List.setIfInBounds_toArray, List.set_cons_zero, List.set_cons_succ]
    refine BigFrame.wpQuiet_want (by rfl) (fun K hK => q_pure (v := .bool true) (fun W => ?_) (hK _ ?_))
    · go_simp
    clear hK K
    simp only [Act.put, List.setIfInBounds_toArray, List.set_cons_zero, List.set_cons_succ]
    go_big_quiet_step (fail)
    refine BigFrame.wpQuiet_want (by rfl) (fun K hK => q_pure (v := .pointer (some ⟨w.heap.size, 1, none⟩)) (fun W => ?_) (hK _ ?_))
    · go_simp
    clear hK K
    simp only [Act.put, List.setIfInBounds_toArray, List.set_cons_zero, List.set_cons_succ]
    refine BigFrame.wpQuiet_want (by rfl) (fun K hK => q_at (v := .string a1) (fun W hW => ?_) (hK _ ?_))
    · have c1 := cell_of_row W _ 1 _ _ _ hW.ra
      go_simp
    clear hK K
    simp only [Act.put, List.setIfInBounds_toArray, List.set_cons_zero, List.set_cons_succ]
    refine BigFrame.wpQuiet_want (by rfl) (fun K hK => q_pure (v := .pointer (some ⟨w.heap.size, 0, none⟩)) (fun W => ?_) (hK _ ?_))
    · go_simp
    clear hK K
    simp only [Act.put, List.setIfInBounds_toArray, List.set_cons_zero, List.set_cons_succ]
    refine BigFrame.wpQuiet_want (by rfl) (fun K hK => q_at (v := .string a0) (fun W hW => ?_) (hK _ ?_))
    · have c0 := cell_of_row W _ 0 _ _ _ hW.ra
      go_simp
    clear hK K
    simp only [Act.put, List.setIfInBounds_toArray, List.set_cons_zero, List.set_cons_succ]
    refine BigFrame.wpQuiet_want (by rfl) (fun K hK => q_pure (v := .bool false) (fun W => ?_) (hK _ ?_))
    · go_simp
    clear hK K
    simp only [Act.put, List.setIfInBounds_toArray, List.set_cons_zero, List.set_cons_succ]
    refine BigFrame.wpQuiet_want (by rfl) (fun K hK => q_pure (v := .bool false) (fun W => ?_) (hK _ ?_))
    · go_simp
    clear hK K
    simp only [Act.put, List.setIfInBounds_toArray, List.set_cons_zero, List.set_cons_succ]
    refine BigFrame.wpQuiet_want (by rfl) (fun K hK => q_pure (v := .bool true) (fun W => ?_) (hK _ ?_))
    · go_simp
    clear hK K
    simp only [Act.put, List.setIfInBounds_toArray, List.set_cons_zero, List.set_cons_succ]
    go_big_quiet_step (fail)
    refine BigFrame.wpQuiet_want (by rfl) (fun K hK => q_at (v := .agg #[.string a0, .string a1]) (fun W hW => ?_) (hK _ ?_))
    · have c0 := cell_of_row W _ 0 _ _ _ hW.ra
      have c1 := cell_of_row W _ 1 _ _ _ hW.ra
      go_simp
    clear hK K
    simp only [Act.put, List.setIfInBounds_toArray, List.set_cons_zero, List.set_cons_succ]
    refine BigFrame.wpQuiet_want (by rfl) (fun K hK => q_call (f := 23) (args := #[.agg #[.string a0, .string a1]]) (v := .bool false) (fun W => ?_) (fun W hW => (cEm W).mono fun e w' ⟨he, hb⟩ => ⟨he, hW.later hb⟩) (hK _ ?_))
    · go_simp
    clear hK K
    simp only [Act.put, List.setIfInBounds_toArray, List.set_cons_zero, List.set_cons_succ]
    go_big_quiet_step (fail)
    refine BigFrame.wpQuiet_want (by rfl) (fun K hK => q_at (v := .agg #[.string a0, .string a1]) (fun W hW => ?_) (hK _ ?_))
    · have c0 := cell_of_row W _ 0 _ _ _ hW.ra
      have c1 := cell_of_row W _ 1 _ _ _ hW.ra
      go_simp
    clear hK K
    simp only [Act.put, List.setIfInBounds_toArray, List.set_cons_zero, List.set_cons_succ]
    refine BigFrame.wpQuiet_want (by rfl) (fun K hK => q_pure (v := .pointer (some ⟨w.heap.size, 0, none⟩)) (fun W => ?_) (hK _ ?_))
    · go_simp
    clear hK K
    simp only [Act.put, List.setIfInBounds_toArray, List.set_cons_zero, List.set_cons_succ]
    refine BigFrame.wpQuiet_want (by rfl) (fun K hK => q_at (v := .string a0) (fun W hW => ?_) (hK _ ?_))
    · have c0 := cell_of_row W _ 0 _ _ _ hW.ra
      go_simp
    clear hK K
    simp only [Act.put, List.setIfInBounds_toArray, List.set_cons_zero, List.set_cons_succ]
    refine BigFrame.wpQuiet_want (by rfl) (fun K hK => q_call (f := 22) (args := #[.agg #[.string a0, .string a1], .string a0]) (v := .bool true) (fun W => ?_) (fun W hW => (cLo W).mono fun e w' ⟨he, hb⟩ => ⟨he, hW.later hb⟩) (hK _ ?_))
    · go_simp
    clear hK K
    simp only [Act.put, List.setIfInBounds_toArray, List.set_cons_zero, List.set_cons_succ]
    refine BigFrame.wpQuiet_want (by rfl) (fun K hK => q_pure (v := .bool true) (fun W => ?_) (hK _ ?_))
    · go_simp
    clear hK K
    simp only [Act.put, List.setIfInBounds_toArray, List.set_cons_zero, List.set_cons_succ]
    refine BigFrame.wpQuiet_want (by rfl) (fun K hK => q_pure (v := .bool true) (fun W => ?_) (hK _ ?_))
    · go_simp
    clear hK K
    simp only [Act.put, List.setIfInBounds_toArray, List.set_cons_zero, List.set_cons_succ]
    go_big_quiet_step (fail)
    refine wpQuiet_nil ?_
    intro w5 hw5
    go_wp2
    go_ret
    exact ⟨rfl, hw5.hb⟩
set_option maxRecDepth 100000 in
set_option maxHeartbeats 8000000 in
theorem law_spans_tt (a0 a1 b0 b1 key : ByteArray) (w : World) (ha : a1.size ≤ maxLen) (hb : b1.size ≤ maxLen) (hia : hasB a0 a1 key = true) (hib : hasB b0 b1 key = true) (hem : emptyB a0 a1 = false) : Calls Tryd.prog 6 #[.agg #[.string a0, .string a1], .agg #[.string b0, .string b1], .string key] w fun e w' => e = .returned (.bool true) ∧ Below w.heap.size w w' := by
  have cHa := fun W => has_any a0 a1 key W
  have cIa := fun W h => in_any a0 a1 key (w.heap.size + 1 + 1) W h
  have cIb := fun W h => in_any b0 b1 key (w.heap.size + 1 + 1) W h
  have cHm := fun W => has_any (maxS a0 b0) (lowerB a1 b1) key W
  have cEm := fun W => empty_any a0 a1 W
  have cAl := fun W => has_any ⟨#[]⟩ ⟨#[]⟩ key W
  have cLo := fun W => has_any a0 a1 a0 W
  rw [meet_has] at cHm
  rw [all_has] at cAl
  rw [hia] at cHa cIa cHm
  rw [hib] at cIb cHm
  simp only [Bool.and_self] at cHm
  rw [hem] at cEm
  rw [low_has hem] at cLo
  have cMe := fun W => meet_any a0 a1 b0 b1 W ha hb
  obtain ⟨m0, hm0⟩ : ∃ m0, maxS a0 b0 = m0 := ⟨_, rfl⟩
  obtain ⟨m1, hm1⟩ : ∃ m1, lowerB a1 b1 = m1 := ⟨_, rfl⟩
  rw [hm0, hm1] at cHm cMe
  have HEM : Hid (emptyB a0 a1 = false) := hem
  clear hm0 hm1 hia hem hib
  have hr0 := fresh_row w #[.string a0, .string a1] 45
  have hr1 := fresh_row (w.alloc (.cells #[.string a0, .string a1] 45)) #[.string b0, .string b1] 45
  have hr2 := fresh_row ((w.alloc (.cells #[.string a0, .string a1] 45)).alloc (.cells #[.string b0, .string b1] 45)) #[.string key] 9
  have hbw : Below w.heap.size w (((w.alloc (.cells #[.string a0, .string a1] 45)).alloc (.cells #[.string b0, .string b1] 45)).alloc (.cells #[.string key] 9)) := (((Below.refl _ w).alloc (Nat.le_refl _) _).alloc (by simp) _).alloc (by simp; omega) _
  replace hr0 := ((Below.heap_alloc (w.alloc (.cells #[.string a0, .string a1] 45)) (.cells #[.string b0, .string b1] 45) w.heap.size (by simp)).trans hr0)
  replace hr0 := ((Below.heap_alloc ((w.alloc (.cells #[.string a0, .string a1] 45)).alloc (.cells #[.string b0, .string b1] 45)) (.cells #[.string key] 9) w.heap.size (by simp; omega)).trans hr0)
  replace hr1 := ((Below.heap_alloc ((w.alloc (.cells #[.string a0, .string a1] 45)).alloc (.cells #[.string b0, .string b1] 45)) (.cells #[.string key] 9) _ (by simp)).trans hr1)
  obtain ⟨W, hW⟩ : ∃ W, (((w.alloc (.cells #[.string a0, .string a1] 45)).alloc (.cells #[.string b0, .string b1] 45)).alloc (.cells #[.string key] 9)) = W := ⟨_, rfl⟩
  have hs1 : (w.alloc (.cells #[.string a0, .string a1] 45)).heap.size = w.heap.size + 1 := by simp
  have hs2 : ((w.alloc (.cells #[.string a0, .string a1] 45)).alloc (.cells #[.string b0, .string b1] 45)).heap.size = w.heap.size + 1 + 1 := by simp
  rw [hs1] at hr1
  rw [hs2] at hr2
  rw [hW] at hr0 hr1 hr2 hbw
  clear hs1 hs2
  have c0 := cell_of_row W _ 0 _ _ _ hr0
  have c1 := cell_of_row W _ 1 _ _ _ hr0
  have d0 := cell_of_row W _ 0 _ _ _ hr1
  have d1 := cell_of_row W _ 1 _ _ _ hr1
  go_enter Tryd.func6, Tryd.ntmps6
  go_wp2_with fail
  clear hW
  refine (cMe _).mono ?_
  rintro e w1 ⟨rfl, hb1⟩
  clear c0 c1 d0 d1
  have hinv : SInv w (w1.alloc (.cells #[.string m0, .string m1] 45)) w1.heap.size a0 a1 b0 b1 key m0 m1 := by
    have hl0 := lt_of_row hr0
    have hz := hb1.size
    have ha1 := fun k (hk : k < w1.heap.size) => Below.heap_alloc w1 (.cells #[.string m0, .string m1] 45) k hk
    exact ⟨(ha1 _ (by have := lt_of_row hr0; omega)).trans ((hb1.block _ (lt_of_row hr0)).trans hr0), (ha1 _ (by have := lt_of_row hr1; omega)).trans ((hb1.block _ (lt_of_row hr1)).trans hr1), (ha1 _ (by have := lt_of_row hr2; omega)).trans ((hb1.block _ (lt_of_row hr2)).trans hr2), fresh_row w1 _ _, (hbw.trans (hb1.mono (by omega))).alloc (by omega) _⟩
  clear hr0 hr1 hr2 hbw hb1
  go_wp2_with fail
  obtain ⟨z, hz⟩ : ∃ z, w1.heap.size = z := ⟨_, rfl⟩
  obtain ⟨W8, hW8⟩ : ∃ W8, w1.alloc (.cells #[.string m0, .string m1] 45) = W8 := ⟨_, rfl⟩
  rw [hz, hW8] at hinv
  try rw [hz]
  try rw [hW8]
  clear hz hW8
  refine wp_region_quiet (C := fun W => SInv w W z a0 a1 b0 b1 key m0 m1) (by kernel_rfl) (by kernel_rfl) (hinv.drewN 1) ?_
  refine BigFrame.wpQuiet_want (by rfl) (fun K hK => q_call (f := 10) (args := #[]) (v := .bool true) (fun W => ?_) (fun W hW => (awake_any W).mono fun e w' ⟨he, hb⟩ => ⟨he, hW.later hb⟩) (hK _ ?_))
  · go_simp
  clear hK K
  simp only [Act.put, List.setIfInBounds_toArray, List.set_cons_zero, List.set_cons_succ]
  refine BigFrame.wpQuiet_want (by rfl) (fun K hK => q_pure (v := .bool false) (fun W => ?_) (hK _ ?_))
  · go_simp
  clear hK K
  simp only [Act.put, List.setIfInBounds_toArray, List.set_cons_zero, List.set_cons_succ]
  go_big_quiet_step (fail)
  refine BigFrame.wpQuiet_want (by rfl) (fun K hK => q_at (v := .agg #[.string a0, .string a1]) (fun W hW => ?_) (hK _ ?_))
  · have c0 := cell_of_row W _ 0 _ _ _ hW.ra
    have c1 := cell_of_row W _ 1 _ _ _ hW.ra
    go_simp
  clear hK K
  simp only [Act.put, List.setIfInBounds_toArray, List.set_cons_zero, List.set_cons_succ]
  refine BigFrame.wpQuiet_want (by rfl) (fun K hK => q_at (v := .string key) (fun W hW => ?_) (hK _ ?_))
  · have c0 := cell_of_row W _ 0 _ _ _ hW.rk
    go_simp
  clear hK K
  simp only [Act.put, List.setIfInBounds_toArray, List.set_cons_zero, List.set_cons_succ]
  refine BigFrame.wpQuiet_want (by rfl) (fun K hK => q_call (f := 22) (args := #[.agg #[.string a0, .string a1], .string key]) (v := .bool true) (fun W => ?_) (fun W hW => (cHa W).mono fun e w' ⟨he, hb⟩ => ⟨he, hW.later hb⟩) (hK _ ?_))
  · go_simp
  clear hK K
  simp only [Act.put, List.setIfInBounds_toArray, List.set_cons_zero, List.set_cons_succ]
  go_big_quiet_step (fail)
  refine BigFrame.wpQuiet_want (by rfl) (fun K hK => q_at (v := .agg #[.string a0, .string a1]) (fun W hW => ?_) (hK _ ?_))
  · have c0 := cell_of_row W _ 0 _ _ _ hW.ra
    have c1 := cell_of_row W _ 1 _ _ _ hW.ra
    go_simp
  clear hK K
  simp only [Act.put, List.setIfInBounds_toArray, List.set_cons_zero, List.set_cons_succ]
  refine BigFrame.wpQuiet_want (by rfl) (fun K hK => q_call (f := 20) (args := #[.agg #[.string a0, .string a1], .pointer (some ⟨w.heap.size + 1 + 1, 0, none⟩)]) (v := .bool true) (fun W => ?_) (fun W hW => (cIa W hW.key).mono fun e w' ⟨he, hb⟩ => ⟨he, hW.later hb⟩) (hK _ ?_))
  · go_simp
  clear hK K
  simp only [Act.put, List.setIfInBounds_toArray, List.set_cons_zero, List.set_cons_succ]
  refine BigFrame.wpQuiet_want (by rfl) (fun K hK => q_pure (v := .bool false) (fun W => ?_) (hK _ ?_))
  · go_simp
  clear hK K
  simp only [Act.put, List.setIfInBounds_toArray, List.set_cons_zero, List.set_cons_succ]
  refine BigFrame.wpQuiet_want (by rfl) (fun K hK => q_pure (v := .bool false) (fun W => ?_) (hK _ ?_))
  · go_simp
  clear hK K
  simp only [Act.put, List.setIfInBounds_toArray, List.set_cons_zero, List.set_cons_succ]
  go_big_quiet_step (fail)
  refine BigFrame.wpQuiet_want (by rfl) (fun K hK => q_at (v := .agg #[.string m0, .string m1]) (fun W hW => ?_) (hK _ ?_))
  · have c0 := cell_of_row W _ 0 _ _ _ hW.rm
    have c1 := cell_of_row W _ 1 _ _ _ hW.rm
    go_simp
  clear hK K
  simp only [Act.put, List.setIfInBounds_toArray, List.set_cons_zero, List.set_cons_succ]
  refine BigFrame.wpQuiet_want (by rfl) (fun K hK => q_at (v := .string key) (fun W hW => ?_) (hK _ ?_))
  · have c0 := cell_of_row W _ 0 _ _ _ hW.rk
    go_simp
  clear hK K
  simp only [Act.put, List.setIfInBounds_toArray, List.set_cons_zero, List.set_cons_succ]
  refine BigFrame.wpQuiet_want (by rfl) (fun K hK => q_call (f := 22) (args := #[.agg #[.string m0, .string m1], .string key]) (v := .bool true) (fun W => ?_) (fun W hW => (cHm W).mono fun e w' ⟨he, hb⟩ => ⟨he, hW.later hb⟩) (hK _ ?_))
  · go_simp
  clear hK K
  simp only [Act.put, List.setIfInBounds_toArray, List.set_cons_zero, List.set_cons_succ]
  go_big_quiet_step (fail)
  refine BigFrame.wpQuiet_want (by rfl) (fun K hK => q_at (v := .agg #[.string a0, .string a1]) (fun W hW => ?_) (hK _ ?_))
  · have c0 := cell_of_row W _ 0 _ _ _ hW.ra
    have c1 := cell_of_row W _ 1 _ _ _ hW.ra
    go_simp
  clear hK K
  simp only [Act.put, List.setIfInBounds_toArray, List.set_cons_zero, List.set_cons_succ]
  refine BigFrame.wpQuiet_want (by rfl) (fun K hK => q_call (f := 20) (args := #[.agg #[.string a0, .string a1], .pointer (some ⟨w.heap.size + 1 + 1, 0, none⟩)]) (v := .bool true) (fun W => ?_) (fun W hW => (cIa W hW.key).mono fun e w' ⟨he, hb⟩ => ⟨he, hW.later hb⟩) (hK _ ?_))
  · go_simp
  clear hK K
  simp only [Act.put, List.setIfInBounds_toArray, List.set_cons_zero, List.set_cons_succ]
  go_big_quiet_step (fail)
  go_big_quiet_step (fail)
  refine BigFrame.wpQuiet_want (by rfl) (fun K hK => q_at (v := .agg #[.string b0, .string b1]) (fun W hW => ?_) (hK _ ?_))
  · have c0 := cell_of_row W _ 0 _ _ _ hW.rb
    have c1 := cell_of_row W _ 1 _ _ _ hW.rb
    go_simp
  clear hK K
  simp only [Act.put, List.setIfInBounds_toArray, List.set_cons_zero, List.set_cons_succ]
  refine BigFrame.wpQuiet_want (by rfl) (fun K hK => q_call (f := 20) (args := #[.agg #[.string b0, .string b1], .pointer (some ⟨w.heap.size + 1 + 1, 0, none⟩)]) (v := .bool true) (fun W => ?_) (fun W hW => (cIb W hW.key).mono fun e w' ⟨he, hb⟩ => ⟨he, hW.later hb⟩) (hK _ ?_))
  · go_simp
  clear hK K
  simp only [Act.put, List.setIfInBounds_toArray, List.set_cons_zero, List.set_cons_succ]
  refine BigFrame.wpQuiet_want (by rfl) (fun K hK => q_pure (v := .bool true) (fun W => ?_) (hK _ ?_))
  · go_simp
  clear hK K
  simp only [Act.put, List.setIfInBounds_toArray, List.set_cons_zero, List.set_cons_succ]
  refine BigFrame.wpQuiet_want (by rfl) (fun K hK => q_pure (v := .bool false) (fun W => ?_) (hK _ ?_))
  · go_simp
  clear hK K
  simp only [Act.put, List.setIfInBounds_toArray, List.set_cons_zero, List.set_cons_succ]
  refine BigFrame.wpQuiet_want (by rfl) (fun K hK => q_pure (v := .bool false) (fun W => ?_) (hK _ ?_))
  · go_simp
  clear hK K
  simp only [Act.put, List.setIfInBounds_toArray, List.set_cons_zero, List.set_cons_succ]
  go_big_quiet_step (fail)
  refine BigFrame.wpQuiet_want (by rfl) (fun K hK => q_at (v := .agg #[.string a0, .string a1]) (fun W hW => ?_) (hK _ ?_))
  · have c0 := cell_of_row W _ 0 _ _ _ hW.ra
    have c1 := cell_of_row W _ 1 _ _ _ hW.ra
    go_simp
  clear hK K
  simp only [Act.put, List.setIfInBounds_toArray, List.set_cons_zero, List.set_cons_succ]
  refine BigFrame.wpQuiet_want (by rfl) (fun K hK => q_call (f := 23) (args := #[.agg #[.string a0, .string a1]]) (v := .bool false) (fun W => ?_) (fun W hW => (cEm W).mono fun e w' ⟨he, hb⟩ => ⟨he, hW.later hb⟩) (hK _ ?_))
  · go_simp
  clear hK K
  simp only [Act.put, List.setIfInBounds_toArray, List.set_cons_zero, List.set_cons_succ]
  go_big_quiet_step (fail)
  go_big_quiet_step (fail)
  go_big_quiet_step (fail)
  go_big_quiet_step (fail)
  refine BigFrame.wpQuiet_want (by rfl) (fun K hK => q_pure (v := .bool false) (fun W => ?_) (hK _ ?_))
  · go_simp
  clear hK K
  simp only [Act.put, List.setIfInBounds_toArray, List.set_cons_zero, List.set_cons_succ]
  refine BigFrame.wpQuiet_want (by rfl) (fun K hK => q_pure (v := .bool false) (fun W => ?_) (hK _ ?_))
  · go_simp
  clear hK K
  simp only [Act.put, List.setIfInBounds_toArray, List.set_cons_zero, List.set_cons_succ]
  go_big_quiet_step (fail)
  refine BigFrame.wpQuiet_want (by rfl) (fun K hK => q_call (f := 24) (args := #[]) (v := .agg #[.string ⟨#[]⟩, .string ⟨#[]⟩]) (fun W => ?_) (fun W hW => (all_any W).mono fun e w' ⟨he, hb⟩ => ⟨he, hW.later hb⟩) (hK _ ?_))
  · go_simp
  clear hK K
  simp only [Act.put, List.setIfInBounds_toArray, List.set_cons_zero, List.set_cons_succ]
  refine BigFrame.wpQuiet_want (by rfl) (fun K hK => q_at (v := .string key) (fun W hW => ?_) (hK _ ?_))
  · have c0 := cell_of_row W _ 0 _ _ _ hW.rk
    go_simp
  clear hK K
  simp only [Act.put, List.setIfInBounds_toArray, List.set_cons_zero, List.set_cons_succ]
  refine BigFrame.wpQuiet_want (by rfl) (fun K hK => q_call (f := 22) (args := #[.agg #[.string ⟨#[]⟩, .string ⟨#[]⟩], .string key]) (v := .bool true) (fun W => ?_) (fun W hW => (cAl W).mono fun e w' ⟨he, hb⟩ => ⟨he, hW.later hb⟩) (hK _ ?_))
  · go_simp
  clear hK K
  simp only [Act.put, List.setIfInBounds_toArray, List.set_cons_zero, List.set_cons_succ]
  refine BigFrame.wpQuiet_want (by rfl) (fun K hK => q_pure (v := .bool false) (fun W => ?_) (hK _ ?_))
  · go_simp
  clear hK K
  simp only [Act.put, List.setIfInBounds_toArray, List.set_cons_zero, List.set_cons_succ]
  refine BigFrame.wpQuiet_want (by rfl) (fun K hK => q_pure (v := .bool false) (fun W => ?_) (hK _ ?_))
  · go_simp
  clear hK K
  simp only [Act.put, List.setIfInBounds_toArray, List.set_cons_zero, List.set_cons_succ]
  refine wpQuiet_nil ?_
  intro w3 hw3
  go_wp2_with fail
  cases he1 : a1.toList.isEmpty with
  | true =>
    refine wp_region_quiet (C := fun W => SInv w W z a0 a1 b0 b1 key m0 m1) (by kernel_rfl) (by kernel_rfl) (hw3.drewN 1) ?_
    refine BigFrame.wpQuiet_want (by rfl) (fun K hK => q_at (v := .agg #[.string a0, .string a1]) (fun W hW => ?_) (hK _ ?_))
    · have c0 := cell_of_row W _ 0 _ _ _ hW.ra
      have c1 := cell_of_row W _ 1 _ _ _ hW.ra
      go_simp
    clear hK K
    simp only [Act.put, List.setIfInBounds_toArray, List.set_cons_zero, List.set_cons_succ]
    refine BigFrame.wpQuiet_want (by rfl) (fun K hK => q_call (f := 23) (args := #[.agg #[.string a0, .string a1]]) (v := .bool false) (fun W => ?_) (fun W hW => (cEm W).mono fun e w' ⟨he, hb⟩ => ⟨he, hW.later hb⟩) (hK _ ?_))
    · go_simp
    clear hK K
    simp only [Act.put, List.setIfInBounds_toArray, List.set_cons_zero, List.set_cons_succ]
    refine BigFrame.wpQuiet_want (by rfl) (fun K hK => q_pure (v := .pointer (some ⟨w.heap.size, 1, none⟩)) (fun W => ?_) (hK _ ?_))
    · go_simp
    clear hK K
    simp only [Act.put, List.setIfInBounds_toArray, List.set_cons_zero, List.set_cons_succ]
    refine BigFrame.wpQuiet_want (by rfl) (fun K hK => q_at (v := .string a1) (fun W hW => ?_) (hK _ ?_))
    · have c1 := cell_of_row W _ 1 _ _ _ hW.ra
      go_simp
    clear hK K
    simp only [Act.put, List.setIfInBounds_toArray, List.set_cons_zero, List.set_cons_succ]
    refine BigFrame.wpQuiet_want (by rfl) (fun K hK => q_pure (v := .bool false) (fun W => ?_) (hK _ ?_))
    · go_simp
    clear hK K
    simp only [Act.put, List.setIfInBounds_toArray, List.set_cons_zero, List.set_cons_succ]
    go_big_quiet_step (fail)
    go_big_quiet_step (fail)
    go_big_quiet_step (fail)
    go_big_quiet_step (fail)
    go_big_quiet_step (fail)
    go_big_quiet_step (fail)
    refine BigFrame.wpQuiet_want (by rfl) (fun K hK => q_pure (v := .bool false) (fun W => ?_) (hK _ ?_))
    · go_simp
    clear hK K
    simp only [Act.put, List.setIfInBounds_toArray, List.set_cons_zero, List.set_cons_succ]
    refine BigFrame.wpQuiet_want (by rfl) (fun K hK => q_pure (v := .bool true) (fun W => ?_) (hK _ ?_))
    · go_simp
    clear hK K
    simp only [Act.put, List.setIfInBounds_toArray, List.set_cons_zero, List.set_cons_succ]
    go_big_quiet_step (fail)
    refine BigFrame.wpQuiet_want (by rfl) (fun K hK => q_at (v := .agg #[.string a0, .string a1]) (fun W hW => ?_) (hK _ ?_))
    · have c0 := cell_of_row W _ 0 _ _ _ hW.ra
      have c1 := cell_of_row W _ 1 _ _ _ hW.ra
      go_simp
    clear hK K
    simp only [Act.put, List.setIfInBounds_toArray, List.set_cons_zero, List.set_cons_succ]
    refine BigFrame.wpQuiet_want (by rfl) (fun K hK => q_call (f := 23) (args := #[.agg #[.string a0, .string a1]]) (v := .bool false) (fun W => ?_) (fun W hW => (cEm W).mono fun e w' ⟨he, hb⟩ => ⟨he, hW.later hb⟩) (hK _ ?_))
    · go_simp
    clear hK K
    simp only [Act.put, List.setIfInBounds_toArray, List.set_cons_zero, List.set_cons_succ]
    go_big_quiet_step (fail)
    refine BigFrame.wpQuiet_want (by rfl) (fun K hK => q_at (v := .agg #[.string a0, .string a1]) (fun W hW => ?_) (hK _ ?_))
    · have c0 := cell_of_row W _ 0 _ _ _ hW.ra
      have c1 := cell_of_row W _ 1 _ _ _ hW.ra
      go_simp
    clear hK K
    simp only [Act.put, List.setIfInBounds_toArray, List.set_cons_zero, List.set_cons_succ]
    refine BigFrame.wpQuiet_want (by rfl) (fun K hK => q_pure (v := .pointer (some ⟨w.heap.size, 0, none⟩)) (fun W => ?_) (hK _ ?_))
    · go_simp
    clear hK K
    simp only [Act.put, List.setIfInBounds_toArray, List.set_cons_zero, List.set_cons_succ]
    refine BigFrame.wpQuiet_want (by rfl) (fun K hK => q_at (v := .string a0) (fun W hW => ?_) (hK _ ?_))
    · have c0 := cell_of_row W _ 0 _ _ _ hW.ra
      go_simp
    clear hK K
    simp only [Act.put, List.setIfInBounds_toArray, List.set_cons_zero, List.set_cons_succ]
    refine BigFrame.wpQuiet_want (by rfl) (fun K hK => q_call (f := 22) (args := #[.agg #[.string a0, .string a1], .string a0]) (v := .bool true) (fun W => ?_) (fun W hW => (cLo W).mono fun e w' ⟨he, hb⟩ => ⟨he, hW.later hb⟩) (hK _ ?_))
    · go_simp
    clear hK K
    simp only [Act.put, List.setIfInBounds_toArray, List.set_cons_zero, List.set_cons_succ]
    refine BigFrame.wpQuiet_want (by rfl) (fun K hK => q_pure (v := .bool true) (fun W => ?_) (hK _ ?_))
    · go_simp
    clear hK K
    simp only [Act.put, List.setIfInBounds_toArray, List.set_cons_zero, List.set_cons_succ]
    refine BigFrame.wpQuiet_want (by rfl) (fun K hK => q_pure (v := .bool true) (fun W => ?_) (hK _ ?_))
    · go_simp
    clear hK K
    simp only [Act.put, List.setIfInBounds_toArray, List.set_cons_zero, List.set_cons_succ]
    go_big_quiet_step (fail)
    refine wpQuiet_nil ?_
    intro w5 hw5
    go_wp2
    go_ret
    exact ⟨rfl, hw5.hb⟩
  | false =>
    have hlq : (Op.bytesLess a1.toList a0.toList || a1.toList == a0.toList) = false := by have h5 := HEM.out; rw [empty_eq, he1] at h5; simpa using h5
    refine wp_region_quiet (C := fun W => SInv w W z a0 a1 b0 b1 key m0 m1) (by kernel_rfl) (by kernel_rfl) (hw3.drewN 1) ?_
    refine BigFrame.wpQuiet_want (by rfl) (fun K hK => q_at (v := .agg #[.string a0, .string a1]) (fun W hW => ?_) (hK _ ?_))
    · have c0 := cell_of_row W _ 0 _ _ _ hW.ra
      have c1 := cell_of_row W _ 1 _ _ _ hW.ra
      go_simp
    clear hK K
    simp only [Act.put, List.setIfInBounds_toArray, List.set_cons_zero, List.set_cons_succ]
    refine BigFrame.wpQuiet_want (by rfl) (fun K hK => q_call (f := 23) (args := #[.agg #[.string a0, .string a1]]) (v := .bool false) (fun W => ?_) (fun W hW => (cEm W).mono fun e w' ⟨he, hb⟩ => ⟨he, hW.later hb⟩) (hK _ ?_))
    · go_simp
    clear hK K
    simp only [Act.put, List.setIfInBounds_toArray, List.set_cons_zero, List.set_cons_succ]
    refine BigFrame.wpQuiet_want (by rfl) (fun K hK => q_pure (v := .pointer (some ⟨w.heap.size, 1, none⟩)) (fun W => ?_) (hK _ ?_))
    · go_simp
    clear hK K
    simp only [Act.put, List.setIfInBounds_toArray, List.set_cons_zero, List.set_cons_succ]
    refine BigFrame.wpQuiet_want (by rfl) (fun K hK => q_at (v := .string a1) (fun W hW => ?_) (hK _ ?_))
    · have c1 := cell_of_row W _ 1 _ _ _ hW.ra
      go_simp
    clear hK K
    simp only [Act.put, List.setIfInBounds_toArray, List.set_cons_zero, List.set_cons_succ]
    refine BigFrame.wpQuiet_want (by rfl) (fun K hK => q_pure (v := .bool true) (fun W => ?_) (hK _ ?_))
    · go_simp
    clear hK K
    simp only [Act.put, List.setIfInBounds_toArray, List.set_cons_zero, List.set_cons_succ]
    go_big_quiet_step (fail)
    refine BigFrame.wpQuiet_want (by rfl) (fun K hK => q_pure (v := .pointer (some ⟨w.heap.size, 1, none⟩)) (fun W => ?_) (hK _ ?_))
    · go_simp
    clear hK K
    simp only [Act.put, List.setIfInBounds_toArray, List.set_cons_zero, List.set_cons_succ]
    refine BigFrame.wpQuiet_want (by rfl) (fun K hK => q_at (v := .string a1) (fun W hW => ?_) (hK _ ?_))
    · have c1 := cell_of_row W _ 1 _ _ _ hW.ra
      go_simp
    clear hK K
    simp only [Act.put, List.setIfInBounds_toArray, List.set_cons_zero, List.set_cons_succ]
    refine BigFrame.wpQuiet_want (by rfl) (fun K hK => q_pure (v := .pointer (some ⟨w.heap.size, 0, none⟩)) (fun W => ?_) (hK _ ?_))
    · go_simp
    clear hK K
    simp only [Act.put, List.setIfInBounds_toArray, List.set_cons_zero, List.set_cons_succ]
    refine BigFrame.wpQuiet_want (by rfl) (fun K hK => q_at (v := .string a0) (fun W hW => ?_) (hK _ ?_))
    · have c0 := cell_of_row W _ 0 _ _ _ hW.ra
      go_simp
    clear hK K
    simp only [Act.put, List.setIfInBounds_toArray, List.set_cons_zero, List.set_cons_succ]
    refine BigFrame.wpQuiet_want (by rfl) (fun K hK => q_pure (v := .bool false) (fun W => ?_) (hK _ ?_))
    · go_simp
    clear hK K
    simp only [Act.put, List.setIfInBounds_toArray, List.set_cons_zero, List.set_cons_succ]
    refine BigFrame.wpQuiet_want (by rfl) (fun K hK => q_pure (v := .bool false) (fun W => ?_) (hK _ ?_))
    · go_simp
    clear hK K
    simp only [Act.put, List.setIfInBounds_toArray, List.set_cons_zero, List.set_cons_succ]
    refine BigFrame.wpQuiet_want (by rfl) (fun K hK => q_pure (v := .bool true) (fun W => ?_) (hK _ ?_))
    · go_simp
    clear hK K
    simp only [Act.put, List.setIfInBounds_toArray, List.set_cons_zero, List.set_cons_succ]
    go_big_quiet_step (fail)
    refine BigFrame.wpQuiet_want (by rfl) (fun K hK => q_at (v := .agg #[.string a0, .string a1]) (fun W hW => ?_) (hK _ ?_))
    · have c0 := cell_of_row W _ 0 _ _ _ hW.ra
      have c1 := cell_of_row W _ 1 _ _ _ hW.ra
      go_simp
    clear hK K
    simp only [Act.put, List.setIfInBounds_toArray, List.set_cons_zero, List.set_cons_succ]
    refine BigFrame.wpQuiet_want (by rfl) (fun K hK => q_call (f := 23) (args := #[.agg #[.string a0, .string a1]]) (v := .bool false) (fun W => ?_) (fun W hW => (cEm W).mono fun e w' ⟨he, hb⟩ => ⟨he, hW.later hb⟩) (hK _ ?_))
    · go_simp
    clear hK K
    simp only [Act.put, List.setIfInBounds_toArray, List.set_cons_zero, List.set_cons_succ]
    go_big_quiet_step (fail)
    refine BigFrame.wpQuiet_want (by rfl) (fun K hK => q_at (v := .agg #[.string a0, .string a1]) (fun W hW => ?_) (hK _ ?_))
    · have c0 := cell_of_row W _ 0 _ _ _ hW.ra
      have c1 := cell_of_row W _ 1 _ _ _ hW.ra
      go_simp
    clear hK K
    simp only [Act.put, List.setIfInBounds_toArray, List.set_cons_zero, List.set_cons_succ]
    refine BigFrame.wpQuiet_want (by rfl) (fun K hK => q_pure (v := .pointer (some ⟨w.heap.size, 0, none⟩)) (fun W => ?_) (hK _ ?_))
    · go_simp
    clear hK K
    simp only [Act.put, List.setIfInBounds_toArray, List.set_cons_zero, List.set_cons_succ]
    refine BigFrame.wpQuiet_want (by rfl) (fun K hK => q_at (v := .string a0) (fun W hW => ?_) (hK _ ?_))
    · have c0 := cell_of_row W _ 0 _ _ _ hW.ra
      go_simp
    clear hK K
    simp only [Act.put, List.setIfInBounds_toArray, List.set_cons_zero, List.set_cons_succ]
    refine BigFrame.wpQuiet_want (by rfl) (fun K hK => q_call (f := 22) (args := #[.agg #[.string a0, .string a1], .string a0]) (v := .bool true) (fun W => ?_) (fun W hW => (cLo W).mono fun e w' ⟨he, hb⟩ => ⟨he, hW.later hb⟩) (hK _ ?_))
    · go_simp
    clear hK K
    simp only [Act.put, List.setIfInBounds_toArray, List.set_cons_zero, List.set_cons_succ]
    refine BigFrame.wpQuiet_want (by rfl) (fun K hK => q_pure (v := .bool true) (fun W => ?_) (hK _ ?_))
    · go_simp
    clear hK K
    simp only [Act.put, List.setIfInBounds_toArray, List.set_cons_zero, List.set_cons_succ]
    refine BigFrame.wpQuiet_want (by rfl) (fun K hK => q_pure (v := .bool true) (fun W => ?_) (hK _ ?_))
    · go_simp
    clear hK K
    simp only [Act.put, List.setIfInBounds_toArray, List.set_cons_zero, List.set_cons_succ]
    go_big_quiet_step (fail)
    refine wpQuiet_nil ?_
    intro w5 hw5
    go_wp2
    go_ret
    exact ⟨rfl, hw5.hb⟩
theorem law_spans (a0 a1 b0 b1 key : ByteArray) (w : World) (ha : a1.size ≤ maxLen) (hb : b1.size ≤ maxLen) : Calls Tryd.prog 6 #[.agg #[.string a0, .string a1], .agg #[.string b0, .string b1], .string key] w fun e w' => e = .returned (.bool true) ∧ Below w.heap.size w w' := by
  cases hem : emptyB a0 a1 with
  | true => exact law_spans_ef a0 a1 b0 b1 key w ha hb (empty_out hem) hem
  | false =>
    cases hia : hasB a0 a1 key with
    | false => exact law_spans_ff a0 a1 b0 b1 key w ha hb hia hem
    | true =>
      cases hib : hasB b0 b1 key with
      | false => exact law_spans_tf a0 a1 b0 b1 key w ha hb hia hib hem
      | true => exact law_spans_tt a0 a1 b0 b1 key w ha hb hia hib hem
end Go.Proofs.YtaacbcnpagpdnaaDoor
