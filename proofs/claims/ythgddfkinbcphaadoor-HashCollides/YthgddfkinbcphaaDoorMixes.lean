/- The law HashMixes as a walk: of any words and any string that fits, with the round numbers laid, the call returns true and nothing that was there has changed. -/
import Derived.Test.YthgddfkinbcphaaDoorMixr
import Derived.Test.YthgddfkinbcphaaDoorAwake
import Derived.WalkKit
import Derived.WalkSpells
import Derived.WalkLawsBesides
import Derived.Deep.QuietTactic
import Derived.BigQuiet
import Derived.Deep.RegionWith
import Derived.Deep.RegionHeld3
import Derived.Deep.DrawnRows
namespace Go.Proofs.YthgddfkinbcphaaDoor
open Go.RowKit
attribute [local go_sem] eq24
def strLen : Value → Nat
  | .string b => b.size
  | _ => 0
structure HInv (w W : World) (h : St) : Prop where
  hh : W.heap[w.heap.size]? = some (.cells (stA h) 24 (0, 0))
  hg : GL W
  hb : Below w.heap.size w W
theorem HInv.later {w W W' : World} {h : St} (H : HInv w W h) (hb : Below W.heap.size W W') : HInv w W' h := by
  have hl := lt_of_row H.hh
  exact ⟨(below_heap hb _ hl).trans H.hh, H.hg.later hb, H.hb.trans (hb.mono (by omega))⟩
theorem HInv.drewN {w W : World} {h : St} (H : HInv w W h) (n : Nat) : HInv w (W.drewN n) h := ⟨H.hh, H.hg, below_drewN H.hb n⟩
def HS (w : World) (h : St) (W : World) : Prop :=
  W.cell? ⟨w.heap.size, 0, none⟩ = some (.int .u32 (n32 h.a)) ∧ W.cell? ⟨w.heap.size, 1, none⟩ = some (.int .u32 (n32 h.b)) ∧ W.cell? ⟨w.heap.size, 2, none⟩ = some (.int .u32 (n32 h.c)) ∧ W.cell? ⟨w.heap.size, 3, none⟩ = some (.int .u32 (n32 h.d)) ∧ W.cell? ⟨w.heap.size, 4, none⟩ = some (.int .u32 (n32 h.e)) ∧ W.cell? ⟨w.heap.size, 5, none⟩ = some (.int .u32 (n32 h.f)) ∧ W.cell? ⟨w.heap.size, 6, none⟩ = some (.int .u32 (n32 h.g)) ∧ W.cell? ⟨w.heap.size, 7, none⟩ = some (.int .u32 (n32 h.k)) ∧ HInv w W h
theorem HS_of {w W : World} {h : St} (H : HInv w W h) : HS w h W := by
  obtain ⟨⟨c0, c1, c2, c3, c4, c5, c6, c7⟩, _⟩ := eight H.hh
  exact ⟨c0, c1, c2, c3, c4, c5, c6, c7, H⟩
theorem HS_later {w W W' : World} {h : St} (H : HInv w W h) (hb : Below W.heap.size W W') : HS w h W' := HS_of (H.later hb)
theorem q_pure {P : Program} {o : Oper} {a : Act} {C : World → Prop} {K : Act → Prop} {v : Value} (hrun : ∀ W, (execOp a.eval o).run P W = .ok (.value v) W) (hk : K (a.put o.dst v)) : o.quiet P a C K :=
  ⟨v, fun W _ => by unfold Oper.quietAt; rw [hrun W]; exact ⟨rfl, rfl⟩, hk⟩
theorem q_call {P : Program} {o : Oper} {a : Act} {C : World → Prop} {K : Act → Prop} {v : Value} {f : FuncId} {args : Array Value} (hrun : ∀ W, (execOp a.eval o).run P W = .ok (.enter f args) W)
    (hc : ∀ W, C W → Calls P f args W fun e w' => e = .returned v ∧ C w') (hk : K (a.put o.dst v)) : o.quiet P a C K :=
  ⟨v, fun W hW => by unfold Oper.quietAt; rw [hrun W]; exact ⟨rfl, hc W hW⟩, hk⟩
theorem q_load {P : Program} {o : Oper} {a : Act} {C : World → Prop} {K : Act → Prop} (ty : TypeId) (x : Operand) (ho : o.op = .load ty x) (g : Nat) (hx : a.eval x = .pointer (some ⟨g, 0, none⟩)) (t : TypeId) (cs : Array Value) (fr : Nat × Nat) (d : TypeDesc)
    (hg : ∀ W, C W → W.heap[g]? = some (.cells cs t fr)) (hu : P.underlying ty = some d) (hd : (match d with | .struct _ | .array _ _ => true | _ => false) = true) (hi : (P.info? ty).map (·.size) = some cs.size) (hk : K (a.put o.dst (.agg cs))) : o.quiet P a C K :=
  ⟨.agg cs, fun W hW => by
    unfold Oper.quietAt execOp
    simp only [ho, hx, Instr.loadAt, Instr.sureAddr, Sem.run_bind, Sem.run_pure, Result.andThen_ok, run_loadVar_row W g t ty cs fr d (hg W hW) hu hd hi]
    exact ⟨rfl, rfl⟩, hk⟩
theorem size_snoc0 (b : ByteArray) : (b ++ ⟨#[0]⟩ : ByteArray).size = b.size + 1 := by
  rw [ByteArray.size_append]; rfl
set_option maxHeartbeats 1000000 in
theorem mixes_walk (h : St) (s : ByteArray) (w : World) (hG : GL w) (hs : s.size ≤ maxLen) :
    Calls Tryd.prog 3 #[.agg (stA h), .string s] w fun e w' => e = .returned (.bool true) ∧ Below w.heap.size w w' := by
  have hf := fewS_size s
  have inv0 : HInv w (w.alloc (.cells (stA h) 24)) h := ⟨heap_alloc_new _ _, hG.later ((Below.refl _ _).alloc (Nat.le_refl _) _), (Below.refl _ _).alloc (Nat.le_refl _) _⟩
  go_enter Tryd.func3, Tryd.ntmps3
  go_wp2_with fail
  refine (few_any s _ hs).mono ?_
  rintro e w1 ⟨rfl, rfl⟩
  obtain ⟨t, ht⟩ : ∃ t, fewS s = t := ⟨_, rfl⟩
  rw [ht] at hf ⊢
  clear ht
  obtain ⟨W, hW⟩ : ∃ W, w.alloc (.cells (stA h) 24) = W := ⟨_, rfl⟩
  rw [hW] at inv0 ⊢
  clear hW
  go_wp2_with fail
  go_loopw [6] (fun v wr => ∃ b : ByteArray, b.size ≤ 400 ∧ v = .string b ∧ wr = W) (fun v _ => 64 - strLen v)
  case atStart => exact ⟨t, hf, rfl, rfl⟩
  case round =>
    obtain ⟨b, hb, rfl, rfl⟩ := hrel
    by_cases hlt : b.size < 64
    · have hlt' : (b.size : Int) < 64 := by omega
      go_wp2
      go_roundw
      case rel => exact ⟨b ++ ⟨#[0]⟩, by rw [size_snoc0]; omega, rfl, by trivial⟩
      case measure =>
        show 64 - (b ++ ⟨#[0]⟩ : ByteArray).size < 64 - b.size
        rw [size_snoc0]; omega
    · have hlt' : ¬ (b.size : Int) < 64 := by omega
      have b0 : (64 : Int) ≤ (b.size : Int) := by omega
      have hx : (b.extract 0 64).size = 64 := by simp; omega
      obtain ⟨x, hxe⟩ : ∃ x, b.extract 0 64 = x := ⟨_, rfl⟩
      obtain ⟨⟨c0, c1, c2, c3, c4, c5, c6, c7⟩, _⟩ := eight inv0.hh
      go_wp2_with fail
      rw [hxe] at hx
      obtain ⟨M, hM⟩ : ∃ M, mixB h x.data.toList = M := ⟨_, rfl⟩
      have HM : Hid (mixB h x.data.toList = M) := hM
      have HX : Hid (x.size = 64) := hx
      clear hM hxe hx
      clear c0 c1 c2 c3 c4 c5 c6 c7
      by_cases ht : t.size = 64
      · have htb : ((64 : Int) == 64) = true := rfl
        refine wp_region_quiet (C := fun W => HInv w W h) (by kernel_rfl) (by kernel_rfl) (inv0.drewN 1) ?_
        refine BigFrame.wpQuiet_want (by rfl) (fun K hK => q_call (f := 9) (args := #[]) (v := .bool true) (fun W => ?_) (fun W hW => (awake_any W hW.hg).mono fun e w' ⟨he, hb⟩ => ⟨he, hW.later hb⟩) (hK _ ?_))
        · go_simp
        simp only [Act.put, List.setIfInBounds_toArray, List.set_cons_zero, List.set_cons_succ]
        go_big_quiet_step (fail)
        refine BigFrame.wpQuiet_want (by rfl) (fun K hK => q_load 24 (.tmp 2) rfl w.heap.size rfl 24 (stA h) (0, 0) _ (fun W hW => hW.hh) Tryd.underlying24 rfl info24 (hK _ ?_))
        simp only [Act.put, List.setIfInBounds_toArray, List.set_cons_zero, List.set_cons_succ]
        go_big_quiet_step (fail)
        refine BigFrame.wpQuiet_want (by rfl) (fun K hK => q_call (f := 10) (args := #[.agg (stA h), .string x]) (v := .agg (stA M)) (fun W => ?_) (fun W hW => (mix_any h x W hW.hg).mono fun e w' ⟨he, hb⟩ => ⟨by rw [he, HM.out], hW.later hb⟩) (hK _ ?_))
        · go_simp
        simp only [Act.put, List.setIfInBounds_toArray, List.set_cons_zero, List.set_cons_succ]
        refine BigFrame.wpQuiet_want (by rfl) (fun K hK => q_load 24 (.tmp 2) rfl w.heap.size rfl 24 (stA h) (0, 0) _ (fun W hW => hW.hh) Tryd.underlying24 rfl info24 (hK _ ?_))
        simp only [Act.put, List.setIfInBounds_toArray, List.set_cons_zero, List.set_cons_succ]
        go_big_quiet_step (fail)
        refine BigFrame.wpQuiet_want (by rfl) (fun K hK => q_call (f := 11) (args := #[.agg (stA h), .string x]) (v := .agg (stA M)) (fun W => ?_) (fun W hW => (rmix_64 h x HX.out W).mono fun e w' ⟨he, hb⟩ => ⟨by rw [he, HM.out], hW.later hb⟩) (hK _ ?_))
        · go_simp
        simp only [Act.put, List.setIfInBounds_toArray, List.set_cons_zero, List.set_cons_succ]
        refine BigFrame.wpQuiet_want (by rfl) (fun K hK => q_pure (v := .bool true) (fun W => ?_) (hK _ ?_))
        · go_simp
        simp only [Act.put, List.setIfInBounds_toArray, List.set_cons_zero, List.set_cons_succ]
        refine BigFrame.wpQuiet_want (by rfl) (fun K hK => q_pure (v := .bool true) (fun W => ?_) (hK _ ?_))
        · go_simp
        simp only [Act.put, List.setIfInBounds_toArray, List.set_cons_zero, List.set_cons_succ]
        go_big_quiet_step (fail)
        go_big_quiet_step (fail)
        refine BigFrame.wpQuiet_want (by rfl) (fun K hK => q_pure (v := .int .i64 64) (fun W => ?_) (hK _ ?_))
        · go_simp
        simp only [Act.put, List.setIfInBounds_toArray, List.set_cons_zero, List.set_cons_succ]
        refine BigFrame.wpQuiet_want (by rfl) (fun K hK => q_pure (v := .bool true) (fun W => ?_) (hK _ ?_))
        · go_simp
        simp only [Act.put, List.setIfInBounds_toArray, List.set_cons_zero, List.set_cons_succ]
        go_big_quiet_step (fail)
        go_big_quiet_step (fail)
        go_big_quiet_step (fail)
        go_big_quiet_step (fail)
        go_big_quiet_step (fail)
        go_big_quiet_step (fail)
        refine BigFrame.wpQuiet_want (by rfl) (fun K hK => q_pure (v := .bool true) (fun W => ?_) (hK _ ?_))
        · go_simp
        simp only [Act.put, List.setIfInBounds_toArray, List.set_cons_zero, List.set_cons_succ]
        refine BigFrame.wpQuiet_want (by rfl) (fun K hK => q_pure (v := .bool true) (fun W => ?_) (hK _ ?_))
        · go_simp
        simp only [Act.put, List.setIfInBounds_toArray, List.set_cons_zero, List.set_cons_succ]
        go_big_quiet_step (fail)
        refine wpQuiet_nil ?_
        intro w' hw'
        go_wp2
        go_ret
        exact ⟨rfl, hw'.hb⟩
      · have htb : ((t.size : Int) == 64) = false := by simp; omega
        have htn : ((t.size : Int) != 64) = true := by simp; omega
        refine wp_region_quiet (C := fun W => HInv w W h) (by kernel_rfl) (by kernel_rfl) (inv0.drewN 1) ?_
        refine BigFrame.wpQuiet_want (by rfl) (fun K hK => q_call (f := 9) (args := #[]) (v := .bool true) (fun W => ?_) (fun W hW => (awake_any W hW.hg).mono fun e w' ⟨he, hb⟩ => ⟨he, hW.later hb⟩) (hK _ ?_))
        · go_simp
        simp only [Act.put, List.setIfInBounds_toArray, List.set_cons_zero, List.set_cons_succ]
        go_big_quiet_step (fail)
        refine BigFrame.wpQuiet_want (by rfl) (fun K hK => q_load 24 (.tmp 2) rfl w.heap.size rfl 24 (stA h) (0, 0) _ (fun W hW => hW.hh) Tryd.underlying24 rfl info24 (hK _ ?_))
        simp only [Act.put, List.setIfInBounds_toArray, List.set_cons_zero, List.set_cons_succ]
        go_big_quiet_step (fail)
        refine BigFrame.wpQuiet_want (by rfl) (fun K hK => q_call (f := 10) (args := #[.agg (stA h), .string x]) (v := .agg (stA M)) (fun W => ?_) (fun W hW => (mix_any h x W hW.hg).mono fun e w' ⟨he, hb⟩ => ⟨by rw [he, HM.out], hW.later hb⟩) (hK _ ?_))
        · go_simp
        simp only [Act.put, List.setIfInBounds_toArray, List.set_cons_zero, List.set_cons_succ]
        refine BigFrame.wpQuiet_want (by rfl) (fun K hK => q_load 24 (.tmp 2) rfl w.heap.size rfl 24 (stA h) (0, 0) _ (fun W hW => hW.hh) Tryd.underlying24 rfl info24 (hK _ ?_))
        simp only [Act.put, List.setIfInBounds_toArray, List.set_cons_zero, List.set_cons_succ]
        go_big_quiet_step (fail)
        refine BigFrame.wpQuiet_want (by rfl) (fun K hK => q_call (f := 11) (args := #[.agg (stA h), .string x]) (v := .agg (stA M)) (fun W => ?_) (fun W hW => (rmix_64 h x HX.out W).mono fun e w' ⟨he, hb⟩ => ⟨by rw [he, HM.out], hW.later hb⟩) (hK _ ?_))
        · go_simp
        simp only [Act.put, List.setIfInBounds_toArray, List.set_cons_zero, List.set_cons_succ]
        refine BigFrame.wpQuiet_want (by rfl) (fun K hK => q_pure (v := .bool true) (fun W => ?_) (hK _ ?_))
        · go_simp
        simp only [Act.put, List.setIfInBounds_toArray, List.set_cons_zero, List.set_cons_succ]
        refine BigFrame.wpQuiet_want (by rfl) (fun K hK => q_pure (v := .bool true) (fun W => ?_) (hK _ ?_))
        · go_simp
        simp only [Act.put, List.setIfInBounds_toArray, List.set_cons_zero, List.set_cons_succ]
        go_big_quiet_step (fail)
        go_big_quiet_step (fail)
        refine BigFrame.wpQuiet_want (by rfl) (fun K hK => q_pure (v := .int .i64 t.size) (fun W => ?_) (hK _ ?_))
        · go_simp
        simp only [Act.put, List.setIfInBounds_toArray, List.set_cons_zero, List.set_cons_succ]
        refine BigFrame.wpQuiet_want (by rfl) (fun K hK => q_pure (v := .bool false) (fun W => ?_) (hK _ ?_))
        · go_simp
        simp only [Act.put, List.setIfInBounds_toArray, List.set_cons_zero, List.set_cons_succ]
        go_big_quiet_step (fail)
        refine BigFrame.wpQuiet_want (by rfl) (fun K hK => q_load 24 (.tmp 2) rfl w.heap.size rfl 24 (stA h) (0, 0) _ (fun W hW => hW.hh) Tryd.underlying24 rfl info24 (hK _ ?_))
        simp only [Act.put, List.setIfInBounds_toArray, List.set_cons_zero, List.set_cons_succ]
        go_big_quiet_step (fail)
        refine BigFrame.wpQuiet_want (by rfl) (fun K hK => q_call (f := 10) (args := #[.agg (stA h), .string t]) (v := .agg (stA h)) (fun W => ?_) (fun W hW => (mix_no h t htn W).mono fun e w' ⟨he, hb⟩ => ⟨he, hW.later hb⟩) (hK _ ?_))
        · go_simp
        simp only [Act.put, List.setIfInBounds_toArray, List.set_cons_zero, List.set_cons_succ]
        refine BigFrame.wpQuiet_want (by rfl) (fun K hK => q_load 24 (.tmp 2) rfl w.heap.size rfl 24 (stA h) (0, 0) _ (fun W hW => hW.hh) Tryd.underlying24 rfl info24 (hK _ ?_))
        simp only [Act.put, List.setIfInBounds_toArray, List.set_cons_zero, List.set_cons_succ]
        refine BigFrame.wpQuiet_want (by rfl) (fun K hK => q_pure (v := .bool true) (fun W => ?_) (hK _ ?_))
        · go_simp
        simp only [Act.put, List.setIfInBounds_toArray, List.set_cons_zero, List.set_cons_succ]
        refine BigFrame.wpQuiet_want (by rfl) (fun K hK => q_pure (v := .bool true) (fun W => ?_) (hK _ ?_))
        · go_simp
        simp only [Act.put, List.setIfInBounds_toArray, List.set_cons_zero, List.set_cons_succ]
        refine BigFrame.wpQuiet_want (by rfl) (fun K hK => q_pure (v := .bool true) (fun W => ?_) (hK _ ?_))
        · go_simp
        simp only [Act.put, List.setIfInBounds_toArray, List.set_cons_zero, List.set_cons_succ]
        go_big_quiet_step (fail)
        refine wpQuiet_nil ?_
        intro w' hw'
        go_wp2
        go_ret
        exact ⟨rfl, hw'.hb⟩
end Go.Proofs.YthgddfkinbcphaaDoor
