/- BlockFrames, its second form: of any block of bulk at most 1048576 the law returns true (blocks have the document's bytes, without their bodies; those that may be are read again, with the same digest). The listed tables are tied to the program's text. -/
import Derived.Test.YtaocbkloafhmeaaDoorRows
import Derived.Test.YtaocbkloafhmeaaDoorCards
import Derived.Test.YtaocbkloafhmeaaDoorTie
import Derived.Test.YtaocbkloafhmeaaDoorFrs
import Derived.Test.YtaocbkloafhmeaaDoorShr
import Derived.Test.YtaocbkloafhmeaaDoorOpx
import Derived.SevenTiedAt
import Derived.Deep.DeepHandedRow
import Derived.Deep.DeepWitnessRowRef
namespace Go.Proofs.YtaocbkloafhmeaaDoor
open Go.ChangeShapes Go.WideShapes Go.ChangeAt Go.WideMaps Go.WideElems Go.RowKit
open Go.ChangeMaps (open_string shut_string)
theorem frames_reads (os : Os) {H : Type} (enc : TypeId × Value → H) : ∃ ds places, DataW.whole enc Tryd.prog ((World.doorLaid Tryd.prog 400 os).forCall (fun _ _ => 0) ⟨#[], #[.agg #[.int .u64 0, .string ByteArray.empty, .int .u64 0, .slice none 0 0]], []⟩).memory Tryd.f5.params.toList Rows.blockFramesSpec.vars false #[Value.agg #[.int .u64 0, .string ByteArray.empty, .int .u64 0, .slice none 0 0]].toList 8 = some (ds, [], places) ∧ ds = [.agg [.lit (.int .u64 0), .lit (.string []), .lit (.int .u64 0), .nil]] :=
  ⟨_, [], by kernel_rfl, rfl⟩
set_option maxRecDepth 100000 in
theorem blockFrames_lifted (os : Os) (started : os.Started) (H : Type) (enc : TypeId × Value → H) (F : Stop.Interp) :
    ReturnsInHanded {} Tryd.checked os 5 .any ((Rows.OpenSpec.upto Rows.blockFramesSpec).preRow enc Tryd.prog Tryd.f5 Rows.blockFramesUptoRow.domain false Rows.blockFramesUptoRow.laid) (((Rows.OpenSpec.upto Rows.blockFramesSpec).at F).post enc Tryd.prog Tryd.f5 false true false false) := by
  obtain ⟨ds, places, hx, rfl⟩ := frames_reads os enc
  refine returnsInHanded_of_row (C := Tryd.checked) (s := Rows.OpenSpec.upto Rows.blockFramesSpec) own started (by kernel_rfl) Tryd.func5
    (witness_row_at (enc := enc) (C := Tryd.checked) false (World.doorLaid Tryd.prog 400 os) #[.agg #[.int .u64 0, .string ByteArray.empty, .int .u64 0, .slice none 0 0]] rfl (by kernel_rfl) (by kernel_rfl) (by kernel_rfl)
      (OpenSpec.preRow_of_cond 8 hx (by kernel_rfl) (fun k hk => by cases hk; kernel_rfl) (by kernel_rfl) (laidMet_of_run' 8 (by kernel_rfl) (by kernel_rfl)))) ?_
  intro W base args ds gs before hval0 hW _ hcond _ hL _ _
  have hbk0 : Rows.uptoBulkAll (ds ++ gs) ≤ 1048576 := of_decide_eq_true (hcond _ rfl)
  have hval : ∀ (j : Nat) t v, Tryd.f5.params[j]? = some t → args[j]? = some v → Value.okWide Tryd.prog W .any base t v := hval0
  have hW' := hW
  obtain ⟨p, q, hA0, hV, rfl, hfz, hnd⟩ := hW
  have hA : DataW.TrodAll enc Tryd.prog W 0 (fun _ => true) true Tryd.f5.params.toList args.toList ds p := hA0
  rw [Tryd.params5] at hA hval
  obtain ⟨v0, vs0, d0, ds0, p0, q0, hargs, rfl, rfl, h0, r0⟩ := trodAll_cons hA
  obtain ⟨rfl, rfl, rfl⟩ := trodAll_nil r0
  obtain rfl : args = #[v0] := by cases args; simp_all
  obtain ⟨rfl, rfl⟩ := trodVars_none hV
  have h0k := h0
  obtain ⟨X0, a0, c0, e0, rfl, R0, s0, t0, hd0, hl0⟩ := open_block (hval 0 38 v0 rfl rfl) h0
  have le0 := block_bulk hl0 (K := 1048576) (by rw [← hd0]; exact Nat.le_trans (bulk_part (by simp)) hbk0)
  have f0 : X0.fit := ⟨s0, t0, Nat.le_trans le0.le.prev (by omega)⟩
  have hG := of_laid hL
  have hw : 3 ≤ W.heap.size := hG.2.lt
  clear hA0 hval0
  simp only [List.append_nil] at hW'
  have hlt : ∀ x ∈ p0, x.block < W.heap.size := fun x hx => by simpa using hW'.lt x (by simpa using hx)
  refine (frames_walk X0 f0 a0 c0 le0 W hw hG.1 hG.2 (R0.revs (le0.le.mono (by omega)))).mono fun e W' ⟨he, hb⟩ => ?_
  subst he
  refine ⟨_, rfl, _, _, _, [], p0, [], hW', ?_, ?_, ?_, hb.frame _, fun h => by cases h⟩
  · exact trodAll_cons_mk (shut_bool Tryd.underlying4 _) trodAll_mk0
  · have hx := trodAll_cons_mk (Below.trod Tryd.laidOut (by kernel_rfl) (of_decide_eq_true (by kernel_rfl)) h0k hb (fun x hx => hlt x (by simp [hx]))) (trodAll_mk0)
    simp only [List.append_nil] at hx
    exact hx
  · rfl
theorem blockFramesUpto_row : Rows.BlockFramesUptoSaid :=
  OpenClaim.holds_of_cond 5 Tryd.f5 rfl rfl rfl rfl rfl rfl rfl ⟨rfl, rfl, rfl, rfl, rfl⟩ rfl rfl rfl rfl rfl (by kernel_rfl) Tryd.func5 (by kernel_rfl)
    (of_decide_eq_true (by kernel_rfl)) (by unfold Func.isWrapper; first | (rw [if_pos (by decide +kernel)]; kernel_rfl) | (rw [if_neg (by decide +kernel)]; exact ⟨rfl, rfl⟩))
    (fun os started H enc _ F => by rw [OpenClaim.pre_eq_preRow]; exact blockFrames_lifted os started H enc F)
theorem blockFramesUpto_card : Rows.BlockFramesUptoCardSaid :=
  Claim7.holds_tied_plain_at .later [] _ _ _ _
    blockFramesUpto_row (fun _ h => by cases h) (by kernel_rfl) (fun _ h => by cases h) blockFramesUpto_row_tie rfl ⟨rfl, rfl⟩ (by kernel_rfl) rfl
    (fun f fn hf hfn => by
      obtain rfl : f = 5 := Option.some.inj ((show Tryd.prog.funcNamed "parchment/parchmentlaw09.BlockFrames" = some 5 by kernel_rfl).symm.trans hf) |>.symm
      obtain rfl : fn = Tryd.f5 := (Option.some.inj (Tryd.func5.symm.trans hfn)).symm
      exact ⟨by kernel_rfl, fun j t ht => by
        rw [Tryd.params5] at ht
        have hm : t ∈ [38] := by simpa using Array.mem_of_getElem? ht
        have hall : ([38].all fun u => !Tryd.prog.wantsStandIn u) = true := by kernel_rfl
        exact (show Tryd.prog.wantsStandIn t = false by simpa using List.all_eq_true.1 hall t hm)⟩)
    (by kernel_rfl)
#print axioms blockFramesUpto_card
end Go.Proofs.YtaocbkloafhmeaaDoor
