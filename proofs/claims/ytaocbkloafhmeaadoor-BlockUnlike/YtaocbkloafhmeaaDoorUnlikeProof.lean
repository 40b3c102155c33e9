/- BlockUnlike: of any two blocks the law returns true (of other headers the digests are others, unless two unlike texts of one digest are at hand; of one frame the headers are one). No condition; the listed tables are tied to the program's text. -/
import Derived.Test.YtaocbkloafhmeaaDoorRows
import Derived.Test.YtaocbkloafhmeaaDoorCards
import Derived.Test.YtaocbkloafhmeaaDoorTie
import Derived.Test.YtaocbkloafhmeaaDoorUnl
import Derived.Test.YtaocbkloafhmeaaDoorShr
import Derived.Test.YtaocbkloafhmeaaDoorOpn
import Derived.SevenTiedAt
namespace Go.Proofs.YtaocbkloafhmeaaDoor
open Go.ChangeShapes Go.WideShapes Go.ChangeAt Go.WideMaps Go.WideElems Go.RowKit
open Go.ChangeMaps (open_string shut_string)
set_option maxRecDepth 100000 in
theorem blockUnlike_lifted (os : Os) (started : os.Started) (H : Type) (enc : TypeId × Value → H) :
    ReturnsInHanded {} Tryd.checked os 8 .any (fun w args => (Rows.blockUnlikeSpec.pre enc Tryd.prog Tryd.f8 [] false w args ∧ laidMetH Tryd.prog laid3 w) ∧ sizedMet enc Tryd.prog Tryd.f8 (OpenSpec.ofChange Rows.blockUnlikeSpec) false w args)
      (Rows.blockUnlikeSpec.post enc Tryd.prog Tryd.f8 false true false false) := by
  refine returnsInHanded_of_change_and (C := Tryd.checked) (X := fun w _ => laidMetH Tryd.prog laid3 w) (fun _ _ _ hh h => h.of_heap hh) own started (by kernel_rfl) Tryd.func8
    (ChangeSpec.witness_shaped (enc := enc) (C := Tryd.checked) (os := os) (X := fun w _ => laidMetH Tryd.prog laid3 w) false (World.doorLaid Tryd.prog 400 os) #[.agg #[.int .u64 0, .string ByteArray.empty, .int .u64 0, .slice none 0 0], .agg #[.int .u64 0, .string ByteArray.empty, .int .u64 0, .slice none 0 0]] 8 rfl (World.shaped_of_RefB (by kernel_rfl) (by kernel_rfl)) (by kernel_rfl) (by kernel_rfl) (by kernel_rfl) (door_met os _)) ?_
  intro W base args ds gs before hval0 hW _ hwt hL _
  have hval : ∀ (j : Nat) t v, Tryd.f8.params[j]? = some t → args[j]? = some v → Value.okWide Tryd.prog W .any base t v := hval0
  have hW' := hW
  obtain ⟨p, q, hA0, hV, rfl, hfz, hnd⟩ := hW
  have hA : DataW.TrodAll enc Tryd.prog W 0 (fun _ => true) true Tryd.f8.params.toList args.toList ds p := hA0
  rw [Tryd.params8] at hA hval hwt
  obtain ⟨v0, vs0, d0, ds0, p0, q0, hargs, rfl, rfl, h0, r0⟩ := trodAll_cons hA
  obtain ⟨v1, vs1, d1, ds1, p1, q1, rfl, rfl, rfl, h1, r1⟩ := trodAll_cons r0
  obtain ⟨rfl, rfl, rfl⟩ := trodAll_nil r1
  obtain rfl : args = #[v0, v1] := by cases args; simp_all
  obtain ⟨rfl, rfl⟩ := trodVars_none hV
  have h0k := h0
  obtain ⟨X0, a0, c0, e0, rfl, R0, s0, t0, hd0, hl0⟩ := open_block (hval 0 38 v0 rfl rfl) h0
  have le0 := (block_weights hl0 (K := reachBytes) (fun n hn => by rw [← hd0] at hn; have := List.all_eq_true.1 hwt n (DataW.weights_mem_each (j := 0) (t := 38) rfl rfl n hn); simpa using this)).mono (L := 1125899906842624) (by decide)
  have f0 : X0.fit := ⟨s0, t0, Nat.le_trans le0.prev (by omega)⟩
  have h1k := h1
  obtain ⟨X1, a1, c1, e1, rfl, R1, s1, t1, hd1, hl1⟩ := open_block (hval 1 38 v1 rfl rfl) h1
  have le1 := (block_weights hl1 (K := reachBytes) (fun n hn => by rw [← hd1] at hn; have := List.all_eq_true.1 hwt n (DataW.weights_mem_each (j := 1) (t := 38) rfl rfl n hn); simpa using this)).mono (L := 1125899906842624) (by decide)
  have f1 : X1.fit := ⟨s1, t1, Nat.le_trans le1.prev (by omega)⟩
  have hG := of_laid hL
  have hw : 3 ≤ W.heap.size := hG.2.lt
  clear hA0 hval0
  simp only [List.append_nil] at hW'
  have hlt : ∀ x ∈ p0 ++ p1, x.block < W.heap.size := fun x hx => by simpa using hW'.lt x (by simpa using hx)
  refine (unlike_walk X0 f0 a0 c0 X1 f1 a1 c1 W hw hG.1 hG.2 (R0.revs le0) (R1.revs le1)).mono fun e W' ⟨he, hb⟩ => ?_
  subst he
  refine ⟨_, rfl, _, _, _, [], p0 ++ p1, [], hW', ?_, ?_, ?_, hb.frame _, fun h => by cases h⟩
  · exact trodAll_cons_mk (shut_bool Tryd.underlying4 _) trodAll_mk0
  · have hx := trodAll_cons_mk (Below.trod Tryd.laidOut (by kernel_rfl) (of_decide_eq_true (by kernel_rfl)) h0k hb (fun x hx => hlt x (by simp [hx]))) (trodAll_cons_mk (Below.trod Tryd.laidOut (by kernel_rfl) (of_decide_eq_true (by kernel_rfl)) h1k hb (fun x hx => hlt x (by simp [hx]))) (trodAll_mk0))
    simp only [List.append_nil] at hx
    exact hx
  · rfl
theorem blockUnlike_row : Rows.BlockUnlikeSaid :=
  OpenClaim.holds_of_wide 8 Tryd.f8 rfl rfl rfl rfl rfl rfl rfl ⟨rfl, rfl, rfl, rfl, rfl⟩ rfl rfl rfl rfl rfl (by kernel_rfl) Tryd.func8 (by kernel_rfl)
    (of_decide_eq_true (by kernel_rfl)) (by unfold Func.isWrapper; first | (rw [if_pos (by decide +kernel)]; kernel_rfl) | (rw [if_neg (by decide +kernel)]; exact ⟨rfl, rfl⟩))
    (fun os started H enc _ => blockUnlike_lifted os started H enc)
theorem blockUnlike_card : Rows.BlockUnlikeCardSaid :=
  Claim7.holds_tied_plain_at .later [] [.data, .data, .data] true (true, "40e7f1381cee0cbdb89156a3353a0b38242dcd65691eaad4f4cf21263191b3a0") false
    blockUnlike_row (fun _ h => by cases h) (by kernel_rfl) (fun _ h => by cases h) blockUnlike_row_tie rfl ⟨rfl, rfl⟩ (by kernel_rfl) rfl
    (fun f fn hf hfn => by
      obtain rfl : f = 8 := Option.some.inj ((show Tryd.prog.funcNamed "parchment/parchmentlaw09.BlockUnlike" = some 8 by kernel_rfl).symm.trans hf) |>.symm
      obtain rfl : fn = Tryd.f8 := (Option.some.inj (Tryd.func8.symm.trans hfn)).symm
      exact ⟨by kernel_rfl, fun j t ht => by
        rw [Tryd.params8] at ht
        have hm : t ∈ [38, 38] := by simpa using Array.mem_of_getElem? ht
        have hall : ([38, 38].all fun u => !Tryd.prog.wantsStandIn u) = true := by kernel_rfl
        exact (show Tryd.prog.wantsStandIn t = false by simpa using List.all_eq_true.1 hall t hm)⟩)
    (by kernel_rfl)
#print axioms blockUnlike_card
end Go.Proofs.YtaocbkloafhmeaaDoor
