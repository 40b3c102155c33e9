/- The law HashStarts as a walk: of any string that fits, with the round numbers laid as the text lays them, the call returns true and nothing that was there has changed. -/
import Derived.Test.YthgddfkinbcphaaDoorMixh
import Derived.WalkKit
import Derived.WalkSpells
import Derived.WalkLawsBesides
import Derived.Deep.QuietTactic
import Derived.BigQuiet
import Derived.Deep.RegionWith
import Derived.Deep.RegionHeld3
namespace Go.Proofs.YthgddfkinbcphaaDoor
open Go.RowKit
def fewS (s : ByteArray) : ByteArray := if 400 < s.size then s.extract 0 400 else s
theorem fewS_size (s : ByteArray) : (fewS s).size ≤ 400 := by
  unfold fewS
  split
  · simp; omega
  · omega
set_option maxHeartbeats 400000 in
theorem few_any (s : ByteArray) (w : World) (hs : s.size ≤ maxLen) :
    Calls Tryd.prog 8 #[.string s] w fun e w' => e = .returned (.string (fewS s)) ∧ w' = w := by
  unfold maxLen at hs
  by_cases h : 400 < s.size
  · have e : fewS s = s.extract 0 400 := if_pos h
    have h1 : (400 : Int) < (s.size : Int) := by omega
    rw [e]
    go_enter Tryd.func8, Tryd.ntmps8
    go_wp2
    go_ret
    exact ⟨rfl, rfl⟩
  · have e : fewS s = s := if_neg h
    have h1 : ¬ (400 : Int) < (s.size : Int) := by omega
    rw [e]
    go_enter Tryd.func8, Tryd.ntmps8
    go_wp2
    go_ret
    exact ⟨rfl, rfl⟩
theorem mix_any (h : St) (s : ByteArray) (w : World) (hG : GL w) :
    Calls Tryd.prog 10 #[.agg (stA h), .string s] w fun e w' => e = .returned (.agg (stA (mixB h s.data.toList))) ∧ Below w.heap.size w w' := by
  by_cases hs : s.size = 64
  · exact mix_64 h s hs w hG
  · refine (mix_no h s (by simp; omega) w).mono ?_
    rintro e w' ⟨rfl, hb⟩
    refine ⟨?_, hb⟩
    unfold mixB
    rw [if_neg (by simpa using hs)]
theorem eq24 (a0 a1 a2 a3 a4 a5 a6 a7 : Int) (w : World) : (Op.equalIn 10000 24 (.agg #[.int .u32 a0, .int .u32 a1, .int .u32 a2, .int .u32 a3, .int .u32 a4, .int .u32 a5, .int .u32 a6, .int .u32 a7]) (.agg #[.int .u32 a0, .int .u32 a1, .int .u32 a2, .int .u32 a3, .int .u32 a4, .int .u32 a5, .int .u32 a6, .int .u32 a7])).run Tryd.prog w = .ok true w := by
  have u3 := Tryd.underlying22
  have a3 := Tryd.isAgg22
  have z3 := Tryd.sizeOf22
  rw [show (10000 : Nat) = 9999 + 1 from rfl, Op.equalIn]
  simp only [Sem.run_bind, run_underlying Tryd.underlying24, Result.andThen_ok]
  simp only [Std.Legacy.Range.forIn_eq_forIn_range', Std.Legacy.Range.size, Nat.sub_zero, Nat.add_sub_cancel, Nat.div_one, List.range'_succ, List.range'_zero, List.forIn_cons, List.forIn_nil]
  go_simp
abbrev startV : Value := .agg #[.int .u32 1779033703, .int .u32 3144134277, .int .u32 1013904242, .int .u32 2773480762, .int .u32 1359893119, .int .u32 2600822924, .int .u32 528734635, .int .u32 1541459225]
theorem startV_eq : startV = .agg (stA startB) := rfl
theorem mix_start (s : ByteArray) (w : World) (hG : GL w) :
    Calls Tryd.prog 10 #[startV, .string s] w fun e w' => e = .returned (.agg (stA (mixB startB s.data.toList))) ∧ Below w.heap.size w w' := mix_any startB s w hG
attribute [local go_sem] eq24
set_option maxHeartbeats 400000 in
theorem starts_walk (s : ByteArray) (w : World) (hG : GL w) (hs : s.size ≤ maxLen) :
    Calls Tryd.prog 4 #[.string s] w fun e w' => e = .returned (.bool true) ∧ Below w.heap.size w w' := by
  have hf := fewS_size s
  go_enter Tryd.func4, Tryd.ntmps4
  go_wp2_with fail
  refine (start_any _).mono ?_
  rintro e w1 ⟨rfl, hb1⟩
  go_wp2_with fail
  refine (rstart_any _).mono ?_
  rintro e w2 ⟨rfl, hb2⟩
  go_wp2_with fail
  refine (start_any _).mono ?_
  rintro e w3 ⟨rfl, hb3⟩
  go_wp2_with fail
  refine (few_any s _ hs).mono ?_
  rintro e w4 ⟨rfl, rfl⟩
  go_wp2_with fail
  refine (mix_start _ _ ?_).mono ?_
  · exact ((hG.later hb1).later hb2).later hb3
  rintro e w5 ⟨rfl, hb5⟩
  obtain ⟨M, hM⟩ : ∃ M, mixB startB (fewS s ++ (⟨#[120]⟩ : ByteArray)).data.toList = M := ⟨_, rfl⟩
  rw [hM]
  have HM : Hid (mixB startB (fewS s ++ (⟨#[120]⟩ : ByteArray)).data.toList = M) := hM
  clear hM
  go_wp2_with fail
  refine (rstart_any _).mono ?_
  rintro e w6 ⟨rfl, hb6⟩
  go_wp2_with fail
  refine (few_any s _ hs).mono ?_
  rintro e w7 ⟨rfl, rfl⟩
  go_wp2_with fail
  refine (mix_start _ _ ?_).mono ?_
  · exact ((((hG.later hb1).later hb2).later hb3).later hb5).later hb6
  rintro e w8 ⟨rfl, hb8⟩
  rw [HM.out]
  go_wp2
  go_ret
  have g1 := hb1.size
  have g2 := hb2.size
  have g3 := hb3.size
  have g5 := hb5.size
  have g6 := hb6.size
  exact ⟨rfl, hb1.trans ((hb2.mono (by omega)).trans ((hb3.mono (by omega)).trans ((hb5.mono (by omega)).trans ((hb6.mono (by omega)).trans (hb8.mono (by omega))))))⟩
end Go.Proofs.YthgddfkinbcphaaDoor
