/- The law HashStarts as a walk: of any string that fits, with the round numbers laid as the text lays them, the call returns true and nothing that was there has changed. -/
import Derived.Test.YtjamahpccblkiabDoorMixh
import Derived.WalkKit
import Derived.WalkSpells
import Derived.WalkLawsBesides
import Derived.Deep.QuietTactic
import Derived.BigQuiet
import Derived.Deep.RegionWith
import Derived.Deep.RegionHeld3
namespace Go.Proofs.YtjamahpccblkiabDoor
open Go.RowKit
def fewS (s : ByteArray) : ByteArray := if 400 < s.size then s.extract 0 400 else s
theorem fewS_size (s : ByteArray) : (fewS s).size ≤ 400 := by
  unfold fewS
  split
  · simp; omega
  · omega
theorem mix_any (h : St) (s : ByteArray) (w : World) (hG : GL w) :
    Calls Tryd.prog 33 #[.agg (stA h), .string s] w fun e w' => e = .returned (.agg (stA (mixB h s.data.toList))) ∧ Below w.heap.size w w' := by
  by_cases hs : s.size = 64
  · exact mix_64 h s hs w hG
  · refine (mix_no h s (by simp; omega) w).mono ?_
    rintro e w' ⟨rfl, hb⟩
    refine ⟨?_, hb⟩
    unfold mixB
    rw [if_neg (by simpa using hs)]
theorem eq24 (a0 a1 a2 a3 a4 a5 a6 a7 : Int) (w : World) : (Op.equalIn 10000 61 (.agg #[.int .u32 a0, .int .u32 a1, .int .u32 a2, .int .u32 a3, .int .u32 a4, .int .u32 a5, .int .u32 a6, .int .u32 a7]) (.agg #[.int .u32 a0, .int .u32 a1, .int .u32 a2, .int .u32 a3, .int .u32 a4, .int .u32 a5, .int .u32 a6, .int .u32 a7])).run Tryd.prog w = .ok true w := by
  have u3 := Tryd.underlying57
  have a3 := Tryd.isAgg57
  have z3 := Tryd.sizeOf57
  rw [show (10000 : Nat) = 9999 + 1 from rfl, Op.equalIn]
  simp only [Sem.run_bind, run_underlying Tryd.underlying61, Result.andThen_ok]
  simp only [Std.Legacy.Range.forIn_eq_forIn_range', Std.Legacy.Range.size, Nat.sub_zero, Nat.add_sub_cancel, Nat.div_one, List.range'_succ, List.range'_zero, List.forIn_cons, List.forIn_nil]
  go_simp
abbrev startV : Value := .agg #[.int .u32 1779033703, .int .u32 3144134277, .int .u32 1013904242, .int .u32 2773480762, .int .u32 1359893119, .int .u32 2600822924, .int .u32 528734635, .int .u32 1541459225]
theorem startV_eq : startV = .agg (stA startB) := rfl
theorem mix_start (s : ByteArray) (w : World) (hG : GL w) :
    Calls Tryd.prog 33 #[startV, .string s] w fun e w' => e = .returned (.agg (stA (mixB startB s.data.toList))) ∧ Below w.heap.size w w' := mix_any startB s w hG
attribute [local go_sem] eq24
end Go.Proofs.YtjamahpccblkiabDoor
