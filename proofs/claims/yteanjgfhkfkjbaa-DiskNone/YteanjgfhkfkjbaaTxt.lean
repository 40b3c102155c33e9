/- The laws' text: so many bytes of one kind. -/
import Derived.Test.YteanjgfhkfkjbaaDk5
namespace Go.Proofs.Yteanjgfhkfkjbaa
open Go.RowKit
def repB (c : UInt8) (n : Nat) : ByteArray := ⟨(List.replicate n c).toArray⟩
theorem repB_size (c : UInt8) (n : Nat) : (repB c n).size = n := by
  show (List.replicate n c).toArray.size = n
  simp
theorem repB_cells (c : UInt8) (n : Nat) : Lib.strCells (repB c n) = List.replicate n (.int .u8 (c.toNat : Int)) := by
  unfold Lib.strCells repB
  simp
theorem intOf_i64 (x : Int) : intOf (.int .i64 x) = x := rfl
theorem rep_snoc (x : Value) (n : Nat) : List.replicate n x ++ [x] = List.replicate (n + 1) x := by
  rw [← List.replicate_succ']
set_option maxRecDepth 20000 in
set_option maxHeartbeats 4000000 in
theorem text_any (c : UInt8) (n : Nat) (hn : n ≤ 1000) (h0 : 0 < n) (w : World) :
    Calls Try.prog 15 #[.int .u8 (c.toNat : Int), .int .i64 (n : Int)] w fun e w' => e = .returned (.string (repB c n)) ∧ Below w.heap.size w w' := by
  obtain ⟨i5, hi, hz0, hz1, hz2⟩ := info_parts info5
  go_enter Try.func15, Try.ntmps15
  go_wp2_with fail
  go_loopw [5, 6] (fun vb vi wr => ∃ i : Nat, i ≤ n ∧ vi = .int .i64 (i : Int) ∧ wr.ownsRow w.heap.size 5 1 vb i (List.replicate i (.int .u8 (c.toNat : Int))) ∧ Below w.heap.size w wr) (fun _ vi _ => n - (intOf vi).toNat)
  case atStart => exact ⟨0, Nat.zero_le _, rfl, World.ownsRow_made w #[] 0 (Nat.le_refl _) (by unfold maxLen; omega) rfl, (Below.refl _ _).alloc (Nat.le_refl _) _⟩
  case round =>
    obtain ⟨i, hin, rfl, hown, hbl⟩ := hrel
    have hsz := hbl.size
    by_cases hlt : i < n
    · have hlt' : (i : Int) < (n : Int) := by omega
      go_wp2_with (at_builtin; refine wpList_append_lies _ (by rfl) (.tmp 13) (.tmp 15) 81 (by rfl) w.heap.size 5 i5 _ 1 1 Try.underlying81 hi hz0 hz1 hz2 (by rfl) (by decide) u5 i _ (by rfl) (hown.alloc _) ⟨wr.heap.size, 0, none⟩ 1 1 [.int .u8 (c.toNat : Int)] (by rfl) (by rfl) (World.news_of_block (heap_alloc_new wr _)) (by simp [Value.oneCell']) (by decide) (by unfold maxLen; omega) (by omega) (by simp; omega) _ rfl ?_; intro g6 cap6 w6 hown6 hgr6 hat6 hlt6)
      go_roundw
      case rel =>
        refine ⟨i + 1, by omega, by go_num, ?_, (hbl.alloc hsz _).grown hgr6 (by simp; omega) (fun k hk => (hown.lt k hk).1)⟩
        rw [← rep_snoc]
        exact hown6
      case measure =>
        show n - (intOf (.int .i64 ((i : Int) + 1))).toNat < n - (intOf (.int .i64 (i : Int))).toNat
        simp only [intOf_i64]
        omega
    · have hlt' : ¬ (i : Int) < (n : Int) := by omega
      have hin' : i = n := by omega
      subst hin'
      rw [← repB_cells] at hown
      obtain ⟨g, cap, rfl, h1, h2, h3, h4⟩ := own_cell hown h0
      have hcv : (convert 81 9 (.slice (some ⟨g, 0, none⟩) i cap)).run Try.prog wr = .ok (.string (repB c i)) wr := by
        have := Lib.run_convert_whole (P := Try.prog) wr 81 5 9 Try.underlying81 Try.underlying5 Try.underlying9 g 0 (repB c i) (fun j hj => by
          rw [Nat.zero_add]
          refine h4 j _ ?_
          unfold Lib.strCells
          rw [List.getElem?_map, byte_at (repB c i) j hj]
          rfl) cap
        rw [repB_size] at this
        exact this
      go_wp2
      go_ret
      exact ⟨rfl, hbl⟩
end Go.Proofs.Yteanjgfhkfkjbaa
