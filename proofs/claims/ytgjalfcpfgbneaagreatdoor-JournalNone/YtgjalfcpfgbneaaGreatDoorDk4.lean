/- Read of a file that is there, called. -/
import Derived.Test.YtgjalfcpfgbneaaGreatDoorDk3
import Derived.Lib.SlBytesRow
namespace Go.Proofs.YtgjalfcpfgbneaaGreatDoor
open Go.RowKit
theorem own_cell {w : World} {base : Nat} {e : TypeId} {v : Value} {n : Nat} {xs : List Value} (h : w.ownsRow base e 1 v n xs) (hn : 0 < n) :
    ∃ g cap, v = .slice (some ⟨g, 0, none⟩) n cap ∧ base ≤ g ∧ g < w.heap.size ∧ (n ≤ cap ∧ cap ≤ maxLen) ∧ ∀ i x, xs[i]? = some x → w.cell? ⟨g, i, none⟩ = some x := by
  obtain ⟨hl, h0⟩ := h
  rcases h0 with ⟨_, h0⟩ | ⟨g, cap, cur, rfl, h1, h2, h3, h4, h5, h6⟩
  · omega
  · refine ⟨g, cap, rfl, h1, lt_of_row h2, ⟨h3, h4⟩, fun i x hx => ?_⟩
    have hi : i < n := by
      have := (List.getElem?_eq_some_iff.1 hx).1
      omega
    rw [cell_of_row w g i cur e _ h2]
    rw [← h6, List.getElem?_take_of_lt (by omega)] at hx
    simpa using hx
set_option maxRecDepth 20000 in
set_option maxHeartbeats 2000000 in
theorem read_one {d m k b base : Nat} {sec used ch sure : Int} {pl ov bv : Value} {D : DataW Unit} (n : Int) (hI : I64 n) (s : ByteArray) (hs0 : 0 < s.size) (w : World) (h : Dk w d (.map (some m)) sec used ch pl false) (hm : Mp w m k D) (hD : D.atKey (.int .i64 n) .nil = .lit (.int .u64 (b : Int))) (hf : Fl w b bv sure ov) (hown : w.ownsRow base 5 1 bv s.size (Lib.strCells s)) :
    Calls Tryz.prog 48 #[.pointer (some ⟨d, 0, none⟩), .int .i64 n] w fun e w' => e = .returned (.tuple #[.string s, .int .i64 0]) ∧ w' = w := by
  obtain ⟨g, cap, rfl, h1, h2, h3, h4⟩ := own_cell hown hs0
  obtain ⟨c0, c1, c2⟩ := hf.cells
  have hcv : (convert 65 9 (.slice (some ⟨g, 0, none⟩) s.size cap)).run Tryz.prog w = .ok (.string s) w :=
    Lib.run_convert_whole w 65 5 9 Tryz.underlying65 Tryz.underlying5 Tryz.underlying9 g 0 s (fun i hi => by
      rw [Nat.zero_add]
      refine h4 i _ ?_
      unfold Lib.strCells
      rw [List.getElem?_map, byte_at s i hi]
      rfl) cap
  go_enter Tryz.func48, Tryz.ntmps48
  go_wp2_with fail
  refine (find_one n hI _ h hm hD).mono ?_
  rintro e w1 ⟨rfl, rfl⟩
  go_wp2
  go_ret2
  exact ⟨rfl, rfl⟩
end Go.Proofs.YtgjalfcpfgbneaaGreatDoor
