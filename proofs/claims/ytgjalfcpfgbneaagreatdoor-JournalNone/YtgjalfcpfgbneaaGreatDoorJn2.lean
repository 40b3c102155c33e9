/- A body that is too long is refused (framed, Add); Len and At. -/
import Derived.Test.YtgjalfcpfgbneaaGreatDoorJn1
import Derived.Test.YtgjalfcpfgbneaaGreatDoorFHed
namespace Go.Proofs.YtgjalfcpfgbneaaGreatDoor
open Go.RowKit Go.Shelf
set_option maxRecDepth 20000 in
set_option maxHeartbeats 1000000 in
theorem framed_long {q c : Nat} (s : ByteArray) (hs : 65536 < s.size) (w : World) (hq : w.cell? ⟨q, 0, none⟩ = some (.string s)) (hlt : q < w.heap.size) :
    Calls Tryz.prog 40 #[.slice (some ⟨q, 0, none⟩) 1 c] w fun e w' => e = .returned (.tuple #[.slice none 0 0, .string ⟨#[]⟩, .int .i64 3]) ∧ Below w.heap.size w w' := by
  have k := F.make_long s hs
  go_enter Tryz.func40, Tryz.ntmps40
  go_wp2
  obtain ⟨w1, hw1⟩ : ∃ w1, w.alloc (.cells #[.pointer none, .slice none 0 0] 125) = w1 := ⟨_, rfl⟩
  have hb : Below w.heap.size w w1 := by rw [← hw1]; exact (Below.refl _ w).alloc (Nat.le_refl _) _
  have hq1 : w1.cell? ⟨q, 0, none⟩ = some (.string s) := (World.cell?_of_block (a := ⟨q, 0, none⟩) (hb.block q hlt)).trans hq
  have HW : Hid (w.alloc (.cells #[.pointer none, .slice none 0 0] 125) = w1) := hw1
  clear hw1
  go_loopw [13] (fun v wr => v = .int .i64 0 ∧ wr = w1) (fun _ _ => 0)
  case atStart => exact ⟨rfl, HW.out⟩
  case round =>
    obtain ⟨rfl, rfl⟩ := hrel
    go_wp2_with fail
    refine (k _).mono ?_
    rintro e w3 ⟨rfl, rfl⟩
    go_wp2
    refine bodyPost_ret (v := .tuple #[.slice none 0 0, .string ⟨#[]⟩, .int .i64 3]) (by simp [results, Tryz.results40, go_sem]) rfl ⟨rfl, hb⟩
set_option maxRecDepth 20000 in
set_option maxHeartbeats 1000000 in
theorem add_long {j d q c : Nat} {most files : Int} {rv : Value} (s : ByteArray) (hs : 65536 < s.size) (w : World) (_hj : Jr w j d most rv files) (hq : w.cell? ⟨q, 0, none⟩ = some (.string s)) (hlt : q < w.heap.size) :
    Calls Tryz.prog 16 #[.pointer (some ⟨j, 0, none⟩), .slice (some ⟨q, 0, none⟩) 1 c] w fun e w' => e = .returned (.tuple #[.int .i64 0, .int .i64 3]) ∧ Below w.heap.size w w' := by
  have k := framed_long (c := c) s hs w hq hlt
  clear hq
  go_enter Tryz.func16, Tryz.ntmps16
  go_wp2_with fail
  refine k.mono ?_
  rintro e w1 ⟨rfl, hb⟩
  go_wp2
  go_ret2
  exact ⟨rfl, hb⟩
set_option maxRecDepth 20000 in
set_option maxHeartbeats 1000000 in
theorem jlen {j d l c : Nat} {p : Option Addr} {most files : Int} (w : World) (hj : Jr w j d most (.slice p l c) files) :
    Calls Tryz.prog 21 #[.pointer (some ⟨j, 0, none⟩)] w fun e w' => e = .returned (.int .i64 (l : Int)) ∧ w' = w := by
  obtain ⟨c0, c1, c2, c3⟩ := hj.cells
  clear hj
  go_enter Tryz.func21, Tryz.ntmps21
  go_wp2
  go_ret
  exact ⟨rfl, rfl⟩
end Go.Proofs.YtgjalfcpfgbneaaGreatDoor
