/- Bytes put over a file's own (put, Write), where nothing of it is sure. -/
import Derived.Test.YtgjalfcpfgbneaaGreatDoorDk4
import Derived.Lib.BufferWrite
namespace Go.Proofs.YtgjalfcpfgbneaaGreatDoor
open Go.RowKit
def overC (cur : Array Value) (a : Nat) (s : ByteArray) : Array Value := (cur.toList.take a ++ Lib.byteCells s.data.toList ++ cur.toList.drop (a + s.size)).toArray
set_option maxRecDepth 20000 in
set_option maxHeartbeats 2000000 in
theorem put_new {b g n cap : Nat} {ov : Value} {cur : Array Value} (a : Nat) (s : ByteArray) (ha : a + s.size ≤ n) (hn : n ≤ 1000000) (hac : a < cap) (hcur : cur.size = cap) (hnc : n ≤ cap) (w : World) (h : Fl w b (.slice (some ⟨g, 0, none⟩) n cap) 0 ov) (hg : w.heap[g]? = some (.cells cur 5 (0, 0))) :
    Calls Tryz.prog 62 #[.pointer (some ⟨b, 0, none⟩), .int .i64 (a : Int), .string s] w fun e w' => e = .returned (.tuple #[]) ∧ w' = w.setRow g (overC cur a s) := by
  obtain ⟨c0, c1, c2⟩ := h.cells
  have hcp := Lib.run_copy_row_string (P := Tryz.prog) w 65 9 3 5 g a (n - a) (cap - a) s cur 5 Tryz.underlying65 (by kernel_rfl) hg (by omega) (by omega)
  have h1 : (a : Int) ≤ (n : Int) := by omega
  have h2 : ¬ cap = a := by omega
  have h3 : (n : Int) ≤ (cap : Int) := by omega
  go_enter Tryz.func62, Tryz.ntmps62
  go_wp2_with fail
  refine (loosen_none (a : Int) (s.size : Int) (by omega) (by omega) (by omega) _ h).mono ?_
  rintro e w1 ⟨rfl, rfl⟩
  go_wp2
  go_end0
  exact ⟨rfl, by unfold overC; rw [List.append_assoc]⟩
set_option maxRecDepth 20000 in
set_option maxHeartbeats 4000000 in
theorem write_one {d m k b g n cap c : Nat} {p : Option Addr} {sec used ch : Int} {ov : Value} {cur : Array Value} {D : DataW Unit} (nf : Int) (hI : I64 nf) (a : Nat) (s : ByteArray) (ha : a + s.size ≤ n) (hn : n ≤ 1000000) (hac : a < cap) (hcur : cur.size = cap) (hnc : n ≤ cap) (hch : 0 ≤ ch ∧ ch < 1000000000) (hdb : d ≠ b) (hdg : d ≠ g) (hdm : d ≠ m)
    (w : World) (hk : Dk w d (.map (some m)) sec used ch (.slice p 0 c) false) (hm : Mp w m k D) (hD : D.atKey (.int .i64 nf) .nil = .lit (.int .u64 (b : Int))) (h : Fl w b (.slice (some ⟨g, 0, none⟩) n cap) 0 ov) (hg : w.heap[g]? = some (.cells cur 5 (0, 0))) :
    Calls Tryz.prog 33 #[.pointer (some ⟨d, 0, none⟩), .int .i64 nf, .int .i64 (a : Int), .string s] w fun e w' => e = .returned (.int .i64 0) ∧ ∃ q, w' = ((w.drewN q).setCell ⟨d, 3, none⟩ (.int .i64 (ch + 1))).setRow g (overC cur a s) := by
  have hfi := find_one nf hI w hk hm hD
  obtain ⟨c0, c1, c2⟩ := h.cells
  have A1 : decide ((a : Int) < 0) = false := decide_eq_false (by omega)
  have A2 : ¬ (n : Int) - (s.size : Int) < (a : Int) := by omega
  have A3 : decide ((n : Int) - (s.size : Int) < (a : Int)) = false := decide_eq_false A2
  have A4 : (n : Int) ≤ 1000000 := by omega
  have A5 : (s.size : Int) ≤ 1000000 := by omega
  go_enter Tryz.func33, Tryz.ntmps33
  go_wp2_with fail
  refine hfi.mono ?_
  rintro e w1 ⟨rfl, rfl⟩
  go_wp2_with fail
  refine (struck_none hch _ hk).mono ?_
  rintro e w2 ⟨rfl, q, hw2⟩
  have hb2 : Fl w2 b (.slice (some ⟨g, 0, none⟩) n cap) 0 ov := by
    rw [hw2]
    exact (Below.heap_setCell _ _ _ _ (by show b ≠ d; omega)).trans h
  have hg2 : w2.heap[g]? = some (.cells cur 5 (0, 0)) := by
    rw [hw2]
    exact (Below.heap_setCell _ _ _ _ (by show g ≠ d; omega)).trans hg
  have HW2 : Hid (w2 = (w1.drewN q).setCell ⟨d, 3, none⟩ (.int .i64 (ch + 1))) := hw2
  clear hw2
  go_wp2_with fail
  refine (put_new a s ha hn hac hcur hnc _ hb2 hg2).mono ?_
  rintro e w3 ⟨rfl, rfl⟩
  go_wp2
  go_ret
  exact ⟨rfl, q, by rw [HW2.out]⟩
end Go.Proofs.YtgjalfcpfgbneaaGreatDoor
