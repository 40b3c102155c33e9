/- A number's eight bytes (Number), of any number. -/
import Derived.Test.YtaacbcnpagpdnaaDoorPut
namespace Go.Proofs.YtaacbcnpagpdnaaDoor
open Go.RowKit
def be8 (n : Nat) : List UInt8 := (List.range 8).map fun i => UInt8.ofNat (n / 2 ^ (56 - 8 * i))
theorem be8_len (n : Nat) : (be8 n).length = 8 := by simp [be8]
theorem be8_take (n i : Nat) (h : i < 8) : (be8 n).take (i + 1) = (be8 n).take i ++ [UInt8.ofNat (n / 2 ^ (56 - 8 * i))] := by
  rw [List.take_succ_eq_append_getElem (by rw [be8_len]; exact h)]
  simp [be8]
theorem zero8 : (#[Value.int IntKind.u8 0, Value.int IntKind.u8 0, Value.int IntKind.u8 0, Value.int IntKind.u8 0, Value.int IntKind.u8 0, Value.int IntKind.u8 0, Value.int IntKind.u8 0, Value.int IntKind.u8 0] : Array Value) = bcs (padz 8 []) := rfl
theorem slice8 (g : Nat) (W : World) : (Instr.sliceAt 62 (.pointer (some ⟨g, 0, none⟩)) none none none).run Tryd.prog W = .ok (.slice (some ⟨g, 0, none⟩) 8 8) W := by
  have e8 : Tryd.prog.arrayLen 62 = 8 := by kernel_rfl
  have hs : (sizeOf (Tryd.prog.elem 62)).run Tryd.prog W = .ok 1 W := by kernel_rfl
  rw [run_sliceAt_array_all W 62 ⟨g, 0, none⟩ (by kernel_rfl), hs, e8]
  rfl
theorem conv8 {W : World} {g : Nat} {P : List UInt8} (H : W.heap[g]? = some (.cells (bcs P) 62 (0, 0))) (hP : P.length = 8) :
    (convert 56 9 (.slice (some ⟨g, 0, none⟩) 8 8)).run Tryd.prog W = .ok (.string ⟨P.toArray⟩) W := by
  rw [← hP]
  refine run_convert_bytes_back (P := Tryd.prog) W 56 9 5 ⟨g, 0, none⟩ P.length P Tryd.underlying56 Tryd.underlying5 Tryd.underlying9 (fun j hj => ?_)
  have e : (⟨g, 0, none⟩ : Addr).add j = ⟨g, j, none⟩ := by unfold Addr.add; split <;> simp_all
  rw [e, brow_cell H j (by omega), List.getD_eq_getElem?_getD, List.getElem?_eq_getElem hj]
  rfl
theorem byte_at (n c : Nat) : IntKind.u8.wrap ((n : Int) / 2 ^ c) = ((UInt8.ofNat (n / 2 ^ c)).toNat : Int) := by
  rw [IntKind.wrap_u8']
  simp
set_option maxRecDepth 20000 in
set_option maxHeartbeats 1000000 in
theorem number_any (n : Nat) (_hn : n < 18446744073709551616) (w : World) :
    Calls Tryd.prog 14 #[.int .u64 (n : Int)] w fun e w' => e = .returned (.string ⟨(be8 n).toArray⟩) ∧ Below w.heap.size w w' := by
  go_enter Tryd.func14, Tryd.ntmps14
  go_wp2
  rw [zero8]
  go_loopw [5] (fun c5 wr => ∃ (i : Nat), i ≤ 8 ∧ c5 = .int .i64 (i : Int) ∧ wr.heap[w.heap.size]? = some (.cells (bcs (padz 8 ((be8 n).take i))) 62 (0, 0)) ∧ Below w.heap.size w wr) (fun c5 _ => 8 - (intOf c5).toNat)
  case atStart =>
    exact ⟨0, by omega, rfl, heap_alloc_new _ _, (Below.refl _ _).alloc (Nat.le_refl _) _⟩
  case round =>
    obtain ⟨i, hi, rfl, hh, hb⟩ := hrel
    by_cases h8 : i < 8
    · have h8' : (i : Int) < 8 := by omega
      obtain ⟨P, hP⟩ : ∃ P, (be8 n).take i = P := ⟨_, rfl⟩
      have HP : Hid ((be8 n).take (i + 1) = P ++ [UInt8.ofNat (n / 2 ^ (56 - 8 * i))]) := by show _ = _; rw [be8_take n i h8, hP]
      rw [hP] at hh
      have hPl : P.length = i := by rw [← hP, List.length_take, be8_len]; omega
      clear hP
      have hpl := padz_len 8 P (by omega)
      have hc := brow_cell hh i (by omega)
      have hf := frozen_of_row wr _ i _ _ hh
      obtain ⟨v, hv⟩ : ∃ v : Int, (((padz 8 P).getD i 0).toNat : Int) = v := ⟨_, rfl⟩
      rw [hv] at hc
      clear hv hpl
      have h1 : IntKind.i64.wrap (8 * (i : Int)) = 8 * (i : Int) := by rw [IntKind.wrap_i64]; omega
      have h2 : IntKind.i64.wrap (56 - 8 * (i : Int)) = ((56 - 8 * i : Nat) : Int) := by rw [IntKind.wrap_i64]; omega
      go_wp2
      go_roundw
      case rel =>
        refine ⟨i + 1, by omega, by go_num, ?_, hb.setCell (by simp) _⟩
        rw [HP.out, brow_set hh i (UInt8.ofNat (n / 2 ^ (56 - 8 * i))) _ (by rw [← byte_at, IntKind.wrap_u8']), padz_set 8 P _ i hPl.symm (by omega)]
      case measure => simp [intOf]; omega
    · obtain rfl : i = 8 := by omega
      have hsl := slice8 w.heap.size
      have hcv := conv8 hh (by rw [padz_len _ _ (by simp [be8_len])])
      go_wp2
      go_ret
      have hfull : padz 8 ((be8 n).take 8) = be8 n := by
        rw [List.take_of_length_le (by rw [be8_len]; omega)]
        unfold padz
        rw [be8_len]
        simp
      rw [hfull]
      exact ⟨rfl, hb⟩
end Go.Proofs.YtaacbcnpagpdnaaDoor
