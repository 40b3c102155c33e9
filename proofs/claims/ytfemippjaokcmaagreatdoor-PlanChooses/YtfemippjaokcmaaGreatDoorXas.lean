/- The parts of a sound value, behind others (putParts): of a list, and of a struct. A number's eight bytes (Number), of any number. A value's key, as a list of bytes (keyT); its number's bytes with the highest bit turned. strings.ReplaceAll and strings.Contains at this program: the library's own contracts, laid by its command in plain words. A text's bytes in a key, behind others (putText); yes and no (putBool). A list of values that a call makes itself, one behind the other (Mine): how it grows, and what lies there at the end. Two lists that a call makes itself side by side: values (Twin), and their names (Nms). What is taken of bytes as a value (takeA): plain facts. -/
import Derived.Test.YtfemippjaokcmaaGreatDoorXar
import Derived.Test.YtfemippjaokcmaaGreatDoorXaq
import Derived.Laws.Bits64
import Derived.Shelf.Strings.Builder1
import Derived.Shelf.Strings.Builder2
import Derived.Shelf.Strings.Search3
import Derived.Shelf.Strings.Replace
import Derived.Test.YtfemippjaokcmaaGreatDoorProg
import Derived.Lib.SplitLaws
import Derived.Deep.AppendLies
import Derived.OwnWalk
namespace Go.Proofs.YtfemippjaokcmaaGreatDoor.V
open Go.RowKit
set_option maxRecDepth 100000 in
theorem fresh_row (w : World) (cs : Array Value) (t : TypeId) : (w.alloc (.cells cs t)).heap[w.heap.size]? = some (.cells cs t (0, 0)) := heap_alloc_new _ _
end Go.Proofs.YtfemippjaokcmaaGreatDoor.V
namespace Go.Proofs.YtfemippjaokcmaaGreatDoor.V
open Go.RowKit
def be8 (n : Nat) : List UInt8 := (List.range 8).map fun i => UInt8.ofNat (n / 2 ^ (56 - 8 * i))
set_option maxRecDepth 100000 in
theorem be8_len (n : Nat) : (be8 n).length = 8 := by simp [be8]
set_option maxRecDepth 100000 in
theorem be8_take (n i : Nat) (h : i < 8) : (be8 n).take (i + 1) = (be8 n).take i ++ [UInt8.ofNat (n / 2 ^ (56 - 8 * i))] := by
  rw [List.take_succ_eq_append_getElem (by rw [be8_len]; exact h)]
  simp [be8]
set_option maxRecDepth 100000 in
theorem zero8 : (#[Value.int IntKind.u8 0, Value.int IntKind.u8 0, Value.int IntKind.u8 0, Value.int IntKind.u8 0, Value.int IntKind.u8 0, Value.int IntKind.u8 0, Value.int IntKind.u8 0, Value.int IntKind.u8 0] : Array Value) = bcs (padz 8 []) := rfl
set_option maxRecDepth 100000 in
theorem slice8 (g : Nat) (W : World) : (Instr.sliceAt 163 (.pointer (some ⟨g, 0, none⟩)) none none none).run Tryz.prog W = .ok (.slice (some ⟨g, 0, none⟩) 8 8) W := by
  have e8 : Tryz.prog.arrayLen 163 = 8 := by kernel_rfl
  have hs : (sizeOf (Tryz.prog.elem 163)).run Tryz.prog W = .ok 1 W := by kernel_rfl
  rw [run_sliceAt_array_all W 163 ⟨g, 0, none⟩ (by kernel_rfl), hs, e8]
  rfl
set_option maxRecDepth 100000 in
theorem conv8 {W : World} {g : Nat} {P : List UInt8} (H : W.heap[g]? = some (.cells (bcs P) 163 (0, 0))) (hP : P.length = 8) :
    (convert 84 9 (.slice (some ⟨g, 0, none⟩) 8 8)).run Tryz.prog W = .ok (.string ⟨P.toArray⟩) W := by
  rw [← hP]
  refine run_convert_bytes_back (P := Tryz.prog) W 84 9 5 ⟨g, 0, none⟩ P.length P Tryz.underlying84 Tryz.underlying5 Tryz.underlying9 (fun j hj => ?_)
  have e : (⟨g, 0, none⟩ : Addr).add j = ⟨g, j, none⟩ := by unfold Addr.add; split <;> simp_all
  rw [e, brow_cell H j (by omega), List.getD_eq_getElem?_getD, List.getElem?_eq_getElem hj]
  rfl
set_option maxRecDepth 100000 in
theorem byte_at (n c : Nat) : IntKind.u8.wrap ((n : Int) / 2 ^ c) = ((UInt8.ofNat (n / 2 ^ c)).toNat : Int) := by
  rw [IntKind.wrap_u8']
  simp
set_option maxRecDepth 20000 in
set_option maxHeartbeats 1000000 in
theorem number_any (n : Nat) (_hn : n < 18446744073709551616) (w : World) :
    Calls Tryz.prog 104 #[.int .u64 (n : Int)] w fun e w' => e = .returned (.string ⟨(be8 n).toArray⟩) ∧ Below w.heap.size w w' := by
  go_enter Tryz.func104, Tryz.ntmps104
  go_wp2
  rw [zero8]
  go_loopw [5] (fun c5 wr => ∃ (i : Nat), i ≤ 8 ∧ c5 = .int .i64 (i : Int) ∧ wr.heap[w.heap.size]? = some (.cells (bcs (padz 8 ((be8 n).take i))) 163 (0, 0)) ∧ Below w.heap.size w wr) (fun c5 _ => 8 - (intOf c5).toNat)
  case atStart =>
    exact ⟨0, by omega, rfl, heap_alloc_new _ _, (Below.refl _ _).alloc (Nat.le_refl _) _⟩
  case round =>
    obtain ⟨i, hi, rfl, hh, hb⟩ := hrel
    by_cases h8 : i < 8
    · have h8' : (i : Int) < 8 := by omega
      obtain ⟨P, hP⟩ : ∃ P, (be8 n).take i = P := ⟨_, rfl⟩
      have HP : Hid ((be8 n).take (i + 1) = P ++ [UInt8.ofNat (n / 2 ^ (56 - 8 * i))]) := by show _ = _; rw [be8_take n i h8, hP]
      rw [hP] at hh
      have hPl : P.length = i := by rw [← hP, List.length_take, be8_len]; omega
      clear hP
      have hpl := padz_len 8 P (by omega)
      have hc := brow_cell hh i (by omega)
      have hf := frozen_of_row wr _ i _ _ hh
      obtain ⟨v, hv⟩ : ∃ v : Int, (((padz 8 P).getD i 0).toNat : Int) = v := ⟨_, rfl⟩
      rw [hv] at hc
      clear hv hpl
      have h1 : IntKind.i64.wrap (8 * (i : Int)) = 8 * (i : Int) := by rw [IntKind.wrap_i64]; omega
      have h2 : IntKind.i64.wrap (56 - 8 * (i : Int)) = ((56 - 8 * i : Nat) : Int) := by rw [IntKind.wrap_i64]; omega
      go_wp2
      go_roundw
      case rel =>
        refine ⟨i + 1, by omega, by go_num, ?_, hb.setCell (by simp) _⟩
        rw [HP.out, brow_set hh i (UInt8.ofNat (n / 2 ^ (56 - 8 * i))) _ (by rw [← byte_at, IntKind.wrap_u8']), padz_set 8 P _ i hPl.symm (by omega)]
      case measure => simp [intOf]; omega
    · obtain rfl : i = 8 := by omega
      have hsl := slice8 w.heap.size
      have hcv := conv8 hh (by rw [padz_len _ _ (by simp [be8_len])])
      go_wp2
      go_ret
      have hfull : padz 8 ((be8 n).take 8) = be8 n := by
        rw [List.take_of_length_le (by rw [be8_len]; omega)]
        unfold padz
        rw [be8_len]
        simp
      rw [hfull]
      exact ⟨rfl, hb⟩
end Go.Proofs.YtfemippjaokcmaaGreatDoor.V
namespace Go.Proofs.YtfemippjaokcmaaGreatDoor.V
open Go.RowKit
def escL : List UInt8 → List UInt8
  | [] => []
  | c :: r => c :: (if c = 0 then 255 :: escL r else escL r)
def ktextL (s : ByteArray) : List UInt8 := escL s.data.toList ++ [0, 1]
def turnN (n : Int) : Nat := (n + 9223372036854775808).toNat
def keyT : Tr → List UInt8
  | .no => [0]
  | .mk k b n s m f _ g =>
    UInt8.ofNat k.toNat :: (if k = 1 then [if b then 1 else 0] else if k = 2 then be8 (turnN n) else if k = 3 ∨ k = 4 then ktextL s
      else if k = 5 ∨ k = 6 then cat m (fun i => 1 :: ((if k = 6 then ktextL (g i) else []) ++ keyT (f i))) ++ [0] else [])
set_option maxRecDepth 100000 in
theorem turnN_lt {n : Int} (h1 : n < 9223372036854775808) : turnN n < 18446744073709551616 := by unfold turnN; omega
set_option maxRecDepth 100000 in
theorem xor63 (m : Nat) (h : m < 18446744073709551616) : m ^^^ 9223372036854775808 = if m < 9223372036854775808 then m + 9223372036854775808 else m - 9223372036854775808 := by
  have low : ∀ a, a < 2 ^ 63 → a ^^^ 2 ^ 63 = 2 ^ 63 + a := by
    intro a ha
    apply Nat.eq_of_testBit_eq
    intro i
    rw [Nat.testBit_xor, Nat.testBit_two_pow]
    rcases Nat.lt_trichotomy i 63 with k | k | k
    · rw [Nat.testBit_two_pow_add_gt k, decide_eq_false (by omega), Bool.xor_false]
    · subst k
      rw [Nat.testBit_two_pow_add_eq]
      simp
    · have hp : 2 ^ 64 ≤ 2 ^ i := Nat.pow_le_pow_right (by omega) k
      rw [Nat.testBit_lt_two_pow (show a < 2 ^ i by omega), Nat.testBit_lt_two_pow (show 2 ^ 63 + a < 2 ^ i by omega), decide_eq_false (by omega)]
      rfl
  split
  · rename_i k
    have := low m (by omega)
    rw [show (2 : Nat) ^ 63 = 9223372036854775808 by decide] at this
    omega
  · rename_i k
    have := low (m - 9223372036854775808) (by omega)
    rw [show (2 : Nat) ^ 63 = 9223372036854775808 by decide] at this
    have e : m = (m - 9223372036854775808) ^^^ 9223372036854775808 := by omega
    rw [e, Nat.xor_assoc, Nat.xor_self, Nat.xor_zero]
    omega
set_option maxRecDepth 100000 in
theorem turn_bits {n : Int} (h0 : -9223372036854775808 ≤ n) (h1 : n < 9223372036854775808) : bits BinOp.xor IntKind.u64 (IntKind.u64.wrap n) 9223372036854775808 = (turnN n : Int) := by
  have e : IntKind.u64.wrap n = (((n % 18446744073709551616).toNat : Nat) : Int) := by rw [IntKind.wrap_u64]; omega
  have e2 : (9223372036854775808 : Int) = ((9223372036854775808 : Nat) : Int) := rfl
  rw [e, e2, bits_xor_u64_nat _ _ (by omega) (by omega), xor63 _ (by omega)]
  unfold turnN
  split <;> omega
end Go.Proofs.YtfemippjaokcmaaGreatDoor.V
namespace Go.Proofs
open Go.Shelf
def Tryz.lays144_ren : Go.Shelf.Ren := ⟨fun | 144 => 57 | 143 => 88 | 219 => 129 | 217 => 151 | 225 => 152 | 224 => 153 | 267 => 154 | 266 => 169 | 314 => 170 | n => n, fun | 9 => 9 | 4 => 4 | 3 => 3 | 5 => 5 | 46 => 59 | 146 => 186 | 51 => 185 | n => n, fun | 1 => 0 | n => n⟩
theorem Tryz.lays144 : Go.Proofs.Lays.n144 Tryz.prog Tryz.lays144_ren := {
  mixed := by kernel_rfl
  f143 := Tryz.func88.trans (congrArg some (by kernel_rfl))
  f144 := Tryz.func57.trans (congrArg some (by kernel_rfl))
  f217 := Tryz.func151.trans (congrArg some (by kernel_rfl))
  f219 := Tryz.func129.trans (congrArg some (by kernel_rfl))
  f224 := Tryz.func153.trans (congrArg some (by kernel_rfl))
  f225 := Tryz.func152.trans (congrArg some (by kernel_rfl))
  f266 := Tryz.func169.trans (congrArg some (by kernel_rfl))
  f267 := Tryz.func154.trans (congrArg some (by kernel_rfl))
  f314 := Tryz.func170.trans (congrArg some (by kernel_rfl))
  t3 := Tryz.underlying3
  a3 := Tryz.isAgg3
  z3 := Tryz.sizeOf3
  v3 := Tryz.zeroValue3
  t4 := Tryz.underlying4
  a4 := Tryz.isAgg4
  z4 := Tryz.sizeOf4
  v4 := Tryz.zeroValue4
  t5 := Tryz.underlying5
  a5 := Tryz.isAgg5
  z5 := Tryz.sizeOf5
  v5 := Tryz.zeroValue5
  t9 := Tryz.underlying9
  a9 := Tryz.isAgg9
  z9 := Tryz.sizeOf9
  v9 := Tryz.zeroValue9
  t46 := Tryz.underlying59
  a46 := Tryz.isAgg59
  z46 := Tryz.sizeOf59
  v46 := Tryz.zeroValue59
  t51 := Tryz.underlying185
  a51 := Tryz.isAgg185
  z51 := Tryz.sizeOf185
  v51 := Tryz.zeroValue185
  t146 := Tryz.underlying186
  a146 := Tryz.isAgg186
  z146 := Tryz.sizeOf186
  v146 := Tryz.zeroValue186
  g1 := by kernel_rfl }
open Go.RowKit Go.Lib in
theorem Tryz.strings_Contains_one (s : ByteArray) (c : UInt8) (w : World) :
    Calls Tryz.prog 57 #[.string s, .string ⟨#[c]⟩] w fun e w' => e = .returned (.bool (decide (0 ≤ Lib.indexByte s.data.toList c))) ∧ w' = w := Any.strings_Contains_one Tryz.lays144 s c w
def Tryz.lays155_ren : Go.Shelf.Ren := ⟨fun | 155 => 135 | 154 => 158 | 138 => 171 | 165 => 172 | 143 => 88 | 166 => 94 | 197 => 173 | 169 => 65 | 195 => 188 | 218 => 189 | 240 => 131 | 241 => 190 | 219 => 129 | 260 => 191 | 276 => 157 | 277 => 201 | 217 => 151 | 225 => 152 | 224 => 153 | 267 => 154 | 266 => 169 | 314 => 170 | n => n, fun | 9 => 9 | 3 => 3 | 4 => 4 | 72 => 112 | 0 => 0 | 76 => 141 | 105 => 189 | 21 => 21 | 5 => 5 | 70 => 110 | 20 => 20 | 37 => 84 | 75 => 139 | 127 => 144 | 164 => 177 | 46 => 59 | 119 => 208 | 139 => 211 | 138 => 210 | 146 => 186 | 51 => 185 | 80 => 115 | n => n, fun | 1 => 0 | 3 => 3 | 4 => 4 | n => n⟩
theorem Tryz.lays155 : Go.Proofs.Lays.n155 Tryz.prog Tryz.lays155_ren := {
  mixed := by kernel_rfl
  f138 := Tryz.func171.trans (congrArg some (by kernel_rfl))
  f143 := Tryz.func88.trans (congrArg some (by kernel_rfl))
  f154 := Tryz.func158.trans (congrArg some (by kernel_rfl))
  f155 := Tryz.func135.trans (congrArg some (by kernel_rfl))
  f165 := Tryz.func172.trans (congrArg some (by kernel_rfl))
  f166 := Tryz.func94.trans (congrArg some (by kernel_rfl))
  f169 := Tryz.func65.trans (congrArg some (by kernel_rfl))
  f195 := Tryz.func188.trans (congrArg some (by kernel_rfl))
  f197 := Tryz.func173.trans (congrArg some (by kernel_rfl))
  f217 := Tryz.func151.trans (congrArg some (by kernel_rfl))
  f218 := Tryz.func189.trans (congrArg some (by kernel_rfl))
  f219 := Tryz.func129.trans (congrArg some (by kernel_rfl))
  f224 := Tryz.func153.trans (congrArg some (by kernel_rfl))
  f225 := Tryz.func152.trans (congrArg some (by kernel_rfl))
  f240 := Tryz.func131.trans (congrArg some (by kernel_rfl))
  f241 := Tryz.func190.trans (congrArg some (by kernel_rfl))
  f260 := Tryz.func191.trans (congrArg some (by kernel_rfl))
  f266 := Tryz.func169.trans (congrArg some (by kernel_rfl))
  f267 := Tryz.func154.trans (congrArg some (by kernel_rfl))
  f276 := Tryz.func157.trans (congrArg some (by kernel_rfl))
  f277 := Tryz.func201.trans (congrArg some (by kernel_rfl))
  f314 := Tryz.func170.trans (congrArg some (by kernel_rfl))
  t0 := Tryz.underlying0
  a0 := Tryz.isAgg0
  z0 := Tryz.sizeOf0
  v0 := Tryz.zeroValue0
  t3 := Tryz.underlying3
  a3 := Tryz.isAgg3
  z3 := Tryz.sizeOf3
  v3 := Tryz.zeroValue3
  t4 := Tryz.underlying4
  a4 := Tryz.isAgg4
  z4 := Tryz.sizeOf4
  v4 := Tryz.zeroValue4
  t5 := Tryz.underlying5
  a5 := Tryz.isAgg5
  z5 := Tryz.sizeOf5
  v5 := Tryz.zeroValue5
  t9 := Tryz.underlying9
  a9 := Tryz.isAgg9
  z9 := Tryz.sizeOf9
  v9 := Tryz.zeroValue9
  t20 := Tryz.underlying20
  a20 := Tryz.isAgg20
  z20 := Tryz.sizeOf20
  v20 := Tryz.zeroValue20
  t21 := Tryz.underlying21
  a21 := Tryz.isAgg21
  z21 := Tryz.sizeOf21
  v21 := Tryz.zeroValue21
  t37 := Tryz.underlying84
  a37 := Tryz.isAgg84
  z37 := Tryz.sizeOf84
  v37 := Tryz.zeroValue84
  t46 := Tryz.underlying59
  a46 := Tryz.isAgg59
  z46 := Tryz.sizeOf59
  v46 := Tryz.zeroValue59
  t51 := Tryz.underlying185
  a51 := Tryz.isAgg185
  z51 := Tryz.sizeOf185
  v51 := Tryz.zeroValue185
  t70 := Tryz.underlying110
  a70 := Tryz.isAgg110
  z70 := Tryz.sizeOf110
  v70 := Tryz.zeroValue110
  t72 := Tryz.underlying112
  a72 := Tryz.isAgg112
  z72 := Tryz.sizeOf112
  v72 := Tryz.zeroValue112
  t75 := Tryz.underlying139
  a75 := Tryz.isAgg139
  z75 := Tryz.sizeOf139
  v75 := Tryz.zeroValue139
  t76 := Tryz.underlying141
  a76 := Tryz.isAgg141
  z76 := Tryz.sizeOf141
  v76 := Tryz.zeroValue141
  t105 := Tryz.underlying189
  a105 := Tryz.isAgg189
  z105 := Tryz.sizeOf189
  v105 := Tryz.zeroValue189
  t119 := Tryz.underlying208
  a119 := Tryz.isAgg208
  z119 := Tryz.sizeOf208
  t127 := Tryz.underlying144
  a127 := Tryz.isAgg144
  z127 := Tryz.sizeOf144
  v127 := Tryz.zeroValue144
  t138 := Tryz.underlying210
  a138 := Tryz.isAgg210
  z138 := Tryz.sizeOf210
  v138 := Tryz.zeroValue210
  t139 := Tryz.underlying211
  a139 := Tryz.isAgg211
  z139 := Tryz.sizeOf211
  v139 := Tryz.zeroValue211
  t146 := Tryz.underlying186
  a146 := Tryz.isAgg186
  z146 := Tryz.sizeOf186
  v146 := Tryz.zeroValue186
  t164 := Tryz.underlying177
  a164 := Tryz.isAgg177
  z164 := Tryz.sizeOf177
  v164 := Tryz.zeroValue177
  g1 := by kernel_rfl
  g3 := by kernel_rfl
  g4 := by kernel_rfl }
theorem Tryz.Builder_Extra_155 : Builder.Extra Tryz.prog Tryz.lays155_ren := {
  sizeBuilder := by kernel_rfl
  liesBuilder := by kernel_rfl
  t5 := Tryz.underlying5
  a5 := Tryz.isAgg5
  z5 := Tryz.sizeOf5
  v5 := Tryz.zeroValue5
  infoByte := by kernel_rfl
  cellsByte := by kernel_rfl
  sizeByte := by kernel_rfl
  neB5 := by decide }
open Go.RowKit Go.Lib in
theorem Tryz.strings_ReplaceAll (s old new : ByteArray) (m : Int) (w : World) (hs : s.size < 4294967281) (hm : w.cell? ⟨0, 0, none⟩ = some (.int .i64 m)) (h1 : 1 ≤ old.size) (hlen : s.size + Lib.countB s old * new.size ≤ 140737488355328) :
    Calls Tryz.prog 135 #[.string s, .string old, .string new] w fun e w' =>
      e = .returned (.string ⟨(Lib.replaceAll s.data.toList old.data.toList new.data.toList).toArray⟩) ∧ Below w.heap.size w w' := Any.strings_ReplaceAll Tryz.lays155 Tryz.Builder_Extra_155 s old new m w hs hm h1 hlen
end Go.Proofs
namespace Go.Proofs.YtfemippjaokcmaaGreatDoor.V
open Go.RowKit
set_option maxRecDepth 100000 in
theorem esc_replace (s : List UInt8) : Lib.replaceK [0] [0, 255] (Lib.count s [0]) s = escL s := by
  induction s with
  | nil => rfl
  | cons c r ih =>
    by_cases hc : c = 0
    · subst hc
      have hi : Lib.index (0 :: r) [0] = ((0 : Nat) : Int) := by simp [Lib.index]
      rw [Lib.count_cons_eq, Nat.add_comm, Lib.replaceK_hit _ _ _ _ 0 hi]
      show [0, 255] ++ Lib.replaceK [0] [0, 255] (Lib.count r [0]) r = _
      rw [ih]
      simp [escL]
    · rw [Lib.count_cons_ne _ _ _ hc]
      have e : escL (c :: r) = c :: escL r := by rw [escL, if_neg hc]
      rw [e, ← ih]
      cases hk : Lib.count r [0] with
      | zero => rfl
      | succ k =>
        obtain ⟨i, hi⟩ := Lib.index_of_count (s := r) (old := [0]) (by omega)
        have hi2 : Lib.index (c :: r) [0] = ((i + 1 : Nat) : Int) := by
          rw [Lib.index, hi, if_neg (by simp [Ne.symm hc]), if_neg (by simp)]
          omega
        rw [Lib.replaceK_hit _ _ _ _ i hi, Lib.replaceK_hit _ _ _ _ (i + 1) hi2]
        rfl
set_option maxRecDepth 100000 in
theorem esc_all (s : List UInt8) : Lib.replaceAll s [0] [0, 255] = escL s := by
  unfold Lib.replaceAll Lib.replace Lib.replaceNum
  rw [if_neg (by decide), if_pos (Or.inl (by decide))]
  exact esc_replace s
set_option maxRecDepth 100000 in
theorem escL_len (s : List UInt8) : (escL s).length ≤ 2 * s.length := by
  induction s with
  | nil => exact Nat.le_refl _
  | cons c r ih =>
    rw [escL, List.length_cons, List.length_cons]
    split
    · rw [List.length_cons]; omega
    · omega
set_option maxRecDepth 100000 in
theorem ktextL_len (s : ByteArray) : (ktextL s).length ≤ 2 * s.size + 2 := by
  unfold ktextL
  have := escL_len s.data.toList
  have e := Lib.size_eq s
  rw [List.length_append]
  show _ + 2 ≤ _
  omega
set_option maxRecDepth 20000 in
set_option maxHeartbeats 2000000 in
theorem putBool_any (b : Nat) (l : List UInt8) (y : Bool) (w : World) (hbl : Bld w b l) (hl : l.length ≤ 900001) :
    Calls Tryz.prog 103 #[.pointer (some ⟨b, 0, none⟩), .bool y] w fun e w' => e = .returned (.tuple #[]) ∧ Bld w' b (l ++ [if y then 1 else 0]) ∧ Below b w w' ∧ Tame w w' := by
  cases y with
  | true =>
    go_enter Tryz.func103, Tryz.ntmps103
    go_wp2_with fail
    refine (b_byte b l 1 w hbl (by omega) 1 (by decide)).mono ?_
    rintro e w1 ⟨rfl, h1, h2, h3⟩
    go_wp2
    go_end0
    exact ⟨rfl, h1, h2, h3⟩
  | false =>
    go_enter Tryz.func103, Tryz.ntmps103
    go_wp2_with fail
    refine (b_byte b l 0 w hbl (by omega) 0 (by decide)).mono ?_
    rintro e w1 ⟨rfl, h1, h2, h3⟩
    go_wp2
    go_end0
    exact ⟨rfl, h1, h2, h3⟩
def Gm (w : World) : Prop := ∃ m : Int, w.cell? ⟨0, 0, none⟩ = some (.int .i64 m)
set_option maxRecDepth 100000 in
theorem Gm.later {w w' : World} {B : Nat} (h : Gm w) (hb : Below B w w') (hB : 0 < B) : Gm w' := by
  obtain ⟨m, hm⟩ := h
  exact ⟨m, cell_later hm hB hb⟩
set_option maxRecDepth 20000 in
set_option maxHeartbeats 2000000 in
theorem putText_any (b : Nat) (l : List UInt8) (s : ByteArray) (w : World) (hg : Gm w) (hbl : Bld w b l) (hl : l.length ≤ 900001) (hs : s.size ≤ 4096) :
    Calls Tryz.prog 105 #[.pointer (some ⟨b, 0, none⟩), .string s] w fun e w' => e = .returned (.tuple #[]) ∧ Bld w' b (l ++ ktextL s) ∧ Below b w w' ∧ Tame w w' := by
  obtain ⟨m, hm⟩ := hg
  have hcl : Lib.countB s ⟨#[0]⟩ ≤ s.size := Lib.countB_le ⟨#[0]⟩ (by decide) s.size s (Nat.le_refl _)
  have hr := Tryz.strings_ReplaceAll s ⟨#[0]⟩ ⟨#[0, 255]⟩ m w (by omega) hm (by decide) (by
    have h2 : (⟨#[0, 255]⟩ : ByteArray).size = 2 := rfl
    rw [h2]; omega)
  rw [show (⟨#[0]⟩ : ByteArray).data.toList = [0] from rfl, show (⟨#[0, 255]⟩ : ByteArray).data.toList = [0, 255] from rfl, esc_all] at hr
  have hel := escL_len s.data.toList
  rw [← Lib.size_eq] at hel
  obtain ⟨u, hu⟩ : ∃ u : ByteArray, (⟨(escL s.data.toList).toArray⟩ : ByteArray) = u := ⟨_, rfl⟩
  have HU : Hid (u.data.toList = escL s.data.toList) := by show _ = _; rw [← hu]
  have hus : u.size ≤ 8192 := by rw [Lib.size_eq, HU.out]; omega
  rw [hu] at hr
  clear hu hcl
  have hb0 := hbl.lt
  go_enter Tryz.func105, Tryz.ntmps105
  go_wp2_with fail
  refine hr.mono ?_
  rintro e w1 ⟨rfl, hb1⟩
  go_wp2_with fail
  refine (b_text b l u w1 (hbl.later hb1) (by omega) (by omega)).mono ?_
  rintro e w2 ⟨rfl, hbl2, hbb2, ht2⟩
  rw [HU.out] at hbl2
  go_wp2_with fail
  refine (b_text b _ ⟨#[0, 1]⟩ w2 hbl2 (by rw [List.length_append]; omega) (by decide)).mono ?_
  rintro e w3 ⟨rfl, hbl3, hbb3, ht3⟩
  go_wp2
  go_end0
  refine ⟨rfl, ?_, ((hb1.mono (by omega)).trans hbb2).trans hbb3, ((Tame.ofBelow hb1).trans ht2).trans ht3⟩
  unfold ktextL
  rw [← List.append_assoc]
  exact hbl3
end Go.Proofs.YtfemippjaokcmaaGreatDoor.V
namespace Go.Proofs.YtfemippjaokcmaaGreatDoor.V
open Go.RowKit
def flat : Nat → (Nat → List Value) → List Value
  | 0, _ => []
  | n + 1, F => flat n F ++ F n
set_option maxRecDepth 100000 in
theorem flat_congr {F G : Nat → List Value} : ∀ {n : Nat}, (∀ j, j < n → F j = G j) → flat n F = flat n G
  | 0, _ => rfl
  | n + 1, h => by
    show flat n F ++ F n = flat n G ++ G n
    rw [flat_congr (fun j hj => h j (by omega)), h n (by omega)]
set_option maxRecDepth 100000 in
theorem flat_len {F : Nat → List Value} (h : ∀ j, (F j).length = 6) : ∀ n, (flat n F).length = n * 6
  | 0 => rfl
  | n + 1 => by
    show (flat n F ++ F n).length = _
    rw [List.length_append, flat_len h n, h n]; omega
set_option maxRecDepth 100000 in
theorem flat_get {F : Nat → List Value} (h : ∀ j, (F j).length = 6) : ∀ n i c, i < n → c < 6 → (flat n F)[i * 6 + c]? = (F i)[c]?
  | 0, i, c, hi, _ => by omega
  | n + 1, i, c, hi, hc => by
    show (flat n F ++ F n)[i * 6 + c]? = _
    rcases Nat.lt_or_ge i n with k | k
    · rw [List.getElem?_append_left (by rw [flat_len h n]; omega)]
      exact flat_get h n i c k hc
    · obtain rfl : i = n := by omega
      rw [List.getElem?_append_right (by rw [flat_len h]; omega), flat_len h]
      congr 1
      omega
structure Mine (e : TypeId) (S : Nat → Prop) (base : Nat) (wr : World) (v : Value) (i : Nat) (T : Nat → Tr) (A : Nat → Ad) : Prop where
  own : wr.ownsRow base e 6 v i (flat i (fun j => (T j).cs (A j)))
  lies : ∀ j, j < i → LiesS (fun k => S k ∨ (base ≤ k ∧ k < wr.heap.size ∧ some k ≠ v.ownBlock)) wr (T j) (A j)
set_option maxRecDepth 100000 in
theorem cs_len (t : Tr) (x : Ad) : (t.cs x).length = 6 := rfl
set_option maxRecDepth 100000 in
theorem Mine.start (e : TypeId) (S : Nat → Prop) (base : Nat) (wr : World) (T : Nat → Tr) (A : Nat → Ad) : Mine e S base wr (.slice none 0 0) 0 T A :=
  ⟨⟨rfl, Or.inl ⟨rfl, rfl⟩⟩, fun j hj => by omega⟩
set_option maxRecDepth 100000 in
theorem Mine.kept {e : TypeId} {S : Nat → Prop} {base : Nat} {w w' : World} {v : Value} {i : Nat} {T : Nat → Tr} {A : Nat → Ad} (h : Mine e S base w v i T A) (hsz : w.heap.size ≤ w'.heap.size)
    (hS : ∀ k, S k → w'.heap[k]? = w.heap[k]?) (hk : ∀ k, base ≤ k → k < w.heap.size → w'.heap[k]? = w.heap[k]?) : Mine e S base w' v i T A := by
  refine ⟨⟨h.own.1, ?_⟩, fun j hj => ?_⟩
  · rcases h.own.2 with h1 | ⟨g, cap, cur, h1, h2, h3, h4⟩
    · exact Or.inl h1
    · exact Or.inr ⟨g, cap, cur, h1, h2, (hk g h2 (lt_of_row h3)).trans h3, h4⟩
  · refine (LiesS.kept (w' := w') (fun k hh => ?_) (h.lies j hj)).up (fun k hh => ?_)
    · rcases hh with hh | ⟨h1, h2, _⟩
      · exact hS k hh
      · exact hk k h1 h2
    · rcases hh with hh | ⟨h1, h2, h3⟩
      · exact Or.inl hh
      · exact Or.inr ⟨h1, by omega, h3⟩
set_option maxRecDepth 100000 in
theorem Mine.step {e : TypeId} {S : Nat → Prop} {base : Nat} {wr w2 w3 : World} {v : Value} {i : Nat} {T : Nat → Tr} {A : Nat → Ad} {a : Ad} {g cap H : Nat} (h : Mine e S base w2 v i T A)
    (hwr : wr.heap.size ≤ w2.heap.size) (hbase : base ≤ wr.heap.size) (hvw : ∀ k, v.ownBlock = some k → k < wr.heap.size) (hSw : ∀ k, S k → k < base)
    (hT : LiesS (fun k => S k ∨ (wr.heap.size ≤ k ∧ k < w2.heap.size)) w2 (T i) a)
    (hown : w3.ownsRow base e 6 (.slice (some ⟨g, 0, none⟩) (i + 1) cap) (i + 1) (flat i (fun j => (T j).cs (A j)) ++ (T i).cs a)) (hgr : w2.grownBy w3 v.ownBlock) (hat : v.ownBlock = some g ∨ g = H) (hH : w2.heap.size = H) :
    Mine e S base w3 (.slice (some ⟨g, 0, none⟩) (i + 1) cap) (i + 1) T (fun j => if j = i then a else A j) := by
  subst hH
  have hob : ∀ k, v.ownBlock = some k → base ≤ k := fun k hk => by
    rcases h.own.2 with ⟨rfl, _⟩ | ⟨g', cap', cur, rfl, h2, _⟩
    · cases hk
    · injection hk with hk
      have hk' : g' = k := hk
      omega
  refine ⟨?_, fun j hj => ?_⟩
  · have e1 : flat (i + 1) (fun j => (T j).cs (if j = i then a else A j)) = flat i (fun j => (T j).cs (A j)) ++ (T i).cs a := by
      show flat i (fun j => (T j).cs (if j = i then a else A j)) ++ (T i).cs (if i = i then a else A i) = _
      rw [if_pos rfl, flat_congr (fun j hj => by rw [if_neg (by omega)])]
    rw [e1]
    exact hown
  · have hgo : ∀ k, k < w2.heap.size → some k ≠ v.ownBlock → some k ≠ (Value.slice (some ⟨g, 0, none⟩) (i + 1) cap).ownBlock := fun k hk hne he => by
      injection he with he
      have he' : k = g := he
      rcases hat with h1 | h1
      · rw [h1, he'] at hne; exact hne rfl
      · omega
    have hfix : ∀ k, S k ∨ (base ≤ k ∧ k < w2.heap.size ∧ some k ≠ v.ownBlock) → S k ∨ (base ≤ k ∧ k < w3.heap.size ∧ some k ≠ (Value.slice (some ⟨g, 0, none⟩) (i + 1) cap).ownBlock) := fun k hh => by
      rcases hh with hh | ⟨h1, h2, h3⟩
      · exact Or.inl hh
      · exact Or.inr ⟨h1, Nat.lt_of_lt_of_le h2 hgr.size, hgo k h2 h3⟩
    have hsame : ∀ k, S k ∨ (base ≤ k ∧ k < w2.heap.size ∧ some k ≠ v.ownBlock) → w3.heap[k]? = w2.heap[k]? := fun k hh => by
      rcases hh with hh | ⟨h1, h2, h3⟩
      · have := hSw k hh
        exact hgr.block k (by omega) (fun he => by have := hob k he.symm; omega)
      · exact hgr.block k h2 h3
    by_cases hji : j = i
    · subst hji
      show LiesS _ w3 (T j) (if j = j then a else A j)
      rw [if_pos rfl]
      refine ((hT.up (fun k hh => ?_)).kept hsame).up hfix
      rcases hh with hh | ⟨h1, h2⟩
      · exact Or.inl hh
      · exact Or.inr ⟨by omega, h2, fun he => by have := hvw k he.symm; omega⟩
    · show LiesS _ w3 (T j) (if j = i then a else A j)
      rw [if_neg hji]
      exact ((h.lies j (by omega)).kept hsame).up hfix
set_option maxRecDepth 100000 in
theorem at6_of_flat {w : World} {g : Nat} {cur : Array Value} {e : TypeId} {n : Nat} {T : Nat → Tr} {A : Nat → Ad} {i : Nat} (hg : w.heap[g]? = some (.cells cur e (0, 0))) (hc : cur.toList.take (n * 6) = flat n (fun j => (T j).cs (A j))) (hi : i < n) :
    At6 w g (0 + i * 6) (T i) (A i) := by
  have key : ∀ c, c < 6 → w.cell? ⟨g, i * 6 + c, none⟩ = ((T i).cs (A i))[c]? := fun c hc6 => by
    rw [cell_of_row w g _ cur e _ hg, ← flat_get (F := fun j => (T j).cs (A j)) (fun j => cs_len _ _) n i c hi hc6, ← hc, List.getElem?_take_of_lt (by omega)]
    simp
  rw [Nat.zero_add]
  exact ⟨key 0 (by omega), key 1 (by omega), key 2 (by omega), key 3 (by omega), key 4 (by omega), key 5 (by omega)⟩
set_option maxRecDepth 100000 in
theorem Mine.done {e : TypeId} {S S' : Nat → Prop} {base : Nat} {wr : World} {v : Value} {m : Nat} {T : Nat → Tr} {A : Nat → Ad} (h : Mine e S base wr v m T A) (hS : ∀ k, S k → S' k) (hb : ∀ k, base ≤ k → k < wr.heap.size → S' k) :
    ∃ pa pc, v = .slice pa m pc ∧ (m ≤ pc ∧ pc ≤ maxLen) ∧ (0 < m → ∃ b o, pa = some ⟨b, o, none⟩ ∧ S' b ∧ ∀ i, i < m → At6 wr b (o + i * 6) (T i) (A i)) ∧ ∀ i, i < m → LiesS S' wr (T i) (A i) := by
  have hl : ∀ i, i < m → LiesS S' wr (T i) (A i) := fun i hi => (h.lies i hi).up (fun k hh => by
    rcases hh with hh | ⟨h1, h2, _⟩
    · exact hS k hh
    · exact hb k h1 h2)
  rcases h.own.2 with ⟨rfl, h0⟩ | ⟨g, cap, cur, rfl, h1, h2, h3, h4, _, h6⟩
  · exact ⟨none, 0, by rw [h0], ⟨by omega, by unfold maxLen; omega⟩, fun hm => by omega, hl⟩
  · exact ⟨_, _, rfl, ⟨h3, h4⟩, fun _ => ⟨g, 0, rfl, hb g h1 (lt_of_row h2), fun i hi => at6_of_flat h2 h6 hi⟩, hl⟩
set_option maxRecDepth 100000 in
theorem Mine.block_lt {e : TypeId} {S : Nat → Prop} {base : Nat} {wr : World} {v : Value} {m : Nat} {T : Nat → Tr} {A : Nat → Ad} (h : Mine e S base wr v m T A) : ∀ k, v.ownBlock = some k → k < wr.heap.size := fun k hk => by
  rcases h.own.2 with ⟨rfl, _⟩ | ⟨g, cap, cur, rfl, _, h2, _⟩
  · cases hk
  · injection hk with hk
    have hk' : g = k := hk
    rw [← hk']
    exact lt_of_row h2
set_option maxRecDepth 100000 in
theorem Mine.block_ge {e : TypeId} {S : Nat → Prop} {base : Nat} {wr : World} {v : Value} {m : Nat} {T : Nat → Tr} {A : Nat → Ad} (h : Mine e S base wr v m T A) : ∀ k, v.ownBlock = some k → base ≤ k := fun k hk => by
  rcases h.own.2 with ⟨rfl, _⟩ | ⟨g, cap, cur, rfl, h2, _⟩
  · cases hk
  · injection hk with hk
    have hk' : g = k := hk
    omega
set_option maxRecDepth 100000 in
theorem info25 : (Tryz.prog.info? 25).map (fun i => (i.zero, i.size, i.bytes)) = some (some (.agg #[.int .i64 0, .bool false, .int .i64 0, .string ⟨#[]⟩, .slice none 0 0, .slice none 0 0]), 6, 88) := by kernel_rfl
set_option maxRecDepth 100000 in
theorem info33 : (Tryz.prog.info? 46).map (fun i => (i.zero, i.size, i.bytes)) = some (some (.agg #[.int .i64 0, .bool false, .int .i64 0, .string ⟨#[]⟩, .slice none 0 0, .slice none 0 0]), 6, 88) := by kernel_rfl
def set6 (w : World) (z : Nat) (c0 c1 c2 c3 c4 c5 : Value) : World :=
  (((((w.setCell ⟨z, 0, none⟩ c0).setCell ⟨z, 1, none⟩ c1).setCell ⟨z, 2, none⟩ c2).setCell ⟨z, 3, none⟩ c3).setCell ⟨z, 4, none⟩ c4).setCell ⟨z, 5, none⟩ c5
set_option maxRecDepth 100000 in
theorem set6_block (w : World) (z : Nat) (c0 c1 c2 c3 c4 c5 : Value) (k : Nat) (h : k ≠ z) : (set6 w z c0 c1 c2 c3 c4 c5).heap[k]? = w.heap[k]? := by
  unfold set6
  rw [Below.heap_setCell _ _ _ k h, Below.heap_setCell _ _ _ k h, Below.heap_setCell _ _ _ k h, Below.heap_setCell _ _ _ k h, Below.heap_setCell _ _ _ k h, Below.heap_setCell _ _ _ k h]
set_option maxRecDepth 100000 in
theorem set6_size (w : World) (z : Nat) (c0 c1 c2 c3 c4 c5 : Value) : (set6 w z c0 c1 c2 c3 c4 c5).heap.size = w.heap.size := by unfold set6; simp
set_option maxRecDepth 100000 in
theorem set6_below {B : Nat} {a w : World} (hb : Below B a w) (z : Nat) (hz : B ≤ z) (c0 c1 c2 c3 c4 c5 : Value) : Below B a (set6 w z c0 c1 c2 c3 c4 c5) :=
  (((((hb.setCell (p := ⟨z, 0, none⟩) hz c0).setCell (p := ⟨z, 1, none⟩) hz c1).setCell (p := ⟨z, 2, none⟩) hz c2).setCell (p := ⟨z, 3, none⟩) hz c3).setCell (p := ⟨z, 4, none⟩) hz c4).setCell (p := ⟨z, 5, none⟩) hz c5
set_option maxRecDepth 100000 in
theorem set6_row {w : World} {z : Nat} {t : TypeId} {fr : Nat × Nat} {a0 a1 a2 a3 a4 a5 : Value} (h : w.heap[z]? = some (.cells #[a0, a1, a2, a3, a4, a5] t fr)) (c0 c1 c2 c3 c4 c5 : Value) :
    (set6 w z c0 c1 c2 c3 c4 c5).heap[z]? = some (.cells #[c0, c1, c2, c3, c4, c5] t fr) :=
  row_setCell (k := 5) (row_setCell (k := 4) (row_setCell (k := 3) (row_setCell (k := 2) (row_setCell (k := 1) (row_setCell (k := 0) h c0) c1) c2) c3) c4) c5
end Go.Proofs.YtfemippjaokcmaaGreatDoor.V
namespace Go.Proofs.YtfemippjaokcmaaGreatDoor.V
open Go.RowKit
structure Twin (n : Option Nat) (base : Nat) (wr : World) (v : Value) (i : Nat) (T : Nat → Tr) (A : Nat → Ad) : Prop where
  own : wr.ownsRow base 25 6 v i (flat i (fun j => (T j).cs (A j)))
  lies : ∀ j, j < i → LiesS (fun k => base ≤ k ∧ k < wr.heap.size ∧ some k ≠ v.ownBlock ∧ some k ≠ n) wr (T j) (A j)
def strs (l : List ByteArray) : List Value := l.map Value.string
def Nms (base : Nat) (wr : World) (v : Value) (l : List ByteArray) : Prop := wr.ownsRow base 9 1 v l.length (strs l)
set_option maxRecDepth 100000 in
theorem Twin.start (n : Option Nat) (base : Nat) (wr : World) (T : Nat → Tr) (A : Nat → Ad) : Twin n base wr (.slice none 0 0) 0 T A := ⟨⟨rfl, Or.inl ⟨rfl, rfl⟩⟩, fun j hj => by omega⟩
set_option maxRecDepth 100000 in
theorem Nms.start (base : Nat) (wr : World) : Nms base wr (.slice none 0 0) [] := ⟨rfl, Or.inl ⟨rfl, rfl⟩⟩
set_option maxRecDepth 100000 in
theorem own_lt {wr : World} {base : Nat} {e : TypeId} {size : Nat} {v : Value} {n : Nat} {xs : List Value} (h : wr.ownsRow base e size v n xs) : ∀ k, v.ownBlock = some k → base ≤ k ∧ k < wr.heap.size ∧ ∃ cs, wr.heap[k]? = some (.cells cs e (0, 0)) := fun k hk => by
  rcases h.2 with ⟨rfl, _⟩ | ⟨g, cap, cur, rfl, h1, h2, _⟩
  · cases hk
  · injection hk with hk
    have hk' : g = k := hk
    subst hk'
    exact ⟨h1, lt_of_row h2, cur, h2⟩
set_option maxRecDepth 100000 in
theorem own_kept {w w' : World} {base : Nat} {e : TypeId} {size : Nat} {v : Value} {n : Nat} {xs : List Value} (h : w.ownsRow base e size v n xs) (hk : ∀ k, v.ownBlock = some k → w'.heap[k]? = w.heap[k]?) : w'.ownsRow base e size v n xs := by
  refine ⟨h.1, ?_⟩
  rcases h.2 with h1 | ⟨g, cap, cur, rfl, h2, h3, h4⟩
  · exact Or.inl h1
  · exact Or.inr ⟨g, cap, cur, rfl, h2, (hk g rfl).trans h3, h4⟩
set_option maxRecDepth 100000 in
theorem own_ne {w : World} {base : Nat} {e e' : TypeId} {size size' : Nat} {v v' : Value} {n n' : Nat} {xs xs' : List Value} (h : w.ownsRow base e size v n xs) (h' : w.ownsRow base e' size' v' n' xs') (he : e ≠ e') : ∀ k, v.ownBlock = some k → some k ≠ v'.ownBlock := fun k hk hk' => by
  obtain ⟨_, _, cs, h1⟩ := own_lt h k hk
  obtain ⟨_, _, cs', h2⟩ := own_lt h' k hk'.symm
  rw [h1] at h2
  injection h2 with h2
  injection h2 with _ h3 _
  exact he h3
set_option maxRecDepth 100000 in
theorem Twin.kept {n : Option Nat} {base : Nat} {w w' : World} {v : Value} {i : Nat} {T : Nat → Tr} {A : Nat → Ad} (h : Twin n base w v i T A) (hsz : w.heap.size ≤ w'.heap.size) (hk : ∀ k, base ≤ k → k < w.heap.size → w'.heap[k]? = w.heap[k]?) : Twin n base w' v i T A :=
  ⟨own_kept h.own (fun k hv => hk k (own_lt h.own k hv).1 (own_lt h.own k hv).2.1), fun j hj => (LiesS.kept (w' := w') (fun k hh => hk k hh.1 hh.2.1) (h.lies j hj)).up (fun k hh => ⟨hh.1, by omega, hh.2.2⟩)⟩
set_option maxRecDepth 100000 in
theorem Nms.kept {base : Nat} {w w' : World} {v : Value} {l : List ByteArray} (h : Nms base w v l) (hk : ∀ k, base ≤ k → k < w.heap.size → w'.heap[k]? = w.heap[k]?) : Nms base w' v l := own_kept h (fun k hv => hk k (own_lt h k hv).1 (own_lt h k hv).2.1)
set_option maxRecDepth 100000 in
theorem Twin.named {base : Nat} {w2 w3 : World} {v u : Value} {l : List ByteArray} {i : Nat} {T : Nat → Tr} {A : Nat → Ad} {g cap c : Nat} (h : Twin u.ownBlock base w2 v i T A) (hN : Nms base w2 u l) (hgr : w2.grownBy w3 u.ownBlock) (hat : u.ownBlock = some g ∨ g = w2.heap.size) :
    Twin (Value.slice (some ⟨g, 0, none⟩) c cap).ownBlock base w3 v i T A := by
  refine ⟨own_kept h.own (fun k hv => hgr.block k (own_lt h.own k hv).2.1 (own_ne h.own hN (by decide) k hv)), fun j hj => ?_⟩
  refine (LiesS.kept (w' := w3) (fun k hh => hgr.block k hh.2.1 hh.2.2.2) (h.lies j hj)).up (fun k hh => ⟨hh.1, Nat.lt_of_lt_of_le hh.2.1 hgr.size, hh.2.2.1, fun he => ?_⟩)
  injection he with he
  have he' : k = g := he
  rcases hat with h1 | h1
  · exact hh.2.2.2 (by rw [h1, he'])
  · omega
set_option maxRecDepth 100000 in
theorem Twin.step {n : Option Nat} {base : Nat} {wr w2 w3 : World} {v : Value} {i : Nat} {T : Nat → Tr} {A : Nat → Ad} {a : Ad} {g cap : Nat} (h : Twin n base w2 v i T A)
    (_hwr : wr.heap.size ≤ w2.heap.size) (hbase : base ≤ wr.heap.size) (hvw : ∀ k, v.ownBlock = some k → k < wr.heap.size) (hnw : ∀ k, n = some k → k < wr.heap.size)
    (hT : LiesS (fun k => wr.heap.size ≤ k ∧ k < w2.heap.size) w2 (T i) a)
    (hown : w3.ownsRow base 25 6 (.slice (some ⟨g, 0, none⟩) (i + 1) cap) (i + 1) (flat i (fun j => (T j).cs (A j)) ++ (T i).cs a)) (hgr : w2.grownBy w3 v.ownBlock) (hat : v.ownBlock = some g ∨ g = w2.heap.size) :
    Twin n base w3 (.slice (some ⟨g, 0, none⟩) (i + 1) cap) (i + 1) T (fun j => if j = i then a else A j) := by
  refine ⟨?_, fun j hj => ?_⟩
  · have e1 : flat (i + 1) (fun j => (T j).cs (if j = i then a else A j)) = flat i (fun j => (T j).cs (A j)) ++ (T i).cs a := by
      show flat i (fun j => (T j).cs (if j = i then a else A j)) ++ (T i).cs (if i = i then a else A i) = _
      rw [if_pos rfl, flat_congr (fun j hj => by rw [if_neg (by omega)])]
    rw [e1]
    exact hown
  · have hfix : ∀ k, (base ≤ k ∧ k < w2.heap.size ∧ some k ≠ v.ownBlock ∧ some k ≠ n) → (base ≤ k ∧ k < w3.heap.size ∧ some k ≠ (Value.slice (some ⟨g, 0, none⟩) (i + 1) cap).ownBlock ∧ some k ≠ n) := fun k hh => ⟨hh.1, Nat.lt_of_lt_of_le hh.2.1 hgr.size, fun he => by
      injection he with he
      have he' : k = g := he
      rcases hat with h1 | h1
      · exact hh.2.2.1 (by rw [h1, he'])
      · omega, hh.2.2.2⟩
    by_cases hji : j = i
    · subst hji
      show LiesS _ w3 (T j) (if j = j then a else A j)
      rw [if_pos rfl]
      refine ((hT.up (fun k hh => ?_)).kept (fun k (hh : base ≤ k ∧ k < w2.heap.size ∧ some k ≠ v.ownBlock ∧ some k ≠ n) => hgr.block k hh.2.1 hh.2.2.1)).up hfix
      exact ⟨by omega, hh.2, fun he => by have := hvw k he.symm; omega, fun he => by have := hnw k he.symm; omega⟩
    · show LiesS _ w3 (T j) (if j = i then a else A j)
      rw [if_neg hji]
      exact ((h.lies j (by omega)).kept (fun k hh => hgr.block k hh.2.1 hh.2.2.1)).up hfix
set_option maxRecDepth 100000 in
theorem Nms.parts {base : Nat} {w2 w3 : World} {v u : Value} {l : List ByteArray} {i : Nat} {xs : List Value} (hN : Nms base w2 u l) (h : w2.ownsRow base 25 6 v i xs) (hgr : w2.grownBy w3 v.ownBlock) : Nms base w3 u l :=
  own_kept hN (fun k hv => hgr.block k (own_lt hN k hv).2.1 (own_ne hN h (by decide) k hv))
set_option maxRecDepth 100000 in
theorem Twin.done {n : Option Nat} {S : Nat → Prop} {base : Nat} {wr : World} {v : Value} {m : Nat} {T : Nat → Tr} {A : Nat → Ad} (h : Twin n base wr v m T A) (hb : ∀ k, base ≤ k → k < wr.heap.size → S k) :
    ∃ pa pc, v = .slice pa m pc ∧ (m ≤ pc ∧ pc ≤ maxLen) ∧ (0 < m → ∃ b o, pa = some ⟨b, o, none⟩ ∧ S b ∧ ∀ i, i < m → At6 wr b (o + i * 6) (T i) (A i)) ∧ ∀ i, i < m → LiesS S wr (T i) (A i) := by
  have hl : ∀ i, i < m → LiesS S wr (T i) (A i) := fun i hi => (h.lies i hi).up (fun k hh => hb k hh.1 hh.2.1)
  rcases h.own.2 with ⟨rfl, h0⟩ | ⟨g, cap, cur, rfl, h1, h2, h3, h4, _, h6⟩
  · exact ⟨none, 0, by rw [h0], ⟨by omega, by unfold maxLen; omega⟩, fun hm => by omega, hl⟩
  · exact ⟨_, _, rfl, ⟨h3, h4⟩, fun _ => ⟨g, 0, rfl, hb g h1 (lt_of_row h2), fun i hi => at6_of_flat h2 h6 hi⟩, hl⟩
set_option maxRecDepth 100000 in
theorem Nms.done {S : Nat → Prop} {base : Nat} {wr : World} {u : Value} {l : List ByteArray} (h : Nms base wr u l) (hs : ∀ s ∈ l, s.size ≤ maxLen) (hb : ∀ k, base ≤ k → k < wr.heap.size → S k) :
    ∃ na nc, u = .slice na l.length nc ∧ NamesS S wr l.length (fun i => l.getD i ⟨#[]⟩) na nc := by
  have hsz : ∀ i, i < l.length → (l.getD i ⟨#[]⟩).size ≤ maxLen := fun i hi => by
    rw [List.getD_eq_getElem?_getD, List.getElem?_eq_getElem hi]
    exact hs _ (List.getElem_mem hi)
  rcases h.2 with ⟨rfl, h0⟩ | ⟨g, cap, cur, rfl, h1, h2, h3, h4, _, h6⟩
  · exact ⟨none, 0, by rw [h0], by omega, by unfold maxLen; omega, hsz, fun hm => by omega⟩
  · refine ⟨_, _, rfl, h3, h4, hsz, fun _ => ⟨g, 0, rfl, hb g h1 (lt_of_row h2), fun i hi => ?_⟩⟩
    rw [Nat.zero_add, cell_of_row wr g i cur _ _ h2]
    have h7 : (cur.toList.take (l.length * 1))[i]? = (strs l)[i]? := by rw [h6]
    rw [List.getElem?_take_of_lt (by omega)] at h7
    rw [← Array.getElem?_toList, h7, strs, List.getElem?_map, List.getElem?_eq_getElem hi]
    show _ = some (Value.string (l.getD i ⟨#[]⟩))
    rw [List.getD_eq_getElem?_getD, List.getElem?_eq_getElem hi]
    rfl
set_option maxRecDepth 100000 in
theorem info9 : (Tryz.prog.info? 9).map (fun i => (i.zero, i.size, i.bytes)) = some (some (.string ⟨#[]⟩), 1, 16) := by kernel_rfl
end Go.Proofs.YtfemippjaokcmaaGreatDoor.V
namespace Go.Proofs.YtfemippjaokcmaaGreatDoor.V
open Go.RowKit
structure Tak where
  t : Tr
  o : Nat
  e : Int
structure St where
  ns : List ByteArray
  ts : List Tr
  o : Nat
  e : Int
def leafT (k : Int) (b : Bool) (n : Int) (s : ByteArray) : Tr := .mk k b n s 0 (fun _ => .no) 0 (fun _ => ⟨#[]⟩)
def nodeT (k : Int) (x : St) : Tr := .mk k false 0 ⟨#[]⟩ x.ts.length (fun i => x.ts.getD i .no) x.ns.length (fun i => x.ns.getD i ⟨#[]⟩)
def nameA (s : ByteArray) (six : Bool) (x : St) : Ans ByteArray := if six then textA s x.o x.e 16 else ⟨⟨#[]⟩, x.o, x.e⟩
def stepA (s : ByteArray) (six : Bool) (T : Nat → Int → Tak) (x : St) : St :=
  ⟨if six then x.ns ++ [(nameA s six x).v] else x.ns, x.ts ++ [(T (nameA s six x).o (nameA s six x).e).t], (T (nameA s six x).o (nameA s six x).e).o, (T (nameA s six x).o (nameA s six x).e).e⟩
def runA (s : ByteArray) (six : Bool) (T : Nat → Int → Tak) (x : St) : Nat → St
  | 0 => x
  | n + 1 => stepA s six T (runA s six T x n)
def nodeA (s : ByteArray) (k o : Nat) (T : Nat → Int → Tak) : Tak :=
  if k = 0 then ⟨leafT 0 false 0 ⟨#[]⟩, o, 0⟩
  else if k = 1 then ⟨leafT 1 (boolA s o 0).v 0 ⟨#[]⟩, (boolA s o 0).o, (boolA s o 0).e⟩
  else if k = 2 then ⟨leafT 2 false (zag (uintA s o 0).v) ⟨#[]⟩, (uintA s o 0).o, (uintA s o 0).e⟩
  else if k = 3 ∨ k = 4 then ⟨leafT k false 0 (textA s o 0 1024).v, (textA s o 0 1024).o, (textA s o 0 1024).e⟩
  else if k = 5 ∨ k = 6 then
    ⟨nodeT k (runA s (k == 6) T ⟨[], [], (countA s o 0 32).o, (countA s o 0 32).e⟩ (countA s o 0 32).v), (runA s (k == 6) T ⟨[], [], (countA s o 0 32).o, (countA s o 0 32).e⟩ (countA s o 0 32).v).o, (runA s (k == 6) T ⟨[], [], (countA s o 0 32).o, (countA s o 0 32).e⟩ (countA s o 0 32).v).e⟩
  else ⟨leafT k false 0 ⟨#[]⟩, o, 6⟩
def takeA (s : ByteArray) : Nat → Nat → Int → Tak
  | 0, o, e => ⟨leafT 0 false 0 ⟨#[]⟩, o, if e = 0 then 30 else e⟩
  | D + 1, o, e => if e = 0 then (if o < s.size then nodeA s (byteAt s o) (o + 1) (takeA s D) else ⟨leafT 0 false 0 ⟨#[]⟩, o, 4⟩) else ⟨leafT 0 false 0 ⟨#[]⟩, o, e⟩
set_option maxRecDepth 100000 in
theorem lies_leaf {S : Nat → Prop} {w : World} {k : Int} {b : Bool} {n : Int} {s : ByteArray} (hk : -9223372036854775808 ≤ k ∧ k < 9223372036854775808) (hn : -9223372036854775808 ≤ n ∧ n < 9223372036854775808) (hs : s.size ≤ maxLen) : LiesS S w (leafT k b n s) ⟨none, 0, none, 0⟩ :=
  .mk (fun _ => ⟨none, 0, none, 0⟩) hk hn hs ⟨Nat.le_refl _, Nat.zero_le _⟩ (fun h => by omega) (fun i hi => by omega) ⟨Nat.le_refl _, Nat.zero_le _, fun i hi => by omega, fun h => by omega⟩
end Go.Proofs.YtfemippjaokcmaaGreatDoor.V
