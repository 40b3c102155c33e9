/- A value's key, as a list of bytes (keyT); its number's bytes with the highest bit turned. strings.ReplaceAll at this program: the library's own contract, laid by its command in plain words. A text's bytes in a key, behind others (putText); yes and no (putBool). -/
import Derived.Test.YtniljoojoafiaaaGreatDoorXao
import Derived.Laws.Bits64
import Derived.Shelf.Strings.Builder1
import Derived.Shelf.Strings.Builder2
import Derived.Shelf.Strings.Replace
import Derived.Test.YtniljoojoafiaaaGreatDoorProg
import Derived.Lib.SplitLaws
namespace Go.Proofs.YtniljoojoafiaaaGreatDoor.V
open Go.RowKit
def escL : List UInt8 → List UInt8
  | [] => []
  | c :: r => c :: (if c = 0 then 255 :: escL r else escL r)
def ktextL (s : ByteArray) : List UInt8 := escL s.data.toList ++ [0, 1]
def turnN (n : Int) : Nat := (n + 9223372036854775808).toNat
def keyT : Tr → List UInt8
  | .no => [0]
  | .mk k b n s m f _ g =>
    UInt8.ofNat k.toNat :: (if k = 1 then [if b then 1 else 0] else if k = 2 then be8 (turnN n) else if k = 3 ∨ k = 4 then ktextL s
      else if k = 5 ∨ k = 6 then cat m (fun i => 1 :: ((if k = 6 then ktextL (g i) else []) ++ keyT (f i))) ++ [0] else [])
set_option maxRecDepth 100000 in
theorem turnN_lt {n : Int} (h1 : n < 9223372036854775808) : turnN n < 18446744073709551616 := by unfold turnN; omega
set_option maxRecDepth 100000 in
theorem xor63 (m : Nat) (h : m < 18446744073709551616) : m ^^^ 9223372036854775808 = if m < 9223372036854775808 then m + 9223372036854775808 else m - 9223372036854775808 := by
  have low : ∀ a, a < 2 ^ 63 → a ^^^ 2 ^ 63 = 2 ^ 63 + a := by
    intro a ha
    apply Nat.eq_of_testBit_eq
    intro i
    rw [Nat.testBit_xor, Nat.testBit_two_pow]
    rcases Nat.lt_trichotomy i 63 with k | k | k
    · rw [Nat.testBit_two_pow_add_gt k, decide_eq_false (by omega), Bool.xor_false]
    · subst k
      rw [Nat.testBit_two_pow_add_eq]
      simp
    · have hp : 2 ^ 64 ≤ 2 ^ i := Nat.pow_le_pow_right (by omega) k
      rw [Nat.testBit_lt_two_pow (show a < 2 ^ i by omega), Nat.testBit_lt_two_pow (show 2 ^ 63 + a < 2 ^ i by omega), decide_eq_false (by omega)]
      rfl
  split
  · rename_i k
    have := low m (by omega)
    rw [show (2 : Nat) ^ 63 = 9223372036854775808 by decide] at this
    omega
  · rename_i k
    have := low (m - 9223372036854775808) (by omega)
    rw [show (2 : Nat) ^ 63 = 9223372036854775808 by decide] at this
    have e : m = (m - 9223372036854775808) ^^^ 9223372036854775808 := by omega
    rw [e, Nat.xor_assoc, Nat.xor_self, Nat.xor_zero]
    omega
set_option maxRecDepth 100000 in
theorem turn_bits {n : Int} (h0 : -9223372036854775808 ≤ n) (h1 : n < 9223372036854775808) : bits BinOp.xor IntKind.u64 (IntKind.u64.wrap n) 9223372036854775808 = (turnN n : Int) := by
  have e : IntKind.u64.wrap n = (((n % 18446744073709551616).toNat : Nat) : Int) := by rw [IntKind.wrap_u64]; omega
  have e2 : (9223372036854775808 : Int) = ((9223372036854775808 : Nat) : Int) := rfl
  rw [e, e2, bits_xor_u64_nat _ _ (by omega) (by omega), xor63 _ (by omega)]
  unfold turnN
  split <;> omega
def KputC (t : Tr) : Prop := ∀ (B : Nat) (w : World) (x : Ad) (b : Nat) (l : List UInt8), Lies B w t x → B ≤ b → Bld w b l → l.length + (keyT t).length ≤ 900000 →
    Calls Tryz.prog 113 #[.pointer (some ⟨b, 0, none⟩), t.val x] w fun e w' => e = .returned (.tuple #[]) ∧ Bld w' b (l ++ keyT t) ∧ Below b w w' ∧ Tame w w'
end Go.Proofs.YtniljoojoafiaaaGreatDoor.V
namespace Go.Proofs
open Go.Shelf
def Tryz.lays155_ren : Go.Shelf.Ren := ⟨fun | 155 => 163 | 154 => 166 | 138 => 167 | 165 => 168 | 143 => 169 | 166 => 93 | 197 => 170 | 169 => 65 | 195 => 171 | 218 => 172 | 240 => 117 | 241 => 173 | 219 => 174 | 260 => 175 | 276 => 152 | 277 => 176 | 217 => 177 | 225 => 178 | 224 => 179 | 267 => 180 | 266 => 181 | 314 => 182 | n => n, fun | 9 => 9 | 3 => 3 | 4 => 4 | 72 => 126 | 0 => 0 | 76 => 151 | 105 => 215 | 21 => 21 | 5 => 5 | 70 => 123 | 20 => 20 | 37 => 124 | 75 => 149 | 127 => 156 | 164 => 195 | 46 => 133 | 119 => 221 | 139 => 224 | 138 => 223 | 146 => 225 | 51 => 180 | 80 => 128 | n => n, fun | 1 => 0 | 3 => 1 | 4 => 2 | n => n⟩
set_option maxRecDepth 100000 in
theorem Tryz.lays155 : Go.Proofs.Lays.n155 Tryz.prog Tryz.lays155_ren := {
  mixed := by kernel_rfl
  f138 := Tryz.func167.trans (congrArg some (by kernel_rfl))
  f143 := Tryz.func169.trans (congrArg some (by kernel_rfl))
  f154 := Tryz.func166.trans (congrArg some (by kernel_rfl))
  f155 := Tryz.func163.trans (congrArg some (by kernel_rfl))
  f165 := Tryz.func168.trans (congrArg some (by kernel_rfl))
  f166 := Tryz.func93.trans (congrArg some (by kernel_rfl))
  f169 := Tryz.func65.trans (congrArg some (by kernel_rfl))
  f195 := Tryz.func171.trans (congrArg some (by kernel_rfl))
  f197 := Tryz.func170.trans (congrArg some (by kernel_rfl))
  f217 := Tryz.func177.trans (congrArg some (by kernel_rfl))
  f218 := Tryz.func172.trans (congrArg some (by kernel_rfl))
  f219 := Tryz.func174.trans (congrArg some (by kernel_rfl))
  f224 := Tryz.func179.trans (congrArg some (by kernel_rfl))
  f225 := Tryz.func178.trans (congrArg some (by kernel_rfl))
  f240 := Tryz.func117.trans (congrArg some (by kernel_rfl))
  f241 := Tryz.func173.trans (congrArg some (by kernel_rfl))
  f260 := Tryz.func175.trans (congrArg some (by kernel_rfl))
  f266 := Tryz.func181.trans (congrArg some (by kernel_rfl))
  f267 := Tryz.func180.trans (congrArg some (by kernel_rfl))
  f276 := Tryz.func152.trans (congrArg some (by kernel_rfl))
  f277 := Tryz.func176.trans (congrArg some (by kernel_rfl))
  f314 := Tryz.func182.trans (congrArg some (by kernel_rfl))
  t0 := Tryz.underlying0
  a0 := Tryz.isAgg0
  z0 := Tryz.sizeOf0
  v0 := Tryz.zeroValue0
  t3 := Tryz.underlying3
  a3 := Tryz.isAgg3
  z3 := Tryz.sizeOf3
  v3 := Tryz.zeroValue3
  t4 := Tryz.underlying4
  a4 := Tryz.isAgg4
  z4 := Tryz.sizeOf4
  v4 := Tryz.zeroValue4
  t5 := Tryz.underlying5
  a5 := Tryz.isAgg5
  z5 := Tryz.sizeOf5
  v5 := Tryz.zeroValue5
  t9 := Tryz.underlying9
  a9 := Tryz.isAgg9
  z9 := Tryz.sizeOf9
  v9 := Tryz.zeroValue9
  t20 := Tryz.underlying20
  a20 := Tryz.isAgg20
  z20 := Tryz.sizeOf20
  v20 := Tryz.zeroValue20
  t21 := Tryz.underlying21
  a21 := Tryz.isAgg21
  z21 := Tryz.sizeOf21
  v21 := Tryz.zeroValue21
  t37 := Tryz.underlying124
  a37 := Tryz.isAgg124
  z37 := Tryz.sizeOf124
  v37 := Tryz.zeroValue124
  t46 := Tryz.underlying133
  a46 := Tryz.isAgg133
  z46 := Tryz.sizeOf133
  v46 := Tryz.zeroValue133
  t51 := Tryz.underlying180
  a51 := Tryz.isAgg180
  z51 := Tryz.sizeOf180
  v51 := Tryz.zeroValue180
  t70 := Tryz.underlying123
  a70 := Tryz.isAgg123
  z70 := Tryz.sizeOf123
  v70 := Tryz.zeroValue123
  t72 := Tryz.underlying126
  a72 := Tryz.isAgg126
  z72 := Tryz.sizeOf126
  v72 := Tryz.zeroValue126
  t75 := Tryz.underlying149
  a75 := Tryz.isAgg149
  z75 := Tryz.sizeOf149
  v75 := Tryz.zeroValue149
  t76 := Tryz.underlying151
  a76 := Tryz.isAgg151
  z76 := Tryz.sizeOf151
  v76 := Tryz.zeroValue151
  t105 := Tryz.underlying215
  a105 := Tryz.isAgg215
  z105 := Tryz.sizeOf215
  v105 := Tryz.zeroValue215
  t119 := Tryz.underlying221
  a119 := Tryz.isAgg221
  z119 := Tryz.sizeOf221
  t127 := Tryz.underlying156
  a127 := Tryz.isAgg156
  z127 := Tryz.sizeOf156
  v127 := Tryz.zeroValue156
  t138 := Tryz.underlying223
  a138 := Tryz.isAgg223
  z138 := Tryz.sizeOf223
  v138 := Tryz.zeroValue223
  t139 := Tryz.underlying224
  a139 := Tryz.isAgg224
  z139 := Tryz.sizeOf224
  v139 := Tryz.zeroValue224
  t146 := Tryz.underlying225
  a146 := Tryz.isAgg225
  z146 := Tryz.sizeOf225
  v146 := Tryz.zeroValue225
  t164 := Tryz.underlying195
  a164 := Tryz.isAgg195
  z164 := Tryz.sizeOf195
  v164 := Tryz.zeroValue195
  g1 := by kernel_rfl
  g3 := by kernel_rfl
  g4 := by kernel_rfl }
set_option maxRecDepth 100000 in
theorem Tryz.Builder_Extra_155 : Builder.Extra Tryz.prog Tryz.lays155_ren := {
  sizeBuilder := by kernel_rfl
  liesBuilder := by kernel_rfl
  t5 := Tryz.underlying5
  a5 := Tryz.isAgg5
  z5 := Tryz.sizeOf5
  v5 := Tryz.zeroValue5
  infoByte := by kernel_rfl
  cellsByte := by kernel_rfl
  sizeByte := by kernel_rfl
  neB5 := by decide }
set_option maxRecDepth 100000 in
open Go.RowKit Go.Lib in
theorem Tryz.strings_ReplaceAll (s old new : ByteArray) (m : Int) (w : World) (hs : s.size < 4294967281) (hm : w.cell? ⟨0, 0, none⟩ = some (.int .i64 m)) (h1 : 1 ≤ old.size) (hlen : s.size + Lib.countB s old * new.size ≤ 140737488355328) :
    Calls Tryz.prog 163 #[.string s, .string old, .string new] w fun e w' =>
      e = .returned (.string ⟨(Lib.replaceAll s.data.toList old.data.toList new.data.toList).toArray⟩) ∧ Below w.heap.size w w' := Any.strings_ReplaceAll Tryz.lays155 Tryz.Builder_Extra_155 s old new m w hs hm h1 hlen
end Go.Proofs
namespace Go.Proofs.YtniljoojoafiaaaGreatDoor.V
open Go.RowKit
set_option maxRecDepth 100000 in
theorem esc_replace (s : List UInt8) : Lib.replaceK [0] [0, 255] (Lib.count s [0]) s = escL s := by
  induction s with
  | nil => rfl
  | cons c r ih =>
    by_cases hc : c = 0
    · subst hc
      have hi : Lib.index (0 :: r) [0] = ((0 : Nat) : Int) := by simp [Lib.index]
      rw [Lib.count_cons_eq, Nat.add_comm, Lib.replaceK_hit _ _ _ _ 0 hi]
      show [0, 255] ++ Lib.replaceK [0] [0, 255] (Lib.count r [0]) r = _
      rw [ih]
      simp [escL]
    · rw [Lib.count_cons_ne _ _ _ hc]
      have e : escL (c :: r) = c :: escL r := by rw [escL, if_neg hc]
      rw [e, ← ih]
      cases hk : Lib.count r [0] with
      | zero => rfl
      | succ k =>
        obtain ⟨i, hi⟩ := Lib.index_of_count (s := r) (old := [0]) (by omega)
        have hi2 : Lib.index (c :: r) [0] = ((i + 1 : Nat) : Int) := by
          rw [Lib.index, hi, if_neg (by simp [Ne.symm hc]), if_neg (by simp)]
          omega
        rw [Lib.replaceK_hit _ _ _ _ i hi, Lib.replaceK_hit _ _ _ _ (i + 1) hi2]
        rfl
set_option maxRecDepth 100000 in
theorem esc_all (s : List UInt8) : Lib.replaceAll s [0] [0, 255] = escL s := by
  unfold Lib.replaceAll Lib.replace Lib.replaceNum
  rw [if_neg (by decide), if_pos (Or.inl (by decide))]
  exact esc_replace s
set_option maxRecDepth 100000 in
theorem escL_len (s : List UInt8) : (escL s).length ≤ 2 * s.length := by
  induction s with
  | nil => exact Nat.le_refl _
  | cons c r ih =>
    rw [escL, List.length_cons, List.length_cons]
    split
    · rw [List.length_cons]; omega
    · omega
set_option maxRecDepth 100000 in
theorem ktextL_len (s : ByteArray) : (ktextL s).length ≤ 2 * s.size + 2 := by
  unfold ktextL
  have := escL_len s.data.toList
  have e := Lib.size_eq s
  rw [List.length_append]
  show _ + 2 ≤ _
  omega
set_option maxRecDepth 20000 in
set_option maxHeartbeats 2000000 in
theorem putBool_any (b : Nat) (l : List UInt8) (y : Bool) (w : World) (hbl : Bld w b l) (hl : l.length ≤ 900001) :
    Calls Tryz.prog 144 #[.pointer (some ⟨b, 0, none⟩), .bool y] w fun e w' => e = .returned (.tuple #[]) ∧ Bld w' b (l ++ [if y then 1 else 0]) ∧ Below b w w' ∧ Tame w w' := by
  cases y with
  | true =>
    go_enter Tryz.func144, Tryz.ntmps144
    go_wp2_with fail
    refine (b_byte b l 1 w hbl (by omega) 1 (by decide)).mono ?_
    rintro e w1 ⟨rfl, h1, h2, h3⟩
    go_wp2
    go_end0
    exact ⟨rfl, h1, h2, h3⟩
  | false =>
    go_enter Tryz.func144, Tryz.ntmps144
    go_wp2_with fail
    refine (b_byte b l 0 w hbl (by omega) 0 (by decide)).mono ?_
    rintro e w1 ⟨rfl, h1, h2, h3⟩
    go_wp2
    go_end0
    exact ⟨rfl, h1, h2, h3⟩
def Gm (w : World) : Prop := ∃ m : Int, w.cell? ⟨0, 0, none⟩ = some (.int .i64 m)
set_option maxRecDepth 100000 in
theorem Gm.later {w w' : World} {B : Nat} (h : Gm w) (hb : Below B w w') (hB : 0 < B) : Gm w' := by
  obtain ⟨m, hm⟩ := h
  exact ⟨m, cell_later hm hB hb⟩
set_option maxRecDepth 20000 in
set_option maxHeartbeats 2000000 in
theorem putText_any (b : Nat) (l : List UInt8) (s : ByteArray) (w : World) (hg : Gm w) (hbl : Bld w b l) (hl : l.length ≤ 900001) (hs : s.size ≤ 4096) :
    Calls Tryz.prog 145 #[.pointer (some ⟨b, 0, none⟩), .string s] w fun e w' => e = .returned (.tuple #[]) ∧ Bld w' b (l ++ ktextL s) ∧ Below b w w' ∧ Tame w w' := by
  obtain ⟨m, hm⟩ := hg
  have hcl : Lib.countB s ⟨#[0]⟩ ≤ s.size := Lib.countB_le ⟨#[0]⟩ (by decide) s.size s (Nat.le_refl _)
  have hr := Tryz.strings_ReplaceAll s ⟨#[0]⟩ ⟨#[0, 255]⟩ m w (by omega) hm (by decide) (by
    have h2 : (⟨#[0, 255]⟩ : ByteArray).size = 2 := rfl
    rw [h2]; omega)
  rw [show (⟨#[0]⟩ : ByteArray).data.toList = [0] from rfl, show (⟨#[0, 255]⟩ : ByteArray).data.toList = [0, 255] from rfl, esc_all] at hr
  have hel := escL_len s.data.toList
  rw [← Lib.size_eq] at hel
  obtain ⟨u, hu⟩ : ∃ u : ByteArray, (⟨(escL s.data.toList).toArray⟩ : ByteArray) = u := ⟨_, rfl⟩
  have HU : Hid (u.data.toList = escL s.data.toList) := by show _ = _; rw [← hu]
  have hus : u.size ≤ 8192 := by rw [Lib.size_eq, HU.out]; omega
  rw [hu] at hr
  clear hu hcl
  have hb0 := hbl.lt
  go_enter Tryz.func145, Tryz.ntmps145
  go_wp2_with fail
  refine hr.mono ?_
  rintro e w1 ⟨rfl, hb1⟩
  go_wp2_with fail
  refine (b_text b l u w1 (hbl.later hb1) (by omega) (by omega)).mono ?_
  rintro e w2 ⟨rfl, hbl2, hbb2, ht2⟩
  rw [HU.out] at hbl2
  go_wp2_with fail
  refine (b_text b _ ⟨#[0, 1]⟩ w2 hbl2 (by rw [List.length_append]; omega) (by decide)).mono ?_
  rintro e w3 ⟨rfl, hbl3, hbb3, ht3⟩
  go_wp2
  go_end0
  refine ⟨rfl, ?_, ((hb1.mono (by omega)).trans hbb2).trans hbb3, ((Tame.ofBelow hb1).trans ht2).trans ht3⟩
  unfold ktextL
  rw [← List.append_assoc]
  exact hbl3
end Go.Proofs.YtniljoojoafiaaaGreatDoor.V
