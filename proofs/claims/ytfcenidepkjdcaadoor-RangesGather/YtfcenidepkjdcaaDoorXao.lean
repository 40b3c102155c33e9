/- The parts of a list or a struct, taken of bytes (takeParts). How far what is taken may reach: plain facts. A value, taken of bytes (take). A value, taken of bytes (take): nothing, lists, structs, kinds that are none; and of any bytes. The value of bytes (Decode): what it is, or the first error. The order of the parts of two values (compareParts). The order of values (Compare, Same). The struct of 'awake': its order, its bytes, what they are taken as. A struct there and back (awake). A list of two values (List); ValueOwn called: true, and nothing that was there is changed. -/
import Derived.Test.YtfcenidepkjdcaaDoorXac
import Derived.Test.YtfcenidepkjdcaaDoorVCuta
import Derived.Deep.RegionLaw
import Derived.BigGuardPart
import Derived.Test.YtfcenidepkjdcaaDoorXal
import Derived.Test.YtfcenidepkjdcaaDoorXaf
import Derived.Deep.RegionHeld3
import Derived.Test.YtfcenidepkjdcaaDoorVStr
import Derived.Test.YtfcenidepkjdcaaDoorXag
import Derived.Test.YtfcenidepkjdcaaDoorXak
namespace Go.Proofs.YtfcenidepkjdcaaDoor.V
open Go.RowKit
set_option maxRecDepth 100000 in
theorem run_ts (s : ByteArray) (six : Bool) (T : Nat → Int → Tak) (x : St) : ∀ n, (runA s six T x n).ts = x.ts ++ (List.range n).map (fun j => (T (nameA s six (runA s six T x j)).o (nameA s six (runA s six T x j)).e).t)
  | 0 => by simp [runA]
  | n + 1 => by rw [runA, stepA, run_ts s six T x n, List.range_succ, List.map_append, List.append_assoc]; rfl
set_option maxRecDepth 100000 in
theorem run_ns_len (s : ByteArray) (T : Nat → Int → Tak) (x : St) : ∀ n, (runA s true T x n).ns.length = x.ns.length + n
  | 0 => rfl
  | n + 1 => by rw [runA, stepA]; simp [run_ns_len s T x n]; omega
set_option maxRecDepth 100000 in
theorem run_ns_none (s : ByteArray) (T : Nat → Int → Tak) (x : St) : ∀ n, (runA s false T x n).ns = x.ns
  | 0 => rfl
  | n + 1 => by rw [runA, stepA]; simp [run_ns_none s T x n]
set_option maxRecDepth 100000 in
theorem only_alloc {b : Nat} {u v : World} (h : Only b u v) (o : Obj) : Only b u (v.alloc o) := h.trans (Only.ofBelow ((Below.refl _ v).alloc (Nat.le_refl _) o))
set_option maxRecDepth 100000 in
theorem only_grown {b : Nat} {u v w : World} {row : Option Nat} (h : Only b u v) (hg : v.grownBy w row) (hr : ∀ k, row = some k → u.heap.size ≤ k) : Only b u w :=
  ⟨hg.os.trans h.os, hg.tape.trans h.tape, hg.output.trans h.output, Nat.le_trans h.size hg.size, fun k hk hb => (hg.block k (Nat.lt_of_lt_of_le hk h.size) (fun e => by have := hr k e.symm; omega)).trans (h.block k hk hb)⟩
set_option maxRecDepth 100000 in
theorem only_set {b z : Nat} {u v : World} (h : Only b u v) (hz : u.heap.size ≤ z) (j : Nat) (x : Value) : Only b u (v.setCell ⟨z, j, none⟩ x) :=
  ⟨h.os, h.tape, h.output, by simpa using h.size, fun k hk hb => (Below.heap_setCell v ⟨z, j, none⟩ x k (by show k ≠ z; omega)).trans (h.block k hk hb)⟩
end Go.Proofs.YtfcenidepkjdcaaDoor.V
namespace Go.Proofs.YtfcenidepkjdcaaDoor.V
open Go.RowKit
set_option maxRecDepth 100000 in
theorem uintA_le {s : ByteArray} {o : Nat} {er : Int} (ho : o ≤ s.size) : (uintA s o er).o ≤ s.size := by
  unfold uintA
  split
  · exact (tkA_bound ho).2.1
  · exact ho
set_option maxRecDepth 100000 in
theorem countA_le {s : ByteArray} {o : Nat} {er m : Int} (ho : o ≤ s.size) : (countA s o er m).o ≤ s.size := by
  unfold countA
  split
  · have h1 := (tkA_bound ho).2.1
    have h2 := (cnt_sz (T := tkA s o) (m := m)).1
    show o + (cnt (tkA s o) m).sz ≤ s.size
    omega
  · exact ho
set_option maxRecDepth 100000 in
theorem bytesA_le {s : ByteArray} {o : Nat} {er n : Int} (ho : o ≤ s.size) : (bytesA s o er n).o ≤ s.size := by
  unfold bytesA
  split
  · split
    · exact ho
    · split
      · exact ho
      · show o + n.toNat ≤ s.size
        omega
  · exact ho
set_option maxRecDepth 100000 in
theorem textA_le {s : ByteArray} {o : Nat} {er m : Int} (ho : o ≤ s.size) : (textA s o er m).o ≤ s.size := by
  unfold textA
  split
  · split
    · split
      · exact ho
      · rename_i h; exact Nat.le_of_not_lt h
    · exact ho
  · exact ho
set_option maxRecDepth 100000 in
theorem boolA_le {s : ByteArray} {o : Nat} {er : Int} (ho : o ≤ s.size) : (boolA s o er).o ≤ s.size := by
  unfold boolA
  split
  · split
    · split
      · exact ho
      · rename_i h _; exact h
    · exact ho
  · exact ho
end Go.Proofs.YtfcenidepkjdcaaDoor.V
namespace Go.Proofs.YtfcenidepkjdcaaDoor.V
open Go.RowKit
set_option maxRecDepth 100000 in
theorem textA_size {s : ByteArray} {o : Nat} {er m : Int} : (textA s o er m).v.size ≤ s.size := by
  unfold textA
  split
  · split
    · split
      · exact Nat.zero_le _
      · simp; omega
    · exact Nat.zero_le _
  · exact Nat.zero_le _
set_option maxRecDepth 100000 in
theorem countA_v {s : ByteArray} {o : Nat} {er : Int} : (countA s o er 32).v ≤ 32 := by
  unfold countA
  split
  · by_cases h : (cnt (tkA s o) 32).er = 0
    · have := (cnt_most h).2
      show (cnt (tkA s o) 32).n ≤ 32
      omega
    · have := (cnt_err (m := 32) (tkA_err (s := s) (o := o)) h).1
      show (cnt (tkA s o) 32).n ≤ 32
      omega
  · exact Nat.zero_le _
set_option maxRecDepth 100000 in
theorem zag_range {n : Nat} (h : n < 18446744073709551616) : -9223372036854775808 ≤ zag n ∧ zag n < 9223372036854775808 := by
  unfold zag
  split <;> omega
set_option maxRecDepth 100000 in
theorem zag_uintA {s : ByteArray} {o : Nat} (ho : o ≤ s.size) : -9223372036854775808 ≤ zag (uintA s o 0).v ∧ zag (uintA s o 0).v < 9223372036854775808 := zag_range (uintA_lt ho)
end Go.Proofs.YtfcenidepkjdcaaDoor.V
namespace Go.Proofs.YtfcenidepkjdcaaDoor.V
open Go.RowKit
end Go.Proofs.YtfcenidepkjdcaaDoor.V
namespace Go.Proofs.YtfcenidepkjdcaaDoor.V
open Go.RowKit
set_option maxRecDepth 100000 in
theorem small_leaf {k : Int} {b : Bool} {n : Int} {s : ByteArray} (h : s.size ≤ 4096) : small (leafT k b n s) := ⟨h, fun i hi => by omega⟩
set_option maxRecDepth 100000 in
theorem small_take {s : ByteArray} (hs : s.size ≤ 4096) : ∀ D o e, small (takeA s D o e).t
  | 0, _, _ => small_leaf (Nat.zero_le _)
  | D + 1, o, e => by
    rw [takeA]
    by_cases he : e = 0
    · rw [if_pos he]
      by_cases h1 : o < s.size
      · rw [if_pos h1]
        unfold nodeA
        have hz : ((⟨#[]⟩ : ByteArray)).size ≤ 4096 := Nat.zero_le _
        by_cases k0 : byteAt s o = 0
        · rw [if_pos k0]; exact small_leaf hz
        rw [if_neg k0]
        by_cases k1 : byteAt s o = 1
        · rw [if_pos k1]; exact small_leaf hz
        rw [if_neg k1]
        by_cases k2 : byteAt s o = 2
        · rw [if_pos k2]; exact small_leaf hz
        rw [if_neg k2]
        by_cases k3 : byteAt s o = 3 ∨ byteAt s o = 4
        · rw [if_pos k3]; exact small_leaf (by have := textA_size (s := s) (o := o + 1) (er := 0) (m := 1024); omega)
        rw [if_neg k3]
        by_cases k5 : byteAt s o = 5 ∨ byteAt s o = 6
        · rw [if_pos k5]
          refine ⟨hz, fun i hi => ?_⟩
          show small ((runA s (byteAt s o == 6) (takeA s D) ⟨[], [], (countA s (o + 1) 0 32).o, (countA s (o + 1) 0 32).e⟩ (countA s (o + 1) 0 32).v).ts.getD i .no)
          rw [run_ts, List.nil_append, List.getD_eq_getElem?_getD, List.getElem?_map]
          cases (List.range (countA s (o + 1) 0 32).v)[i]? with
          | none => exact trivial
          | some j => exact small_take hs D _ _
        · rw [if_neg k5]; exact small_leaf hz
      · rw [if_neg h1]; exact small_leaf (Nat.zero_le _)
    · rw [if_neg he]; exact small_leaf (Nat.zero_le _)
def endE (s : ByteArray) (k : Tak) : Int := if k.e = 0 then (if k.o < s.size then 5 else 0) else k.e
def decE (s : ByteArray) : Int := if endE s (takeA s 8 0 0) = 0 then checkT (takeA s 8 0 0).t else endE s (takeA s 8 0 0)
end Go.Proofs.YtfcenidepkjdcaaDoor.V
namespace Go.Proofs.YtfcenidepkjdcaaDoor.V
open Go.RowKit
set_option maxRecDepth 100000 in
theorem cmpL_zero : ∀ {a b : List UInt8}, Lib.compareBytes a b = 0 → a = b
  | [], [], _ => rfl
  | [], _ :: _, h => by cases h
  | _ :: _, [], h => by cases h
  | x :: a, y :: b, h => by
    rw [Lib.compareBytes] at h
    split at h
    · cases h
    · split at h
      · cases h
      · rename_i h1 h2
        have hxy : x = y := by
          have h3 : ¬ x.toNat < y.toNat := h1
          have h4 : ¬ y.toNat < x.toNat := h2
          exact UInt8.toNat_inj.mp (by omega)
        rw [hxy, cmpL_zero h]
set_option maxRecDepth 100000 in
theorem lies_drewN {B : Nat} {w : World} {t : Tr} {x : Ad} (h : Lies B w t x) (n : Nat) : Lies B (w.drewN n) t x := LiesS.kept (w := w) (w' := w.drewN n) (fun _ _ => rfl) h
set_option maxRecDepth 100000 in
theorem cmpB_zero {a b : ByteArray} (h : cmpB a b = 0) : a.data.toList = b.data.toList := cmpL_zero h
end Go.Proofs.YtfcenidepkjdcaaDoor.V
namespace Go.Proofs.YtfcenidepkjdcaaDoor.V
open Go.RowKit
end Go.Proofs.YtfcenidepkjdcaaDoor.V
namespace Go.Proofs.YtfcenidepkjdcaaDoor.V
open Go.RowKit
def gA (i : Nat) : ByteArray := if i = 0 then ⟨#[98]⟩ else ⟨#[97]⟩
def fA (i : Nat) : Tr := if i = 0 then leafT 2 false 1 ⟨#[]⟩ else leafT 3 false 0 ⟨#[120]⟩
set_option maxRecDepth 100000 in
theorem gA0 : gA 0 = ⟨#[98]⟩ := rfl
set_option maxRecDepth 100000 in
theorem gA1 : gA 1 = ⟨#[97]⟩ := rfl
set_option maxRecDepth 100000 in
theorem cmpA : cmpB (gA 1) (gA 0) = -1 := by decide
set_option maxRecDepth 100000 in
theorem sortA : sortF gA 1 (idF 1) = #[1, 0] := by
  have h : ltOf (cfF gA 1) (1 : Fin 2) (0 : Fin 2) = true := by
    show decide (cmpB (gA 1) (gA 0) < 0) = true
    rw [cmpA]; decide
  have h2 : idF 1 = #[0, 1] := by decide
  unfold sortF Sort.insertionSort
  rw [h2]
  show Sort.insOuter _ 0 2 1 _ = _
  unfold Sort.insOuter
  rw [if_pos (by omega)]
  unfold Sort.insOuter
  rw [if_neg (by omega)]
  show (if (decide (0 + 1 > 0) && ltOf (cfF gA 1) (1 : Fin 2) (0 : Fin 2)) = true then Sort.insInner _ 0 0 _ else _) = _
  rw [h]
  rfl
set_option maxRecDepth 100000 in
theorem osA0 : osF gA 1 0 = 1 := by unfold osF; rw [sortA]; rfl
set_option maxRecDepth 100000 in
theorem osA1 : osF gA 1 1 = 0 := by unfold osF; rw [sortA]; rfl
set_option maxRecDepth 100000 in
theorem neA : ((gA 0).toList == (gA 1).toList) = false := by rw [Lib.toList_data, Lib.toList_data]; decide
set_option maxRecDepth 100000 in
theorem keptA : keptP gA (osF gA 1) 2 2 = [1, 0] := by
  have k1 : keepP gA (osF gA 1) 2 1 = true := by unfold keepP; rfl
  have k0 : keepP gA (osF gA 1) 2 0 = true := by unfold keepP; rw [osA0, osA1, neA]; rfl
  show (if keepP gA (osF gA 1) 2 1 then (if keepP gA (osF gA 1) 2 0 then [] ++ [osF gA 1 0] else []) ++ [osF gA 1 1] else _) = _
  rw [if_pos k1, if_pos k0, osA0, osA1]
  rfl
def tA : Tr := .mk 6 false 0 ⟨#[]⟩ 2 (fun j => fA (([1, 0] : List Nat).getD j 0)) 2 (fun j => (([1, 0] : List Nat).map gA).getD j ⟨#[]⟩)
set_option maxRecDepth 100000 in
theorem structA : structT gA fA (osF gA 1) (1 + 1) = tA := by unfold structT; rw [keptA]; rfl
def bA : ByteArray := ⟨#[6, 2, 1, 97, 3, 1, 120, 1, 98, 2, 2]⟩
set_option maxRecDepth 100000 in
theorem put1 : put 1 = [1] := by rw [put]; decide
set_option maxRecDepth 100000 in
theorem put2 : put 2 = [2] := by rw [put]; decide
set_option maxRecDepth 100000 in
theorem leaf3 : soundT (leafT 3 false 0 ⟨#[120]⟩) 2 = 0 := by
  have h3 : formedB 3 false 0 ⟨#[120]⟩ 0 0 = true := by unfold formedB; rw [empty_size]; decide
  unfold leafT
  rw [soundT, if_neg (by decide), if_neg (by rw [h3]; decide), if_neg (by decide), if_neg (fun h => absurd h.1 (by decide))]
  rfl
set_option maxRecDepth 100000 in
theorem leaf2 : soundT (leafT 2 false 1 ⟨#[]⟩) 2 = 0 := by
  have h2 : formedB 2 false 1 ⟨#[]⟩ 0 0 = true := by unfold formedB; rw [empty_size]; decide
  unfold leafT
  rw [soundT, if_neg (by decide), if_neg (by rw [h2]; decide), if_neg (by decide), if_neg (fun h => absurd h.1 (by decide))]
  rfl
section
variable {f : Nat → Tr} {g : Nat → ByteArray} (f0 : f 0 = leafT 3 false 0 ⟨#[120]⟩) (f1 : f 1 = leafT 2 false 1 ⟨#[]⟩) (g0 : g 0 = ⟨#[97]⟩) (g1 : g 1 = ⟨#[98]⟩)
include f0 f1 g0 g1
set_option maxRecDepth 100000 in
theorem bytesA2 : bytesT (.mk 6 false 0 ⟨#[]⟩ 2 f 2 g) = bA.data.toList := by
  show 6 :: (put 2 ++ (([] ++ (textL (g 0) ++ bytesT (f 0))) ++ (textL (g 1) ++ bytesT (f 1)))) = _
  rw [f0, f1, g0, g1]
  show 6 :: (put 2 ++ (([] ++ ((put 1 ++ [97]) ++ (3 :: (put 1 ++ [120])))) ++ ((put 1 ++ [98]) ++ (2 :: put 2)))) = _
  rw [put1, put2]
  rfl
set_option maxRecDepth 100000 in
theorem soundA : soundT (.mk 6 false 0 ⟨#[]⟩ 2 f 2 g) 1 = 0 := by
  have hf : formedB 6 false 0 ⟨#[]⟩ 2 2 = true := by unfold formedB; rw [empty_size]; decide
  have hn : namedB 2 2 g = true := by
    refine namedB_yes (fun i hi => ?_)
    have : i = 0 ∨ i = 1 := by omega
    rcases this with rfl | rfl
    · unfold okN; rw [g0]; decide
    · unfold okN
      rw [Lib.toList_data, Lib.toList_data, g1]
      show (nameB _ && (_ || Op.bytesLess (g 0).data.toList _)) = true
      rw [g0]
      decide
  rw [soundT, if_neg (by decide), if_neg (by rw [hf]; decide), if_neg (by decide), if_neg (by rw [hn]; decide)]
  show (if (if (0 : Int) = 0 then soundT (f 0) 2 else 0) = 0 then soundT (f 1) 2 else (if (0 : Int) = 0 then soundT (f 0) 2 else 0)) = 0
  rw [f0, f1, leaf3, leaf2]
  rfl
set_option maxRecDepth 100000 in
theorem checkA : checkT (.mk 6 false 0 ⟨#[]⟩ 2 f 2 g) = 0 := by unfold checkT; rw [soundA f0 f1 g0 g1, bytesA2 f0 f1 g0 g1]; decide
set_option maxRecDepth 100000 in
theorem encA : encT (.mk 6 false 0 ⟨#[]⟩ 2 f 2 g) = bA := by unfold encT; rw [checkA f0 f1 g0 g1, bytesA2 f0 f1 g0 g1]; rfl
end
set_option maxRecDepth 100000 in
theorem takeA2 : (takeA bA 8 0 0).t = .mk 6 false 0 ⟨#[]⟩ 2 (takeA bA 8 0 0).t.f 2 (takeA bA 8 0 0).t.g ∧ (takeA bA 8 0 0).t.f 0 = leafT 3 false 0 ⟨#[120]⟩ ∧ (takeA bA 8 0 0).t.f 1 = leafT 2 false 1 ⟨#[]⟩ ∧ (takeA bA 8 0 0).t.g 0 = ⟨#[97]⟩ ∧ (takeA bA 8 0 0).t.g 1 = ⟨#[98]⟩ := ⟨rfl, rfl, rfl, rfl, rfl⟩
set_option maxRecDepth 100000 in
theorem endA : endE bA (takeA bA 8 0 0) = 0 := by decide
def tW : Tr := (takeA bA 8 0 0).t
set_option maxRecDepth 100000 in
theorem decA : decE bA = 0 := by
  unfold decE
  rw [if_pos endA, takeA2.1]
  exact checkA takeA2.2.1 takeA2.2.2.1 takeA2.2.2.2.1 takeA2.2.2.2.2
set_option maxRecDepth 100000 in
theorem sameA : cmpT tA tW = 0 := by decide
set_option maxRecDepth 100000 in
theorem idxA : Lib.idxBy (fun _ y => y.toList == (⟨#[97]⟩ : ByteArray).toList) ((List.range 2).map tW.g) (default : ByteArray) = 0 := by
  show Lib.idxBy _ [tW.g 0, tW.g 1] _ = _
  rw [show tW.g 0 = ⟨#[97]⟩ from takeA2.2.2.2.1, show tW.g 1 = ⟨#[98]⟩ from takeA2.2.2.2.2]
  simp only [Lib.toList_data]
  decide
set_option maxRecDepth 100000 in
theorem idxB : Lib.idxBy (fun _ y => y.toList == (⟨#[98]⟩ : ByteArray).toList) ((List.range 2).map tW.g) (default : ByteArray) = 1 := by
  show Lib.idxBy _ [tW.g 0, tW.g 1] _ = _
  rw [show tW.g 0 = ⟨#[97]⟩ from takeA2.2.2.2.1, show tW.g 1 = ⟨#[98]⟩ from takeA2.2.2.2.2]
  simp only [Lib.toList_data]
  decide
end Go.Proofs.YtfcenidepkjdcaaDoor.V
namespace Go.Proofs.YtfcenidepkjdcaaDoor.V
open Go.RowKit
set_option maxRecDepth 100000 in
theorem slimq_leaf (k : Int) (b : Bool) (n : Int) (s : ByteArray) : slimq (leafT k b n s) := ⟨Nat.zero_le _, Nat.zero_le _, fun i hi => absurd hi (Nat.not_lt_zero i)⟩
set_option maxRecDepth 100000 in
theorem fld0 (a b c d e f : Value) (W : World) : (Instr.field 29 (.agg #[a, b, c, d, e, f]) 0).run Tryd.prog W = .ok a W := by kernel_rfl
set_option maxRecDepth 100000 in
theorem fld1 (a b c d e f : Value) (W : World) : (Instr.field 29 (.agg #[a, b, c, d, e, f]) 1).run Tryd.prog W = .ok b W := by kernel_rfl
set_option maxRecDepth 100000 in
theorem fld2 (a b c d e f : Value) (W : World) : (Instr.field 29 (.agg #[a, b, c, d, e, f]) 2).run Tryd.prog W = .ok c W := by kernel_rfl
set_option maxRecDepth 100000 in
theorem fld3 (a b c d e f : Value) (W : World) : (Instr.field 29 (.agg #[a, b, c, d, e, f]) 3).run Tryd.prog W = .ok d W := by kernel_rfl
set_option maxRecDepth 100000 in
theorem one_max : 1 ≤ maxLen := by unfold maxLen; omega
set_option maxRecDepth 100000 in
theorem small_tA : small tA := ⟨by decide, fun i hi => by
  have : i = 0 ∨ i = 1 := by omega
  rcases this with rfl | rfl
  · exact small_leaf (by decide)
  · exact small_leaf (by decide)⟩
set_option maxRecDepth 100000 in
theorem get_A {B : Nat} {W : World} {x : Ad} (hL : Lies B W (.mk 6 false 0 ⟨#[]⟩ 2 tW.f 2 tW.g) x) (hB : B ≤ W.heap.size) :
    Calls Tryd.prog 45 #[.agg #[.int .i64 6, .bool false, .int .i64 0, .string ⟨#[]⟩, .slice x.pa 2 x.pc, .slice x.na 2 x.nc], .string ⟨#[97]⟩] W fun e w' => ∃ A : Ad, e = .returned (.agg #[.int .i64 3, .bool false, .int .i64 0, .string ⟨#[120]⟩, .slice A.pa 0 A.pc, .slice A.na 0 A.nc]) ∧ Below W.heap.size W w' := by
  have h := get_at hL hB ⟨#[97]⟩ 0 (by decide) (by decide) (by decide) (by rw [show tW.f 0 = leafT 3 false 0 ⟨#[120]⟩ from takeA2.2.1]; exact slimq_leaf _ _ _ _) idxA
  rw [show tW.f 0 = leafT 3 false 0 ⟨#[120]⟩ from takeA2.2.1] at h
  refine h.mono ?_
  rintro e w' ⟨A, h1, _, h3⟩
  exact ⟨A, h1, h3⟩
set_option maxRecDepth 100000 in
theorem get_B {B : Nat} {W : World} {x : Ad} (hL : Lies B W (.mk 6 false 0 ⟨#[]⟩ 2 tW.f 2 tW.g) x) (hB : B ≤ W.heap.size) :
    Calls Tryd.prog 45 #[.agg #[.int .i64 6, .bool false, .int .i64 0, .string ⟨#[]⟩, .slice x.pa 2 x.pc, .slice x.na 2 x.nc], .string ⟨#[98]⟩] W fun e w' => ∃ A : Ad, e = .returned (.agg #[.int .i64 2, .bool false, .int .i64 1, .string ⟨#[]⟩, .slice A.pa 0 A.pc, .slice A.na 0 A.nc]) ∧ Below W.heap.size W w' := by
  have h := get_at hL hB ⟨#[98]⟩ 1 (by decide) (by decide) (by decide) (by rw [show tW.f 1 = leafT 2 false 1 ⟨#[]⟩ from takeA2.2.2.1]; exact slimq_leaf _ _ _ _) idxB
  rw [show tW.f 1 = leafT 2 false 1 ⟨#[]⟩ from takeA2.2.2.1] at h
  refine h.mono ?_
  rintro e w' ⟨A, h1, _, h3⟩
  exact ⟨A, h1, h3⟩
end Go.Proofs.YtfcenidepkjdcaaDoor.V
namespace Go.Proofs.YtfcenidepkjdcaaDoor.V
open Go.RowKit
set_option maxRecDepth 100000 in
theorem slimq_cut (t : Tr) : ∀ deep wide, wide ≤ 33 → slimq (cutT t deep wide) := by
  induction t with
  | no => intro _ _ _; trivial
  | mk k b n s m f q g ih =>
    intro deep wide hw
    rw [cutT]
    refine ⟨?_, by omega, fun i _ => ih i _ _ (by decide)⟩
    split <;> omega
set_option maxRecDepth 100000 in
theorem small_cut (t : Tr) : ∀ deep wide, small (cutT t deep wide) := by
  induction t with
  | no => intro _ _; trivial
  | mk k b n s m f q g ih =>
    intro deep wide
    rw [cutT]
    refine ⟨?_, fun i _ => ih i _ _⟩
    split
    · rw [ByteArray.size_extract]; omega
    · omega
set_option maxRecDepth 100000 in
theorem cmpI_self (x : Int) : cmpI x x = 0 := by unfold cmpI; rw [if_neg (by omega), if_neg (by omega)]
set_option maxRecDepth 100000 in
theorem cmpL_self : ∀ l : List UInt8, Lib.compareBytes l l = 0
  | [] => rfl
  | x :: l => by rw [Lib.compareBytes]; simp [cmpL_self l]
set_option maxRecDepth 100000 in
theorem cmpB_self (s : ByteArray) : cmpB s s = 0 := cmpL_self _
set_option maxRecDepth 100000 in
theorem fe_none : ∀ (m : Nat) (F : Nat → Int), (∀ i, i < m → F i = 0) → fe m F = 0
  | 0, _, _ => rfl
  | m + 1, F, h => by
    rw [fe, fe_none m F (fun i hi => h i (by omega)), if_pos rfl]
    exact h m (by omega)
set_option maxRecDepth 100000 in
theorem cmpT_self (t : Tr) : cmpT t t = 0 := by
  induction t with
  | no => rfl
  | mk k b n s m f q g ih =>
    have h : fe (min m m) (cmpF q q g g (fun i => cmpT (f i) (f i))) = 0 := fe_none _ _ (fun i _ => by
      unfold cmpF
      rw [if_neg (fun hh => hh.2 rfl)]
      exact ih i)
    show (if k = k then (if k = 1 then cmpB (boolB b) (boolB b) else if k = 2 then cmpI n n else if k = 3 ∨ k = 4 then cmpB s s else if k = 5 ∨ k = 6 then (if fe (min m m) (cmpF q q g g (fun i => cmpT (f i) (f i))) = 0 then cmpI m m else fe (min m m) (cmpF q q g g (fun i => cmpT (f i) (f i)))) else 0) else cmpI k k) = 0
    rw [if_pos rfl, cmpB_self, cmpB_self, cmpI_self, h, if_pos rfl, cmpI_self]
    simp
end Go.Proofs.YtfcenidepkjdcaaDoor.V
