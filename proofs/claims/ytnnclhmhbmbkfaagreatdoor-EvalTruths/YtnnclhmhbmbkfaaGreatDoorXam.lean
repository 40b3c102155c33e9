/- Whether a text may be a name (Name, letter, digit). Whether a struct's names may be, rise, and are as many as its parts (named). Whether a value is formed, its kind and what it has (formed). The first error of a value that stands within so many (sound). The bytes of a number (Uint): of any number the call returns the bytes that the plain facts have, and nothing that was there has changed. The document's bytes of a number (Uint): of any number the call returns the bytes that the plain facts have, and nothing that was there has changed. The numbers that may be below 0, in bytes (enc.Int and the document's). Texts and yes or no, in bytes (enc.Text, enc.Bool and the document's). The order of texts and of numbers (strings.Compare, cmp.Compare). The place of a name (slices.IndexFunc with the closure of Get). The order of names (slices.SortStableFunc with Struct's closure, up to 12 of them) and the place of a name (slices.IndexFunc with Get's): the library's contracts, laid in plain words. A value that is not too great (Cut): its tree, and where it lies; a long text, too many parts. -/
import Derived.Test.YtnnclhmhbmbkfaaGreatDoorXaa
import Derived.BigGuardPart
import Derived.WalkKit
import Derived.WalkSpells
import Derived.WalkLawsBesides
import Derived.Deep.QuietTactic
import Derived.BigQuiet
import Derived.Lib.Strings
import Derived.Laws.BitsAllLaws
import Derived.Deep.RegionWith
import Derived.Lib.Bytealg
import Derived.Laws.Externs
import Derived.Shelf.SlSortCmp.Insertion
import Derived.Shelf.SlicesE.IndexFunc
import Derived.Deep.RegionHeld3
import Derived.Deep.RegionLaw
namespace Go.Proofs.YtnnclhmhbmbkfaaGreatDoor.V
open Go.RowKit
def digitB (x : Int) : Bool := decide (48 ≤ x) && decide (x ≤ 57)
def letterB (x : Int) : Bool := decide (97 ≤ x) && decide (x ≤ 122) || decide (65 ≤ x) && decide (x ≤ 90)
set_option maxRecDepth 100000 in
set_option maxHeartbeats 400000 in
theorem digit_any (x : Int) (w : World) : Calls Tryz.prog 128 #[.int .u8 x] w fun e w' => e = .returned (.bool (digitB x)) ∧ w' = w := by
  obtain ⟨F, hF⟩ : ∃ F, digitB x = F := ⟨_, rfl⟩
  rw [hF]
  have HF : Hid (digitB x = F) := hF
  clear hF
  go_enter Tryz.func128, Tryz.ntmps128
  go_wp2
  all_goals
    go_ret
    refine ⟨?_, rfl⟩
    have := HF.out
    unfold digitB at this
    subst this
    simp_all
  all_goals (first | (intros; omega) | (constructor <;> intros <;> omega) | (rw [Bool.eq_iff_iff]; simp; try (intros; omega)))
set_option maxRecDepth 100000 in
set_option maxHeartbeats 400000 in
theorem letter_any (x : Int) (w : World) : Calls Tryz.prog 129 #[.int .u8 x] w fun e w' => e = .returned (.bool (letterB x)) ∧ w' = w := by
  obtain ⟨F, hF⟩ : ∃ F, letterB x = F := ⟨_, rfl⟩
  rw [hF]
  have HF : Hid (letterB x = F) := hF
  clear hF
  go_enter Tryz.func129, Tryz.ntmps129
  go_wp2
  all_goals
    go_ret
    refine ⟨?_, rfl⟩
    have := HF.out
    unfold letterB at this
    subst this
    simp_all
  all_goals (first | (intros; omega) | (constructor <;> intros <;> omega) | (rw [Bool.eq_iff_iff]; simp; try (intros; omega)))
def chr (s : ByteArray) (i : Nat) : Int := (byteAt s i : Int)
set_option maxRecDepth 100000 in
theorem chr_eq (s : ByteArray) (i : Nat) (h : i < s.size) : ((s[i].toNat : Nat) : Int) = chr s i := by
  unfold chr byteAt
  have hl : i < s.data.toList.length := by rw [← Lib.size_eq]; exact h
  rw [List.getD_eq_getElem?_getD, List.getElem?_eq_getElem hl]
  rfl
def okB (x : Int) : Bool := letterB x || digitB x || decide (x = 95)
def nameB (s : ByteArray) : Bool := decide (0 < s.size) && decide (s.size ≤ 16) && !digitB (chr s 0) && decide (∀ i, i < s.size → okB (chr s i) = true)
set_option maxRecDepth 100000 in
theorem empty_size (s : ByteArray) : s.toList.isEmpty = decide (s.size = 0) := by
  rw [Lib.toList_data]
  have := Lib.size_eq s
  cases h : s.data.toList with
  | nil => rw [h] at this; simp at this; simp [this]
  | cons a l => rw [h] at this; simp at this; simp [this]
set_option maxRecDepth 100000 in
theorem nameB_no {s : ByteArray} {i : Nat} (h : i < s.size) (h1 : letterB (chr s i) = false) (h2 : digitB (chr s i) = false) (h3 : (chr s i != 95) = true) : nameB s = false := by
  have : decide (∀ i, i < s.size → okB (chr s i) = true) = false := by
    rw [decide_eq_false_iff_not]
    intro hh
    have := hh i h
    unfold okB at this
    rw [h1, h2] at this
    simp_all
  unfold nameB
  rw [this, Bool.and_false]
set_option maxRecDepth 100000 in
theorem nameB_yes {s : ByteArray} (h0 : 0 < s.size) (h1 : s.size ≤ 16) (h2 : digitB (chr s 0) = false) (h3 : ∀ i, i < s.size → okB (chr s i) = true) : nameB s = true := by
  unfold nameB
  rw [h2, decide_eq_true h0, decide_eq_true h1, decide_eq_true h3]; rfl
set_option maxRecDepth 100000 in
theorem okB_step {s : ByteArray} {i : Nat} (h : ∀ j, j < i → okB (chr s j) = true) (h1 : okB (chr s i) = true) : ∀ j, j < i + 1 → okB (chr s j) = true := fun j hj => by
  rcases Nat.lt_or_ge j i with k | k
  · exact h j k
  · obtain rfl : j = i := by omega
    exact h1
set_option maxRecDepth 100000 in
set_option maxHeartbeats 1000000 in
theorem name_in (s : ByteArray) (h2 : 0 < s.size) (h1 : s.size ≤ 16) (w : World) : Calls Tryz.prog 107 #[.string s] w fun e w' => e = .returned (.bool (nameB s)) ∧ w' = w := by
  have h0 : s.toList.isEmpty = false := by rw [empty_size]; exact decide_eq_false (by omega)
  have h1' : (s.size : Int) ≤ 16 := by omega
  have h2' : 0 < (s.size : Int) := by omega
  obtain ⟨F, hF⟩ : ∃ F, nameB s = F := ⟨_, rfl⟩
  rw [hF]
  have HF : Hid (nameB s = F) := hF
  clear hF
  go_enter Tryz.func107, Tryz.ntmps107
  go_wp2_with fail
  refine (digit_any _ _).mono ?_
  rintro e w ⟨rfl, rfl⟩
  rw [chr_eq s 0 h2]
  cases hd : digitB (chr s 0) with
  | true =>
    go_wp2
    go_ret
    refine ⟨?_, rfl⟩
    have := HF.out
    unfold nameB at this
    rw [hd, Bool.not_true, Bool.and_false, Bool.false_and] at this
    rw [← this]
    rfl
  | false =>
    have HD : Hid (digitB (chr s 0) = false) := hd
    clear hd
    go_wp2_with fail
    go_loopw [18] (fun c18 wr => ∃ i : Nat, i ≤ s.size ∧ c18 = .int .i64 (i : Int) ∧ (∀ j, j < i → okB (chr s j) = true) ∧ wr = w) (fun c18 _ => s.size - (intOf c18).toNat)
    case atStart => exact ⟨0, by omega, rfl, fun j hj => by omega, rfl⟩
    case round =>
      obtain ⟨i, hi, rfl, hj, rfl⟩ := hrel
      have HJ : Hid (∀ j, j < i → okB (chr s j) = true) := hj
      clear hj
      go_wp2_with (first | (go_at_call 128; refine (digit_any _ _).mono ?_; rintro e w ⟨rfl, rfl⟩) | (go_at_call 129; refine (letter_any _ _).mono ?_; rintro e w ⟨rfl, rfl⟩))
      · have a1 : i < s.size := by assumption
        have a2 : letterB (chr s i) = false := by rw [← chr_eq s i a1]; assumption
        have a3 : digitB (chr s i) = false := by rw [← chr_eq s i a1]; assumption
        have a4 : (chr s i != 95) = true := by rw [← chr_eq s i a1]; assumption
        go_ret
        exact ⟨by rw [← HF.out, nameB_no a1 a2 a3 a4]; rfl, rfl⟩
      · have a1 : i < s.size := by assumption
        have a4 : (chr s i != 95) = false := by rw [← chr_eq s i a1]; assumption
        go_roundw
        case rel =>
          refine ⟨i + 1, by omega, by go_num, okB_step HJ.out ?_, by trivial⟩
          unfold okB
          rw [bne_eq_false_iff_eq] at a4
          rw [a4]; rfl
        case measure => simp [intOf]; omega
      · have a1 : i < s.size := by assumption
        have a3 : digitB (chr s i) = true := by rw [← chr_eq s i a1]; assumption
        go_roundw
        case rel =>
          refine ⟨i + 1, by omega, by go_num, okB_step HJ.out ?_, by trivial⟩
          unfold okB
          rw [a3]; simp
        case measure => simp [intOf]; omega
      · have a1 : i < s.size := by assumption
        have a2 : letterB (chr s i) = true := by rw [← chr_eq s i a1]; assumption
        go_roundw
        case rel =>
          refine ⟨i + 1, by omega, by go_num, okB_step HJ.out ?_, by trivial⟩
          unfold okB
          rw [a2]; simp
        case measure => simp [intOf]; omega
      · go_ret
        obtain rfl : i = s.size := by omega
        exact ⟨by rw [← HF.out, nameB_yes h2 h1 HD.out HJ.out]; rfl, rfl⟩
set_option maxRecDepth 100000 in
set_option maxHeartbeats 1000000 in
theorem name_any (s : ByteArray) (w : World) : Calls Tryz.prog 107 #[.string s] w fun e w' => e = .returned (.bool (nameB s)) ∧ w' = w := by
  by_cases h2 : 0 < s.size
  · by_cases h1 : s.size ≤ 16
    · exact name_in s h2 h1 w
    · have hN : nameB s = false := by unfold nameB; rw [decide_eq_false h1]; simp
      rw [hN]
      clear hN
      have h0 : s.toList.isEmpty = false := by rw [empty_size]; exact decide_eq_false (by omega)
      have h1' : ¬ (s.size : Int) ≤ 16 := by omega
      have h1'' : (16 : Int) < (s.size : Int) := by omega
      go_enter Tryz.func107, Tryz.ntmps107
      go_wp2
      go_ret
      exact ⟨rfl, rfl⟩
  · have hN : nameB s = false := by unfold nameB; rw [decide_eq_false h2]; simp
    rw [hN]
    clear hN
    have h0 : s.toList.isEmpty = true := by rw [empty_size]; exact decide_eq_true (by omega)
    go_enter Tryz.func107, Tryz.ntmps107
    go_wp2
    go_ret
    exact ⟨rfl, rfl⟩
end Go.Proofs.YtnnclhmhbmbkfaaGreatDoor.V
namespace Go.Proofs.YtnnclhmhbmbkfaaGreatDoor.V
open Go.RowKit
def okN (g : Nat → ByteArray) (i : Nat) : Bool := nameB (g i) && (decide (i = 0) || Op.bytesLess (g (i - 1)).toList (g i).toList)
def namedB (q m : Nat) (g : Nat → ByteArray) : Bool := decide (q = m ∧ ∀ i, i < q → okN g i = true)
set_option maxRecDepth 100000 in
theorem namedB_no {q m : Nat} {g : Nat → ByteArray} {i : Nat} (h : i < q) (hn : okN g i = false) : namedB q m g = false := decide_eq_false (fun hh => by have := hh.2 i h; rw [hn] at this; cases this)
set_option maxRecDepth 100000 in
theorem namedB_yes {q : Nat} {g : Nat → ByteArray} (h : ∀ i, i < q → okN g i = true) : namedB q q g = true := decide_eq_true ⟨rfl, h⟩
set_option maxRecDepth 100000 in
theorem okN_name {g : Nat → ByteArray} {i : Nat} (h : nameB (g i) = false) : okN g i = false := by unfold okN; rw [h]; rfl
set_option maxRecDepth 100000 in
theorem okN_less {g : Nat → ByteArray} {j : Nat} (h : (!Op.bytesLess (g j).toList (g (j + 1)).toList) = true) : okN g (j + 1) = false := by
  unfold okN
  rw [Nat.add_sub_cancel]
  simp at h
  simp [h]
set_option maxRecDepth 100000 in
theorem okN_rise {g : Nat → ByteArray} {j : Nat} (h0 : nameB (g (j + 1)) = true) (h : (!Op.bytesLess (g j).toList (g (j + 1)).toList) = false) : okN g (j + 1) = true := by
  unfold okN
  rw [Nat.add_sub_cancel, h0]
  simp at h
  simp [h]
set_option maxRecDepth 100000 in
theorem okN_zero {g : Nat → ByteArray} (h0 : nameB (g 0) = true) : okN g 0 = true := by
  unfold okN
  rw [h0]
  rfl
set_option maxRecDepth 100000 in
theorem okN_step {g : Nat → ByteArray} {i : Nat} (h : ∀ j, j < i → okN g j = true) (h1 : okN g i = true) : ∀ j, j < i + 1 → okN g j = true := fun j hj => by
  rcases Nat.lt_or_ge j i with k | k
  · exact h j k
  · obtain rfl : j = i := by omega
    exact h1
end Go.Proofs.YtnnclhmhbmbkfaaGreatDoor.V
namespace Go.Proofs.YtnnclhmhbmbkfaaGreatDoor.V
open Go.RowKit
def formedB (k : Int) (b : Bool) (n : Int) (s : ByteArray) (m q : Nat) : Bool :=
  decide (0 ≤ k) && decide (k ≤ 6) && (decide (k = 1) || !b) && (decide (k = 2) || decide (n = 0)) && (decide (k = 3) || decide (k = 4) || s.toList.isEmpty) && (decide (k = 5) || decide (k = 6) || decide ((m : Int) = 0)) && (decide (k = 6) || decide ((q : Int) = 0))
def Tr.formed (t : Tr) : Bool := formedB t.k t.b t.n t.s t.m t.q
end Go.Proofs.YtnnclhmhbmbkfaaGreatDoor.V
namespace Go.Proofs.YtnnclhmhbmbkfaaGreatDoor.V
open Go.RowKit
def fe : Nat → (Nat → Int) → Int
  | 0, _ => 0
  | m + 1, F => if fe m F = 0 then F m else fe m F
set_option maxRecDepth 100000 in
theorem fe_at {F : Nat → Int} {i : Nat} : ∀ m, i < m → fe i F = 0 → F i ≠ 0 → fe m F = F i
  | 0, h, _, _ => by omega
  | m + 1, h, h1, h2 => by
    show (if fe m F = 0 then F m else fe m F) = F i
    rcases Nat.lt_or_ge i m with k | k
    · have e := fe_at m k h1 h2
      rw [e, if_neg h2]
    · obtain rfl : i = m := by omega
      rw [if_pos h1]
set_option maxRecDepth 100000 in
theorem fe_step {F : Nat → Int} {i : Nat} (h : fe i F = 0) (h1 : F i = 0) : fe (i + 1) F = 0 := by
  show (if fe i F = 0 then F i else fe i F) = 0
  rw [if_pos h, h1]
def soundT : Tr → Int → Int
  | .no, _ => 0
  | .mk k b n s m f q g, d =>
    if 8 < d then 30 else if formedB k b n s m q = false then 6 else if 32 < m then 3 else if k = 6 ∧ namedB q m g = false then 31
    else fe m (fun i => soundT (f i) (d + 1))
end Go.Proofs.YtnnclhmhbmbkfaaGreatDoor.V
namespace Go.Proofs.YtnnclhmhbmbkfaaGreatDoor.V
open Go.RowKit
def bcs (l : List UInt8) : Array Value := (Lib.byteCells l).toArray
set_option maxRecDepth 100000 in
theorem bcs_get (l : List UInt8) (i : Nat) (hi : i < l.length) : (bcs l)[i]? = some (.int .u8 ((l.getD i 0).toNat : Int)) := by
  simp [bcs, Lib.byteCells, List.getD_eq_getElem?_getD, hi]
set_option maxRecDepth 100000 in
theorem bcs_set (l : List UInt8) (n : Nat) (b : UInt8) : (bcs l).setIfInBounds n (.int .u8 (b.toNat : Int)) = bcs (l.set n b) := by
  unfold bcs Lib.byteCells
  rw [List.map_set, List.setIfInBounds_toArray]
set_option maxRecDepth 100000 in
theorem brow_cell {W : World} {g : Nat} {l : List UInt8} {t : TypeId} {fr : Nat × Nat} (h : W.heap[g]? = some (.cells (bcs l) t fr)) (i : Nat) (hi : i < l.length) : W.cell? ⟨g, i, none⟩ = some (.int .u8 ((l.getD i 0).toNat : Int)) := by
  rw [cell_of_row W g i _ t fr h, bcs_get l i hi]
set_option maxRecDepth 100000 in
theorem brow_set {W : World} {g : Nat} {l : List UInt8} {t : TypeId} (h : W.heap[g]? = some (.cells (bcs l) t (0, 0))) (n : Nat) (b : UInt8) (v : Int) (hv : v = (b.toNat : Int)) :
    (W.setCell ⟨g, n, none⟩ (.int .u8 v)).heap[g]? = some (.cells (bcs (l.set n b)) t (0, 0)) := by
  rw [row_setCell h, hv, bcs_set]
def padz (m : Nat) (l : List UInt8) : List UInt8 := l ++ List.replicate (m - l.length) 0
set_option maxRecDepth 100000 in
theorem padz_len (m : Nat) (l : List UInt8) (h : l.length ≤ m) : (padz m l).length = m := by simp [padz]; omega
set_option maxRecDepth 100000 in
theorem padz_set (m : Nat) (l : List UInt8) (x : UInt8) (n : Nat) (hn : n = l.length) (h : l.length < m) : (padz m l).set n x = padz m (l ++ [x]) := by
  subst hn
  unfold padz
  obtain ⟨q, hq⟩ : ∃ q, m - l.length = q + 1 := ⟨m - l.length - 1, by omega⟩
  have hq' : m - (l ++ [x]).length = q := by simp; omega
  rw [hq, hq', List.set_append_right _ _ (Nat.le_refl _), Nat.sub_self, List.replicate_succ, List.set_cons_zero]
  simp
set_option maxRecDepth 100000 in
theorem padz_get (m : Nat) (l : List UInt8) (j : Nat) (h : j < l.length) : (padz m l).getD j 0 = l[j] := by
  unfold padz
  rw [List.getD_eq_getElem?_getD, List.getElem?_append_left h, List.getElem?_eq_getElem h]
  rfl
set_option maxRecDepth 100000 in
theorem zero10 : (#[Value.int IntKind.u8 0, Value.int IntKind.u8 0, Value.int IntKind.u8 0, Value.int IntKind.u8 0, Value.int IntKind.u8 0, Value.int IntKind.u8 0, Value.int IntKind.u8 0, Value.int IntKind.u8 0, Value.int IntKind.u8 0, Value.int IntKind.u8 0] : Array Value) = bcs (padz 10 []) := rfl
set_option maxRecDepth 100000 in
theorem or128 {n : Nat} : bits BinOp.or IntKind.u8 (IntKind.u8.wrap (n : Int)) 128 = ((UInt8.ofNat (n % 128 + 128)).toNat : Int) := by
  rw [toNat_ofNat_lt (by omega), IntKind.wrap_u8']
  have e : ((n : Int) % 256) = ((n % 256 : Nat) : Int) := by omega
  have e2 : (128 : Int) = ((128 : Nat) : Int) := rfl
  rw [e, e2, u8_or_nat _ _ (by omega) (by omega)]
  congr 1
  have h : ∀ m : Nat, m < 256 → m ||| 128 = m % 128 + 128 := by decide +kernel
  rw [h _ (by omega)]
  omega
set_option maxRecDepth 100000 in
theorem or128' {n : Nat} : bits BinOp.or IntKind.u8 ((n : Int) % 256) 128 = ((UInt8.ofNat (n % 128 + 128)).toNat : Int) := by
  rw [← or128, IntKind.wrap_u8']
set_option maxRecDepth 100000 in
theorem le9 {m i : Nat} (h : m * 128 ^ i < 18446744073709551616) (hm : 128 ≤ m) : i + 1 ≤ 9 := by
  rcases Nat.lt_or_ge i 9 with h9 | h9
  · exact h9
  · have h1 : (128 : Nat) ^ 9 ≤ 128 ^ i := Nat.pow_le_pow_right (by omega) h9
    have h2 : 128 * 128 ^ 9 ≤ m * 128 ^ i := Nat.mul_le_mul hm h1
    have h3 : (128 : Nat) * 128 ^ 9 = 1180591620717411303424 := by decide
    omega
set_option maxRecDepth 100000 in
theorem next64 {m i : Nat} (h : m * 128 ^ i < 18446744073709551616) : m / 128 * 128 ^ (i + 1) < 18446744073709551616 := by
  have h1 : m / 128 * 128 ≤ m := Nat.div_mul_le_self m 128
  have h2 : m / 128 * 128 ^ (i + 1) = m / 128 * 128 * 128 ^ i := by rw [Nat.pow_succ, Nat.mul_comm (128 ^ i), Nat.mul_assoc]
  have h3 : m / 128 * 128 * 128 ^ i ≤ m * 128 ^ i := Nat.mul_le_mul_right _ h1
  omega
end Go.Proofs.YtnnclhmhbmbkfaaGreatDoor.V
namespace Go.Proofs.YtnnclhmhbmbkfaaGreatDoor.V
open Go.RowKit
set_option maxRecDepth 100000 in
theorem conv1w (W : World) (g : Nat) (b : UInt8) (v : Int) (hv : v = (b.toNat : Int)) (hc : W.cell? ⟨g, 0, none⟩ = some (.int .u8 v)) : (convert 153 9 (.slice (some ⟨g, 0, none⟩) 1 1)).run Tryz.prog W = .ok (.string ⟨#[b]⟩) W := by
  refine run_convert_bytes_back (P := Tryz.prog) W 153 9 5 ⟨g, 0, none⟩ 1 [b] Tryz.underlying153 Tryz.underlying5 Tryz.underlying9 (fun j hj => ?_)
  obtain rfl : j = 0 := by simp at hj; omega
  have e : (⟨g, 0, none⟩ : Addr).add 0 = ⟨g, 0, none⟩ := by unfold Addr.add; split <;> simp_all
  rw [e, hc, hv]; rfl
set_option maxRecDepth 100000 in
theorem conv1 (W : World) (b : UInt8) (t : TypeId) (v : Int) (hv : v = (b.toNat : Int)) : (convert 153 9 (.slice (some ⟨W.heap.size, 0, none⟩) 1 1)).run Tryz.prog (W.alloc (.cells #[.int .u8 v] t)) = .ok (.string ⟨#[b]⟩) (W.alloc (.cells #[.int .u8 v] t)) :=
  conv1w _ _ b v hv (cell_of_row _ _ 0 _ _ _ (heap_alloc_new _ _))
end Go.Proofs.YtnnclhmhbmbkfaaGreatDoor.V
namespace Go.Proofs.YtnnclhmhbmbkfaaGreatDoor.V
open Go.RowKit
def zig (n : Int) : Nat := if n < 0 then (2 * (-(n + 1)) + 1).toNat else (2 * n).toNat
set_option maxRecDepth 100000 in
theorem zig_lt {n : Int} (h0 : -9223372036854775808 ≤ n) (h1 : n < 9223372036854775808) : zig n < 18446744073709551616 := by
  unfold zig; split <;> omega
set_option maxRecDepth 100000 in
theorem zag_zig (n : Int) : zag (zig n) = n := by
  unfold zag zig; split <;> split <;> omega
set_option maxRecDepth 100000 in
theorem zig_inj {n m : Int} (h : zig n = zig m) : n = m := by
  rw [← zag_zig n, h, zag_zig]
end Go.Proofs.YtnnclhmhbmbkfaaGreatDoor.V
namespace Go.Proofs.YtnnclhmhbmbkfaaGreatDoor.V
open Go.RowKit
def textB (t : ByteArray) : ByteArray := ⟨(put t.size).toArray⟩ ++ t
def boolB (b : Bool) : ByteArray := if b then ⟨#[1]⟩ else ⟨#[0]⟩
set_option maxRecDepth 100000 in
theorem put_size (n : Nat) : (⟨(put n).toArray⟩ : ByteArray).size = (put n).length := by show (put n).toArray.size = _; simp
set_option maxRecDepth 100000 in
set_option maxHeartbeats 400000 in
theorem ebool_any (b : Bool) (w : World) : Calls Tryz.prog 100 #[.bool b] w fun e w' => e = .returned (.string (boolB b)) ∧ w' = w := by
  cases b
  all_goals
    go_enter Tryz.func100, Tryz.ntmps100
    go_wp2
    go_ret
    exact ⟨rfl, rfl⟩
set_option maxRecDepth 100000 in
theorem boolB_size (b : Bool) : (boolB b).size = 1 := by cases b <;> rfl
end Go.Proofs.YtnnclhmhbmbkfaaGreatDoor.V
namespace Go.Proofs.YtnnclhmhbmbkfaaGreatDoor.V
open Go.RowKit
def cmpI (x y : Int) : Int := if x < y then -1 else if y < x then 1 else 0
def cmpB (a b : ByteArray) : Int := Lib.compareBytes a.data.toList b.data.toList
set_option maxRecDepth 100000 in
set_option maxHeartbeats 1000000 in
theorem scmp0 (a b : ByteArray) (w : World) : Calls Tryz.prog 64 #[.string a, .string b] w fun e w' => e = .returned (.int .i64 (cmpB a b)) ∧ w' = w := by
  have h : (callFunc 95 #[.string a, .string b]).run Tryz.prog w = .ok (.value (.int .i64 (cmpB a b))) w := by
    rw [run_callFunc_extern Tryz.func95 (by kernel_rfl) (by kernel_rfl) (by kernel_rfl) (e := Extern.BytealgCompare.compare) (by kernel_rfl), Lib.run_compareString]
    rfl
  go_enter Tryz.func64, Tryz.ntmps64
  go_wp2
  go_ret
  exact ⟨rfl, rfl⟩
set_option maxRecDepth 100000 in
set_option maxHeartbeats 1000000 in
theorem scmp (a b : ByteArray) (w : World) : Calls Tryz.prog 38 #[.string a, .string b] w fun e w' => e = .returned (.int .i64 (cmpB a b)) ∧ w' = w := by
  go_enter Tryz.func38, Tryz.ntmps38
  go_wp2_with fail
  refine (scmp0 a b _).mono ?_
  rintro e w ⟨rfl, rfl⟩
  go_wp2
  go_ret
  exact ⟨rfl, rfl⟩
def cmpF (q uq : Nat) (g ug : Nat → ByteArray) (C : Nat → Int) (i : Nat) : Int := if i < min q uq ∧ (g i).data.toList ≠ (ug i).data.toList then cmpB (g i) (ug i) else C i
def cmpT : Tr → Tr → Int
  | .no, _ => 0
  | .mk k b n s m f q g, u =>
    if k = u.k then
      (if k = 1 then cmpB (boolB b) (boolB u.b) else if k = 2 then cmpI n u.n else if k = 3 ∨ k = 4 then cmpB s u.s
       else if k = 5 ∨ k = 6 then (if fe (min m u.m) (cmpF q u.q g u.g (fun i => cmpT (f i) (u.f i))) = 0 then cmpI m u.m else fe (min m u.m) (cmpF q u.q g u.g (fun i => cmpT (f i) (u.f i)))) else 0)
    else cmpI k u.k
end Go.Proofs.YtnnclhmhbmbkfaaGreatDoor.V
namespace Go.Proofs.YtnnclhmhbmbkfaaGreatDoor.V
open Go.RowKit
end Go.Proofs.YtnnclhmhbmbkfaaGreatDoor.V
namespace Go.Proofs.YtnnclhmhbmbkfaaGreatDoor.V
open Go.Shelf Go.RowKit Go.Lib Go.Sort
def insR : Go.Shelf.Ren := ⟨fun | 20 => 93 | n => n, fun | 22 => 52 | 24 => 3 | 25 => 83 | n => n, fun n => n⟩
set_option maxRecDepth 100000 in
theorem insL : Go.Proofs.SlLaysF.n20 Tryz.prog insR := {
  mixed := by kernel_rfl
  f20 := ⟨Tryz.f93.name, by kernel_rfl, Tryz.func93.trans (congrArg some (by kernel_rfl))⟩
  t0 := Tryz.underlying0
  a0 := Tryz.isAgg0
  z0 := Tryz.sizeOf0
  v0 := Tryz.zeroValue0
  t3 := Tryz.underlying3
  a3 := Tryz.isAgg3
  z3 := Tryz.sizeOf3
  v3 := Tryz.zeroValue3
  t4 := Tryz.underlying4
  a4 := Tryz.isAgg4
  z4 := Tryz.sizeOf4
  v4 := Tryz.zeroValue4
  t22 := Tryz.underlying52
  a22 := Tryz.isAgg52
  z22 := Tryz.sizeOf52
  v22 := Tryz.zeroValue52
  a24 := Tryz.isAgg3
  z24 := Tryz.sizeOf3
  t25 := Tryz.underlying83
  a25 := Tryz.isAgg83
  z25 := Tryz.sizeOf83
  v25 := Tryz.zeroValue83 }
def idxR : Go.Shelf.Ren := ⟨fun | 6 => 66 | n => n, fun | 22 => 23 | 23 => 9 | 25 => 100 | n => n, fun n => n⟩
set_option maxRecDepth 100000 in
set_option maxHeartbeats 2000000 in
theorem struct1 {q nc : Nat} {g : Nat → ByteArray} {b o z : Nat} {w : World} (i k : Nat) (hi : i < q) (hk : k < q) (hz : w.cell? ⟨z, 0, none⟩ = some (.slice (some ⟨b, o, none⟩) q nc)) (hn : ∀ i, i < q → w.cell? ⟨b, o + i, none⟩ = some (.string (g i))) :
    Calls Tryz.prog 37 #[.int .i64 (i : Int), .int .i64 (k : Int), .pointer (some ⟨z, 0, none⟩)] w fun r w' => r = .returned (.int .i64 (cmpB (g i) (g k))) ∧ ∃ q', w' = w.drewN q' := by
  have h1 := hn i hi
  have h2 := hn k hk
  have hi' : (i : Int) < (q : Int) := by omega
  have hk' : (k : Int) < (q : Int) := by omega
  clear hn
  have hcon := scmp (g i) (g k)
  generalize cmpB (g i) (g k) = r at hcon ⊢
  go_enter Tryz.func37, Tryz.ntmps37
  go_wp2
  go_quiet ((go_at_call 38; exact Calls.quiet_of_same (hcon _)))
  go_wp2
  go_ret
  exact ⟨rfl, _, rfl⟩
def encF (n : Nat) (i : Fin (n + 1)) : Value := .int .i64 (i.val : Int)
def cfF (g : Nat → ByteArray) (n : Nat) (i k : Fin (n + 1)) : Int := cmpB (g i.val) (g k.val)
def sortF (g : Nat → ByteArray) (n : Nat) (d : Array (Fin (n + 1))) : Array (Fin (n + 1)) := Sort.insertionSort (ltOf (cfF g n)) d 0 d.size
set_option maxRecDepth 100000 in
theorem sort_reads {q nc n : Nat} {g : Nat → ByteArray} {b o z blk : Nat} {w : World} (hnq : n + 1 ≤ q) (hz : w.cell? ⟨z, 0, none⟩ = some (.slice (some ⟨b, o, none⟩) q nc)) (hn : ∀ i, i < q → w.cell? ⟨b, o + i, none⟩ = some (.string (g i))) (hzb : z ≠ blk) (hbb : b ≠ blk) :
    CmpReads Tryz.prog 37 #[.pointer (some ⟨z, 0, none⟩)] (encF n) (cfF g n) blk 0 (n + 1) w := by
  intro m os dk hdk x y
  have hcell : ∀ a : Addr, a.block ≠ blk → ∀ v, w.cell? a = some v → (sortWorld (encF n) w blk 0 m dk os).cell? a = some v := fun a ha v hv => by
    have hl := block_lt hv
    unfold sortWorld
    rw [cell?_grow _ _ _ (by simp [putRow, mapBlock, Sort.ahead]; exact hl), cell?_putRow_other _ _ _ _ _ _ (Or.inl ha)]
    exact hv
  exact struct1 x.val y.val (by have := x.isLt; omega) (by have := y.isLt; omega) (hcell _ hzb _ hz) (fun i hi => hcell ⟨b, o + i, none⟩ hbb _ (hn i hi))
set_option maxRecDepth 100000 in
set_option maxHeartbeats 2000000 in
theorem sort87 {N cap : Nat} {A : Addr} {F : Value} {w : World} {X : Nat → World} (hN : N ≤ 12) (hcon : Calls Tryz.prog 93 #[.slice (some A) N cap, .int .i64 0, .int .i64 (N : Int), F] w fun e w' => e = .returned (.tuple #[]) ∧ ∃ k, w' = X k) :
    Calls Tryz.prog 63 #[.slice (some A) N cap, .int .i64 (N : Int), F] w fun e w' => e = .returned (.tuple #[]) ∧ ∃ k, w' = X k := by
  have h20 : ¬ ((20 : Int) ≤ (N : Int)) := by omega
  have h21 : ¬ ((20 : Int) < (N : Int)) := by omega
  go_enter Tryz.func63, Tryz.ntmps63
  go_wp2
  refine wp_loop_rounds 1 ?_
  rw [rounds_succ]
  go_wp2_with (first | (go_at_call 93; refine hcon.mono ?_; rintro e w' ⟨rfl, k, rfl⟩))
  refine wp_loop_rounds 1 ?_
  rw [rounds_succ]
  go_wp2
  go_end0
  exact ⟨rfl, k, rfl⟩
set_option maxRecDepth 100000 in
set_option maxHeartbeats 2000000 in
theorem sort55 {N cap : Nat} {A : Addr} {F : Value} {w : World} {X : Nat → World} (hN : N ≤ 12) (hcon : Calls Tryz.prog 93 #[.slice (some A) N cap, .int .i64 0, .int .i64 (N : Int), F] w fun e w' => e = .returned (.tuple #[]) ∧ ∃ k, w' = X k) :
    Calls Tryz.prog 36 #[.slice (some A) N cap, F] w fun e w' => e = .returned (.tuple #[]) ∧ ∃ k, w' = X k := by
  have h87 := sort87 hN hcon
  clear hcon
  go_enter Tryz.func36, Tryz.ntmps36
  go_wp2_with (first | (go_at_call 63; refine h87.mono ?_; rintro e w' ⟨rfl, k, rfl⟩))
  go_end0
  exact ⟨rfl, k, rfl⟩
set_option maxRecDepth 100000 in
theorem sort_any {q nc n : Nat} {g : Nat → ByteArray} {b o z blk cap : Nat} {w : World} (hn12 : n + 1 ≤ 12) (hnq : n + 1 ≤ q) (hz : w.cell? ⟨z, 0, none⟩ = some (.slice (some ⟨b, o, none⟩) q nc)) (hn : ∀ i, i < q → w.cell? ⟨b, o + i, none⟩ = some (.string (g i))) (hzb : z ≠ blk) (hbb : b ≠ blk)
    (d : Array (Fin (n + 1))) (hd : d.size = n + 1) (hH : Holds (encF n) w blk 0 d) :
    Calls Tryz.prog 36 #[.slice (some ⟨blk, 0, none⟩) (n + 1) cap, .func (.func 37) #[] #[.pointer (some ⟨z, 0, none⟩)]] w fun e w' => e = .returned (.tuple #[]) ∧ ∃ k, w' = (putRow (encF n) w blk 0 (sortF g n d)).drewN k := by
  have eg : ∀ args w, (callFunc 37 args).run Tryz.prog w = .ok (.enter 37 args) w := enters_of Tryz.func37 (by kernel_rfl) rfl
  have hcon := Any.insertionSortCmpFunc_one insL (encF n) (fun _ => rfl) (cfF g n) 37 #[.pointer (some ⟨z, 0, none⟩)] blk 0 cap 0 d.size d w eg (by rw [hd]; exact sort_reads hnq hz hn hzb hbb) hH (Nat.zero_le _) (Nat.le_refl _) (by omega)
  change Calls Tryz.prog 93 _ _ (fun e w' => e = .returned (.tuple #[]) ∧ ∃ k, w' = (putRow (encF n) w blk 0 (sortF g n d)).drewN k) at hcon
  rw [hd] at hcon
  exact sort55 hn12 hcon
end Go.Proofs.YtnnclhmhbmbkfaaGreatDoor.V
namespace Go.Proofs.YtnnclhmhbmbkfaaGreatDoor.V
open Go.RowKit
def cutT : Tr → Nat → Nat → Tr
  | .no, _, _ => .no
  | .mk k b n s m f q g, deep, wide => .mk k b n (if 1100 < s.size then s.extract 0 1100 else s) (if deep = 0 then 0 else min m wide) (fun i => cutT (f i) (deep - 1) 4) (min q wide) g
def CutC (t : Tr) : Prop := ∀ (B : Nat) (w : World) (x : Ad) (deep wide : Nat), Lies B w t x → B ≤ w.heap.size → wide ≤ 33 → deep ≤ 100 →
  Calls Tryz.prog 8 #[t.val x, .int .i64 (deep : Int), .int .i64 (wide : Int)] w fun e w' => ∃ A, e = .returned ((cutT t deep wide).val A) ∧ LiesS (fun k => k < B ∨ (w.heap.size ≤ k ∧ k < w'.heap.size)) w' (cutT t deep wide) A ∧ Below w.heap.size w w'
set_option maxRecDepth 100000 in
theorem cs_one (t : Tr) (x : Ad) : ∀ u ∈ t.cs x, u.oneCell' = true := by
  intro u hu
  simp only [Tr.cs, List.mem_cons, List.not_mem_nil, or_false] at hu
  rcases hu with rfl | rfl | rfl | rfl | rfl | rfl <;> rfl
set_option maxRecDepth 100000 in
theorem set_far {w : World} {a b : Addr} {u v : Value} (h : w.cell? b = some v) (hne : b.block ≠ a.block) : (w.setCell a u).cell? b = some v := cell_kept h (Below.heap_setCell w a u b.block hne)
set_option maxRecDepth 100000 in
theorem far_row {w1 w2 : World} {o : Obj} {v : Value} {base : Nat} (hgr : (w1.alloc o).grownBy w2 v.ownBlock) (hge : ∀ k, v.ownBlock = some k → base ≤ k) {k : Nat} {u : Obj} (h : w1.heap[k]? = some u) (hlt : k < base) : w2.heap[k]? = some u := by
  have hl := lt_of_row h
  rw [hgr.block k (by simp; omega) (fun he => by have := hge k he.symm; omega), Below.heap_alloc w1 o k hl]
  exact h
set_option maxRecDepth 100000 in
theorem far_cell {w1 w2 : World} {o : Obj} {v : Value} {base : Nat} (hgr : (w1.alloc o).grownBy w2 v.ownBlock) (hge : ∀ k, v.ownBlock = some k → base ≤ k) {a : Addr} {u : Value} (h : w1.cell? a = some u) (hlt : a.block < base) : w2.cell? a = some u := by
  have hl := block_lt h
  refine cell_kept h ?_
  rw [hgr.block a.block (by simp; omega) (fun he => by have := hge _ he.symm; omega), Below.heap_alloc w1 o a.block hl]
set_option maxRecDepth 100000 in
theorem lies_alloc {S : Nat → Prop} {w : World} {t : Tr} {x : Ad} (h : LiesS S w t x) (hS : ∀ k, S k → k < w.heap.size) (o : Obj) : LiesS S (w.alloc o) t x := h.kept (fun k hk => Below.heap_alloc w o k (hS k hk))
set_option maxRecDepth 100000 in
set_option maxHeartbeats 4000000 in
theorem cut_wx {B : Nat} {w : World} {k : Int} {b : Bool} {n : Int} {s : ByteArray} {m : Nat} {f : Nat → Tr} {q : Nat} {g : Nat → ByteArray} {x : Ad} (deep wide : Nat) (hL : Lies B w (.mk k b n s m f q g) x) (hB : B ≤ w.heap.size) (hw : wide ≤ 33) (hd : deep ≤ 100)
    (h11 : (1100 : Int) < (s.size : Int)) (hmw : (wide : Int) < (m : Int)) (hd0 : 0 < deep) (ih : ∀ i, CutC (f i)) :
    Calls Tryz.prog 8 #[(Tr.mk k b n s m f q g).val x, .int .i64 (deep : Int), .int .i64 (wide : Int)] w fun e w' => ∃ A, e = .returned ((Tr.mk k b n (s.extract 0 1100) (wide) (fun i => cutT (f i) (deep - 1) 4) (min q wide) g).val A) ∧ LiesS (fun k => k < B ∨ (w.heap.size ≤ k ∧ k < w'.heap.size)) w' (Tr.mk k b n (s.extract 0 1100) (wide) (fun i => cutT (f i) (deep - 1) 4) (min q wide) g) A ∧ Below w.heap.size w w' := by
  obtain ⟨A, hp, hr⟩ := hL.part
  have hN := hL.lims
  replace hN : (-9223372036854775808 ≤ k ∧ k < 9223372036854775808) ∧ (-9223372036854775808 ≤ n ∧ n < 9223372036854775808) ∧ s.size ≤ maxLen ∧ (m ≤ x.pc ∧ x.pc ≤ maxLen) ∧ Names B w q g x.na x.nc := hN
  obtain ⟨pa, pc, na, nc⟩ := x
  have hV : (Tr.mk k b n s m f q g).val ⟨pa, pc, na, nc⟩ = .agg #[.int .i64 k, .bool b, .int .i64 n, .string s, .slice pa m pc, .slice na q nc] := rfl
  rw [hV]
  clear hV
  obtain ⟨T, hT⟩ : ∃ T : Nat → Tr, T = fun i => cutT (f i) (deep - 1) 4 := ⟨_, rfl⟩
  rw [← hT]
  obtain ⟨e, he⟩ : ∃ e : Nat, e = deep - 1 := ⟨_, rfl⟩
  have HT : Hid (∀ i, T i = cutT (f i) e 4) := fun i => by rw [hT, he]
  have HI : Hid (∀ i, CutC (f i)) := ih
  have HP : Hid (0 < m → ∃ b o, pa = some ⟨b, o, none⟩ ∧ b < B ∧ ∀ i, i < m → At6 w b (o + i * 6) (f i) (A i)) := hp
  have HR : Hid (∀ i, i < m → Lies B w (f i) (A i)) := hr
  have HN : Hid ((-9223372036854775808 ≤ k ∧ k < 9223372036854775808) ∧ (-9223372036854775808 ≤ n ∧ n < 9223372036854775808) ∧ s.size ≤ maxLen ∧ (m ≤ pc ∧ pc ≤ maxLen) ∧ Names B w q g na nc) := hN
  have HD : Hid (e ≤ 100) := by show _ ≤ _; omega
  have hzw : w.heap.size < w.heap.size + 1 + 1 + 1 := by omega
  have hdd : ((deep : Int) == 0) = false := by simp; omega
  have hde : IntKind.i64.wrap ((deep : Int) - 1) = (e : Int) := by rw [IntKind.wrap_i64]; omega
  clear ih hp hr hN hT he
  obtain ⟨i0, hi, hz0, hz1, hz2⟩ := info_parts info25
  go_enter Tryz.func8, Tryz.ntmps8
  go_wp2_with fail
  obtain ⟨W2, hW2⟩ : ∃ W2, (w.alloc (.cells #[.int .i64 k, .bool b, .int .i64 n, .string s, .slice pa m pc, .slice na q nc] 25)).alloc (.cells #[.int .i64 0, .bool false, .int .i64 0, .string ⟨#[]⟩, .slice none 0 0, .slice none 0 0] 25) = W2 := ⟨_, rfl⟩
  have hb2 : Below w.heap.size w W2 := by rw [← hW2]; exact ((Below.refl _ w).alloc (Nat.le_refl _) _).alloc (by simp) _
  have hs2 : W2.heap.size = w.heap.size + 1 + 1 := by rw [← hW2]; simp
  have r3 : W2.heap[w.heap.size]? = some (.cells #[.int .i64 k, .bool b, .int .i64 n, .string s, .slice pa m pc, .slice na q nc] 25 (0, 0)) := by
    rw [← hW2, Below.heap_alloc _ _ _ (by simp)]; exact heap_alloc_new _ _
  have r6 : W2.heap[w.heap.size + 1]? = some (.cells #[.int .i64 0, .bool false, .int .i64 0, .string ⟨#[]⟩, .slice none 0 0, .slice none 0 0] 25 (0, 0)) := by
    rw [← hW2]; have := heap_alloc_new (w.alloc (.cells #[.int .i64 k, .bool b, .int .i64 n, .string s, .slice pa m pc, .slice na q nc] 25)) (.cells #[.int .i64 0, .bool false, .int .i64 0, .string ⟨#[]⟩, .slice none 0 0, .slice none 0 0] 25); simpa using this
  have r7 : (W2.alloc (.cells #[.int .i64 k, .bool b, .int .i64 n, .string (s.extract 0 1100), .slice none 0 0, .slice na q nc] 25)).heap[w.heap.size + 1 + 1]? = some (.cells #[.int .i64 k, .bool b, .int .i64 n, .string (s.extract 0 1100), .slice none 0 0, .slice na q nc] 25 (0, 0)) := by rw [← hs2]; exact heap_alloc_new _ _
  have hb7 : Below (w.heap.size + 1 + 1) W2 (W2.alloc (.cells #[.int .i64 k, .bool b, .int .i64 n, .string (s.extract 0 1100), .slice none 0 0, .slice na q nc] 25)) := (Below.refl _ _).alloc (by omega) _
  rw [hW2]
  clear hW2
  go_loopw [9] (fun c9 wr => ∃ (i : Nat) (v : Value) (A' : Nat → Ad), i ≤ wide ∧ c9 = .int .i64 (i : Int) ∧ wr.heap[w.heap.size + 1 + 1]? = some (.cells #[.int .i64 k, .bool b, .int .i64 n, .string (s.extract 0 1100), v, .slice na q nc] 25 (0, 0)) ∧ Below (w.heap.size + 1 + 1) W2 wr ∧ Mine 25 (fun k => k < B) (w.heap.size + 1 + 1 + 1) wr v i T A') (fun c9 _ => wide - (intOf c9).toNat)
  case atStart => exact ⟨0, .slice none 0 0, A, by omega, rfl, r7, hb7, Mine.start _ _ _ _ _ _⟩
  case round =>
    clear r7 hb7
    obtain ⟨i, v, A', hi', rfl, hrow, hbw, hmine⟩ := hrel
    have hlt7 := lt_of_row hrow
    by_cases hiN : i < wide
    · have hiN' : (i : Int) < ((wide : Nat) : Int) := by omega
      have him' : (i : Int) < (m : Int) := by omega
      have hi33 : i < 33 := by omega
      obtain ⟨pb, po, rfl, hpb, hat⟩ := HP.out (by omega)
      have hBw : Below B w wr := (hb2.mono hB).trans (hbw.mono (by omega))
      have h6a := (hat i (by omega)).later hpb hBw
      have d0 := h6a.c0
      have d1 := h6a.c1
      have d2 := h6a.c2
      have d3 := h6a.c3
      have d4 := h6a.c4
      have d5 := h6a.c5
      have hLi := (HR.out i (by omega)).later hBw
      have e4 := cell_of_row wr _ 4 _ _ _ hrow
      have f4 := frozen_of_row wr _ 4 _ _ hrow
      have g4 := cell_of_row wr _ 4 _ _ _ ((hbw.block w.heap.size (by omega)).trans r3)
      clear hat h6a
      have hszr := hbw.size
      have hLd : Lies B wr.drew (f i) (A i) := LiesS.kept (w := wr) (w' := wr.drew) (fun _ _ => rfl) hLi
      obtain ⟨t, ht⟩ : ∃ t, T i = t := ⟨_, rfl⟩
      have hcall : Calls Tryz.prog 8 #[.agg #[.int .i64 (f i).k, .bool (f i).b, .int .i64 (f i).n, .string (f i).s, .slice (A i).pa (f i).m (A i).pc, .slice (A i).na (f i).q (A i).nc], .int .i64 (e : Int), .int .i64 4] wr.drew fun e w' => ∃ A1 : Ad, e = .returned (.agg #[.int .i64 t.k, .bool t.b, .int .i64 t.n, .string t.s, .slice A1.pa t.m A1.pc, .slice A1.na t.q A1.nc]) ∧ LiesS (fun k => k < B ∨ (wr.heap.size ≤ k ∧ k < w'.heap.size)) w' t A1 ∧ Below wr.heap.size wr w' := by
        rw [← ht, HT.out i]
        refine (HI.out i B wr.drew (A i) e 4 hLd (by show B ≤ wr.heap.size; omega) (by omega) HD.out).mono ?_
        rintro e1 w' ⟨A1, h1, h2, h3⟩
        exact ⟨A1, h1, h2, (Below.refl _ wr).drew.trans h3⟩
      go_wp2_with fail
      go_region_law ((first | (go_simp; go_at_call 8; refine hcall.mono ?_; rintro e w1 ⟨A1, rfl, hL1, hb1⟩; have e41 := (hb1.cell (p := ⟨w.heap.size + 1 + 1, 4, none⟩) hlt7).trans e4; have e4a : ∀ o, (w1.alloc o).cell? ⟨w.heap.size + 1 + 1, 4, none⟩ = some v := fun o => cell_kept e41 (Below.heap_alloc w1 o _ (block_lt e41)); have hrow1 := (hb1.block _ hlt7).trans hrow; have hm1 := hmine.kept (w' := w1) hb1.size (fun k hk => hb1.block k (by omega)) (fun k _ hk => hb1.block k hk); dsimp only) | (refine step_append_lies _ (by rfl) (.tmp 35) (.tmp 44) 22 (by rfl) (w.heap.size + 1 + 1 + 1) 25 i0 _ 6 88 Tryz.underlying22 hi hz0 hz1 hz2 (by rfl) (by decide) v i _ (by rfl) (hm1.own.alloc _) ⟨w1.heap.size, 0, none⟩ 1 1 (t.cs A1) (by rfl) (by rfl) (World.news_of_block (heap_alloc_new w1 _)) (cs_one t A1) (by decide) (by unfold maxLen; omega) (by omega) (by have := hb1.size; simp; omega) (w1.heap.size + 1) (by simp) ?_; intro g1 cap1 w2 hown2 hgr2 hat2 hlt2; have e42 := far_cell hgr2 hm1.block_ge e41 (by show w.heap.size + 1 + 1 < _; omega); have hrow2 := far_row hgr2 hm1.block_ge hrow1 (show w.heap.size + 1 + 1 < _ by omega); have f42 := frozen_of_row w2 _ 4 _ _ hrow2)))
      all_goals
        have hmA := hm1.kept (w' := w1.alloc (.cells #[.int .i64 t.k, .bool t.b, .int .i64 t.n, .string t.s, .slice A1.pa t.m A1.pc, .slice A1.na t.q A1.nc] 25)) (by simp) (fun k hk => Below.heap_alloc w1 _ k (by have := hb1.size; omega)) (fun k _ hk => Below.heap_alloc w1 _ k hk)
        have hbz := ((hbw.trans (hb1.mono (by omega))).alloc (by have := hb1.size; omega) (.cells #[.int .i64 t.k, .bool t.b, .int .i64 t.n, .string t.s, .slice A1.pa t.m A1.pc, .slice A1.na t.q A1.nc] 25)).grown hgr2 (by have := hb1.size; simp; omega) (fun k hk => by have := hm1.block_ge k hk; omega)
        have hT1 := lies_alloc hL1 (fun k hk => by have := hb1.size; omega) (.cells #[.int .i64 t.k, .bool t.b, .int .i64 t.n, .string t.s, .slice A1.pa t.m A1.pc, .slice A1.na t.q A1.nc] 25)
        have hstep := Mine.step (wr := wr) (a := A1) hmA (by have := hb1.size; simp; omega) (by omega) hmine.block_lt (fun k hk => by omega) (by rw [ht]; exact hT1.up (fun k hk => by rcases hk with hk | hk; exact Or.inl hk; exact Or.inr ⟨hk.1, by simp; omega⟩)) (by rw [ht]; exact hown2) hgr2 hat2 (by simp)
        have hset := hstep.kept (w' := w2.setCell ⟨w.heap.size + 1 + 1, 4, none⟩ (.slice (some ⟨g1, 0, none⟩) (i + 1) cap1)) (by simp) (fun k hk => Below.heap_setCell _ _ _ k (by show k ≠ w.heap.size + 1 + 1; omega)) (fun k hk _ => Below.heap_setCell _ _ _ k (by show k ≠ w.heap.size + 1 + 1; omega))
        have hrow3 := row_setCell (k := 4) hrow2 (.slice (some ⟨g1, 0, none⟩) (i + 1) cap1)
        have hbz3 := hbz.setCell (p := ⟨w.heap.size + 1 + 1, 4, none⟩) (Nat.le_refl _) (.slice (some ⟨g1, 0, none⟩) (i + 1) cap1)
        clear hmA hbz hT1 hstep hown2 hgr2 hm1 hL1 hb1
        go_wp2
        go_roundw
        case rel => exact ⟨i + 1, _, _, by omega, by go_num, hrow3, hbz3, hset⟩
        case measure => simp [intOf]; omega
    · obtain rfl : wide = i := by omega
      have hr6 := (hbw.block (w.heap.size + 1) (by omega)).trans r6
      have a0 := cell_of_row wr _ 0 _ _ _ hr6
      have a1 := cell_of_row wr _ 1 _ _ _ hr6
      have a2 := cell_of_row wr _ 2 _ _ _ hr6
      have a3 := cell_of_row wr _ 3 _ _ _ hr6
      have a4 := cell_of_row wr _ 4 _ _ _ hr6
      have a5 := cell_of_row wr _ 5 _ _ _ hr6
      have b0 := frozen_of_row wr _ 0 _ _ hr6
      have b1 := frozen_of_row wr _ 1 _ _ hr6
      have b2 := frozen_of_row wr _ 2 _ _ hr6
      have b3 := frozen_of_row wr _ 3 _ _ hr6
      have b4 := frozen_of_row wr _ 4 _ _ hr6
      have b5 := frozen_of_row wr _ 5 _ _ hr6
      have e0 := cell_of_row wr _ 0 _ _ _ hrow
      have e1 := cell_of_row wr _ 1 _ _ _ hrow
      have e2 := cell_of_row wr _ 2 _ _ _ hrow
      have e3 := cell_of_row wr _ 3 _ _ _ hrow
      have e4 := cell_of_row wr _ 4 _ _ _ hrow
      have e5 := cell_of_row wr _ 5 _ _ _ hrow
      have f5 := frozen_of_row wr _ 5 _ _ hrow
      obtain ⟨pa', pc', rfl, hpc, hpp, hll⟩ := hmine.done (S' := fun k => k < B ∨ (w.heap.size + 1 + 1 + 1 ≤ k ∧ k < wr.heap.size)) (fun k hk => Or.inl hk) (fun k h1 h2 => Or.inr ⟨h1, h2⟩)
      clear hmine
      by_cases hqw : wide < q
      · have hqw' : (wide : Int) < (q : Int) := by omega
        have hnm : Names B w q g na nc := HN.out.2.2.2.2
        obtain ⟨n1, n2, n3, n4⟩ := hnm
        obtain ⟨nb, no, rfl, hnb, hng⟩ := n4 (by omega)
        have hqnc : wide ≤ nc := by omega
        clear n4
        have HG : Hid (∀ i, i < q → w.cell? ⟨nb, no + i, none⟩ = some (.string (g i))) := hng
        clear hng
        go_wp2
        rw [show min q wide = wide by omega]
        change bodyPost _ _ _ _ _ (set6 (wr.setCell ⟨w.heap.size + 1 + 1, 5, none⟩ (.slice (some ⟨nb, no, none⟩) wide nc)) (w.heap.size + 1) (.int .i64 k) (.bool b) (.int .i64 n) (.string (s.extract 0 1100)) (.slice pa' wide pc') (.slice (some ⟨nb, no, none⟩) wide nc))
        have hro := set6_row (w := wr.setCell ⟨w.heap.size + 1 + 1, 5, none⟩ (.slice (some ⟨nb, no, none⟩) wide nc)) ((Below.heap_setCell wr ⟨w.heap.size + 1 + 1, 5, none⟩ _ (w.heap.size + 1) (by show w.heap.size + 1 ≠ w.heap.size + 1 + 1; omega)).trans hr6) (.int .i64 k) (.bool b) (.int .i64 n) (.string (s.extract 0 1100)) (.slice pa' wide pc') (.slice (some ⟨nb, no, none⟩) wide nc)
        have hkeep : ∀ k1, k1 ≠ w.heap.size + 1 → k1 ≠ w.heap.size + 1 + 1 → (set6 (wr.setCell ⟨w.heap.size + 1 + 1, 5, none⟩ (.slice (some ⟨nb, no, none⟩) wide nc)) (w.heap.size + 1) (.int .i64 k) (.bool b) (.int .i64 n) (.string (s.extract 0 1100)) (.slice pa' wide pc') (.slice (some ⟨nb, no, none⟩) wide nc)).heap[k1]? = wr.heap[k1]? := fun k1 h1 h2 => (set6_block _ _ _ _ _ _ _ _ k1 h1).trans (Below.heap_setCell _ _ _ k1 h2)
        have hsz := set6_size (wr.setCell ⟨w.heap.size + 1 + 1, 5, none⟩ (.slice (some ⟨nb, no, none⟩) wide nc)) (w.heap.size + 1) (.int .i64 k) (.bool b) (.int .i64 n) (.string (s.extract 0 1100)) (.slice pa' wide pc') (.slice (some ⟨nb, no, none⟩) wide nc)
        have hbf := set6_below (((hb2.trans (hbw.mono (by omega))).setCell (p := ⟨w.heap.size + 1 + 1, 5, none⟩) (by show w.heap.size ≤ w.heap.size + 1 + 1; omega) (.slice (some ⟨nb, no, none⟩) wide nc))) (w.heap.size + 1) (by omega) (.int .i64 k) (.bool b) (.int .i64 n) (.string (s.extract 0 1100)) (.slice pa' wide pc') (.slice (some ⟨nb, no, none⟩) wide nc)
        replace hsz := hsz.trans (show (wr.setCell ⟨w.heap.size + 1 + 1, 5, none⟩ (.slice (some ⟨nb, no, none⟩) wide nc)).heap.size = wr.heap.size by simp)
        obtain ⟨wf, hwf⟩ : ∃ wf, set6 (wr.setCell ⟨w.heap.size + 1 + 1, 5, none⟩ (.slice (some ⟨nb, no, none⟩) wide nc)) (w.heap.size + 1) (.int .i64 k) (.bool b) (.int .i64 n) (.string (s.extract 0 1100)) (.slice pa' wide pc') (.slice (some ⟨nb, no, none⟩) wide nc) = wf := ⟨_, rfl⟩
        rw [hwf] at hro hkeep hsz hbf ⊢
        clear hwf
        have o0 := cell_of_row wf _ 0 _ _ _ hro
        have o1 := cell_of_row wf _ 1 _ _ _ hro
        have o2 := cell_of_row wf _ 2 _ _ _ hro
        have o3 := cell_of_row wf _ 3 _ _ _ hro
        have o4 := cell_of_row wf _ 4 _ _ _ hro
        have o5 := cell_of_row wf _ 5 _ _ _ hro
        refine bodyPost_ret (v := .agg #[.int .i64 k, .bool b, .int .i64 n, .string (s.extract 0 1100), .slice pa' wide pc', .slice (some ⟨nb, no, none⟩) wide nc]) (by simp [results, Tryz.results8, go_sem, o0, o1, o2, o3, o4, o5]) rfl ⟨⟨pa', pc', some ⟨nb, no, none⟩, nc⟩, rfl, ?_, hbf⟩
        have hnk : NamesS (fun k => k < B ∨ (w.heap.size + 1 + 1 + 1 ≤ k ∧ k < wr.heap.size)) wr wide g (some ⟨nb, no, none⟩) nc := ⟨hqnc, n2, fun i hi => n3 i (by omega), fun _ => ⟨nb, no, rfl, Or.inl hnb, fun i hi => cell_later (HG.out i (by omega)) hnb ((hb2.mono hB).trans (hbw.mono (by omega)))⟩⟩
        have hfin : LiesS (fun k => k < B ∨ (w.heap.size + 1 + 1 + 1 ≤ k ∧ k < wr.heap.size)) wr (.mk k b n (s.extract 0 1100) wide T wide g) ⟨pa', pc', some ⟨nb, no, none⟩, nc⟩ := .mk A' HN.out.1 HN.out.2.1 (by simp; unfold maxLen; omega) hpc hpp hll hnk
        refine (hfin.kept (fun k1 hk => hkeep k1 (by omega) (by omega))).up (fun k1 hk => ?_)
        rcases hk with hk | hk
        · exact Or.inl hk
        · exact Or.inr ⟨by omega, by omega⟩
      · have hqw' : (q : Int) ≤ (wide : Int) := by omega
        go_wp2
        rw [show min q wide = q by omega]
        change bodyPost _ _ _ _ _ (set6 wr (w.heap.size + 1) (.int .i64 k) (.bool b) (.int .i64 n) (.string (s.extract 0 1100)) (.slice pa' wide pc') (.slice na q nc))
        have hro := set6_row hr6 (.int .i64 k) (.bool b) (.int .i64 n) (.string (s.extract 0 1100)) (.slice pa' wide pc') (.slice na q nc)
        have hkeep : ∀ k1, k1 ≠ w.heap.size + 1 → (set6 wr (w.heap.size + 1) (.int .i64 k) (.bool b) (.int .i64 n) (.string (s.extract 0 1100)) (.slice pa' wide pc') (.slice na q nc)).heap[k1]? = wr.heap[k1]? := fun k1 h1 => set6_block _ _ _ _ _ _ _ _ k1 h1
        have hsz := set6_size wr (w.heap.size + 1) (.int .i64 k) (.bool b) (.int .i64 n) (.string (s.extract 0 1100)) (.slice pa' wide pc') (.slice na q nc)
        have hbf := set6_below (hb2.trans (hbw.mono (by omega))) (w.heap.size + 1) (by omega) (.int .i64 k) (.bool b) (.int .i64 n) (.string (s.extract 0 1100)) (.slice pa' wide pc') (.slice na q nc)
        obtain ⟨wf, hwf⟩ : ∃ wf, set6 wr (w.heap.size + 1) (.int .i64 k) (.bool b) (.int .i64 n) (.string (s.extract 0 1100)) (.slice pa' wide pc') (.slice na q nc) = wf := ⟨_, rfl⟩
        rw [hwf] at hro hkeep hsz hbf ⊢
        clear hwf
        have o0 := cell_of_row wf _ 0 _ _ _ hro
        have o1 := cell_of_row wf _ 1 _ _ _ hro
        have o2 := cell_of_row wf _ 2 _ _ _ hro
        have o3 := cell_of_row wf _ 3 _ _ _ hro
        have o4 := cell_of_row wf _ 4 _ _ _ hro
        have o5 := cell_of_row wf _ 5 _ _ _ hro
        refine bodyPost_ret (v := .agg #[.int .i64 k, .bool b, .int .i64 n, .string (s.extract 0 1100), .slice pa' wide pc', .slice na q nc]) (by simp [results, Tryz.results8, go_sem, o0, o1, o2, o3, o4, o5]) rfl ⟨⟨pa', pc', na, nc⟩, rfl, ?_, hbf⟩
        have hnk : NamesS (fun k => k < B ∨ (w.heap.size + 1 + 1 + 1 ≤ k ∧ k < wr.heap.size)) wr q g na nc := NamesS.up (fun k hk => Or.inl hk) (HN.out.2.2.2.2.later ((hb2.mono hB).trans (hbw.mono (by omega))))
        have hfin : LiesS (fun k => k < B ∨ (w.heap.size + 1 + 1 + 1 ≤ k ∧ k < wr.heap.size)) wr (.mk k b n (s.extract 0 1100) wide T q g) ⟨pa', pc', na, nc⟩ := .mk A' HN.out.1 HN.out.2.1 (by simp; unfold maxLen; omega) hpc hpp hll hnk
        refine (hfin.kept (fun k1 hk => hkeep k1 (by omega))).up (fun k1 hk => ?_)
        rcases hk with hk | hk
        · exact Or.inl hk
        · exact Or.inr ⟨by omega, by omega⟩
end Go.Proofs.YtnnclhmhbmbkfaaGreatDoor.V
