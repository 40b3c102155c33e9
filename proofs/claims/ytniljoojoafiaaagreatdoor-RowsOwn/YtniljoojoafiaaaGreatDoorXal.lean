/- Whether a text may be a name (Name, letter, digit). Whether a struct's names may be, rise, and are as many as its parts (named). Whether a value is formed, its kind and what it has (formed). -/
import Derived.Test.YtniljoojoafiaaaGreatDoorXae
import Derived.Test.YtniljoojoafiaaaGreatDoorXaf
import Derived.BigGuardPart
namespace Go.Proofs.YtniljoojoafiaaaGreatDoor.V
open Go.RowKit
def digitB (x : Int) : Bool := decide (48 ≤ x) && decide (x ≤ 57)
def letterB (x : Int) : Bool := decide (97 ≤ x) && decide (x ≤ 122) || decide (65 ≤ x) && decide (x ≤ 90)
set_option maxRecDepth 100000 in
set_option maxHeartbeats 400000 in
theorem digit_any (x : Int) (w : World) : Calls Tryz.prog 150 #[.int .u8 x] w fun e w' => e = .returned (.bool (digitB x)) ∧ w' = w := by
  obtain ⟨F, hF⟩ : ∃ F, digitB x = F := ⟨_, rfl⟩
  rw [hF]
  have HF : Hid (digitB x = F) := hF
  clear hF
  go_enter Tryz.func150, Tryz.ntmps150
  go_wp2
  all_goals
    go_ret
    refine ⟨?_, rfl⟩
    have := HF.out
    unfold digitB at this
    subst this
    simp_all
  all_goals (first | (intros; omega) | (constructor <;> intros <;> omega) | (rw [Bool.eq_iff_iff]; simp; try (intros; omega)))
set_option maxRecDepth 100000 in
set_option maxHeartbeats 400000 in
theorem letter_any (x : Int) (w : World) : Calls Tryz.prog 151 #[.int .u8 x] w fun e w' => e = .returned (.bool (letterB x)) ∧ w' = w := by
  obtain ⟨F, hF⟩ : ∃ F, letterB x = F := ⟨_, rfl⟩
  rw [hF]
  have HF : Hid (letterB x = F) := hF
  clear hF
  go_enter Tryz.func151, Tryz.ntmps151
  go_wp2
  all_goals
    go_ret
    refine ⟨?_, rfl⟩
    have := HF.out
    unfold letterB at this
    subst this
    simp_all
  all_goals (first | (intros; omega) | (constructor <;> intros <;> omega) | (rw [Bool.eq_iff_iff]; simp; try (intros; omega)))
def chr (s : ByteArray) (i : Nat) : Int := (byteAt s i : Int)
set_option maxRecDepth 100000 in
theorem chr_eq (s : ByteArray) (i : Nat) (h : i < s.size) : ((s[i].toNat : Nat) : Int) = chr s i := by
  unfold chr byteAt
  have hl : i < s.data.toList.length := by rw [← Lib.size_eq]; exact h
  rw [List.getD_eq_getElem?_getD, List.getElem?_eq_getElem hl]
  rfl
def okB (x : Int) : Bool := letterB x || digitB x || decide (x = 95)
def nameB (s : ByteArray) : Bool := decide (0 < s.size) && decide (s.size ≤ 16) && !digitB (chr s 0) && decide (∀ i, i < s.size → okB (chr s i) = true)
set_option maxRecDepth 100000 in
theorem empty_size (s : ByteArray) : s.toList.isEmpty = decide (s.size = 0) := by
  rw [Lib.toList_data]
  have := Lib.size_eq s
  cases h : s.data.toList with
  | nil => rw [h] at this; simp at this; simp [this]
  | cons a l => rw [h] at this; simp at this; simp [this]
set_option maxRecDepth 100000 in
theorem nameB_no {s : ByteArray} {i : Nat} (h : i < s.size) (h1 : letterB (chr s i) = false) (h2 : digitB (chr s i) = false) (h3 : (chr s i != 95) = true) : nameB s = false := by
  have : decide (∀ i, i < s.size → okB (chr s i) = true) = false := by
    rw [decide_eq_false_iff_not]
    intro hh
    have := hh i h
    unfold okB at this
    rw [h1, h2] at this
    simp_all
  unfold nameB
  rw [this, Bool.and_false]
set_option maxRecDepth 100000 in
theorem nameB_yes {s : ByteArray} (h0 : 0 < s.size) (h1 : s.size ≤ 16) (h2 : digitB (chr s 0) = false) (h3 : ∀ i, i < s.size → okB (chr s i) = true) : nameB s = true := by
  unfold nameB
  rw [h2, decide_eq_true h0, decide_eq_true h1, decide_eq_true h3]; rfl
set_option maxRecDepth 100000 in
theorem okB_step {s : ByteArray} {i : Nat} (h : ∀ j, j < i → okB (chr s j) = true) (h1 : okB (chr s i) = true) : ∀ j, j < i + 1 → okB (chr s j) = true := fun j hj => by
  rcases Nat.lt_or_ge j i with k | k
  · exact h j k
  · obtain rfl : j = i := by omega
    exact h1
set_option maxRecDepth 100000 in
set_option maxHeartbeats 1000000 in
theorem name_in (s : ByteArray) (h2 : 0 < s.size) (h1 : s.size ≤ 16) (w : World) : Calls Tryz.prog 116 #[.string s] w fun e w' => e = .returned (.bool (nameB s)) ∧ w' = w := by
  have h0 : s.toList.isEmpty = false := by rw [empty_size]; exact decide_eq_false (by omega)
  have h1' : (s.size : Int) ≤ 16 := by omega
  have h2' : 0 < (s.size : Int) := by omega
  obtain ⟨F, hF⟩ : ∃ F, nameB s = F := ⟨_, rfl⟩
  rw [hF]
  have HF : Hid (nameB s = F) := hF
  clear hF
  go_enter Tryz.func116, Tryz.ntmps116
  go_wp2_with fail
  refine (digit_any _ _).mono ?_
  rintro e w ⟨rfl, rfl⟩
  rw [chr_eq s 0 h2]
  cases hd : digitB (chr s 0) with
  | true =>
    go_wp2
    go_ret
    refine ⟨?_, rfl⟩
    have := HF.out
    unfold nameB at this
    rw [hd, Bool.not_true, Bool.and_false, Bool.false_and] at this
    rw [← this]
    rfl
  | false =>
    have HD : Hid (digitB (chr s 0) = false) := hd
    clear hd
    go_wp2_with fail
    go_loopw [18] (fun c18 wr => ∃ i : Nat, i ≤ s.size ∧ c18 = .int .i64 (i : Int) ∧ (∀ j, j < i → okB (chr s j) = true) ∧ wr = w) (fun c18 _ => s.size - (intOf c18).toNat)
    case atStart => exact ⟨0, by omega, rfl, fun j hj => by omega, rfl⟩
    case round =>
      obtain ⟨i, hi, rfl, hj, rfl⟩ := hrel
      have HJ : Hid (∀ j, j < i → okB (chr s j) = true) := hj
      clear hj
      go_wp2_with (first | (go_at_call 150; refine (digit_any _ _).mono ?_; rintro e w ⟨rfl, rfl⟩) | (go_at_call 151; refine (letter_any _ _).mono ?_; rintro e w ⟨rfl, rfl⟩))
      · have a1 : i < s.size := by assumption
        have a2 : letterB (chr s i) = false := by rw [← chr_eq s i a1]; assumption
        have a3 : digitB (chr s i) = false := by rw [← chr_eq s i a1]; assumption
        have a4 : (chr s i != 95) = true := by rw [← chr_eq s i a1]; assumption
        go_ret
        exact ⟨by rw [← HF.out, nameB_no a1 a2 a3 a4]; rfl, rfl⟩
      · have a1 : i < s.size := by assumption
        have a4 : (chr s i != 95) = false := by rw [← chr_eq s i a1]; assumption
        go_roundw
        case rel =>
          refine ⟨i + 1, by omega, by go_num, okB_step HJ.out ?_, by trivial⟩
          unfold okB
          rw [bne_eq_false_iff_eq] at a4
          rw [a4]; rfl
        case measure => simp [intOf]; omega
      · have a1 : i < s.size := by assumption
        have a3 : digitB (chr s i) = true := by rw [← chr_eq s i a1]; assumption
        go_roundw
        case rel =>
          refine ⟨i + 1, by omega, by go_num, okB_step HJ.out ?_, by trivial⟩
          unfold okB
          rw [a3]; simp
        case measure => simp [intOf]; omega
      · have a1 : i < s.size := by assumption
        have a2 : letterB (chr s i) = true := by rw [← chr_eq s i a1]; assumption
        go_roundw
        case rel =>
          refine ⟨i + 1, by omega, by go_num, okB_step HJ.out ?_, by trivial⟩
          unfold okB
          rw [a2]; simp
        case measure => simp [intOf]; omega
      · go_ret
        obtain rfl : i = s.size := by omega
        exact ⟨by rw [← HF.out, nameB_yes h2 h1 HD.out HJ.out]; rfl, rfl⟩
set_option maxRecDepth 100000 in
set_option maxHeartbeats 1000000 in
theorem name_any (s : ByteArray) (w : World) : Calls Tryz.prog 116 #[.string s] w fun e w' => e = .returned (.bool (nameB s)) ∧ w' = w := by
  by_cases h2 : 0 < s.size
  · by_cases h1 : s.size ≤ 16
    · exact name_in s h2 h1 w
    · have hN : nameB s = false := by unfold nameB; rw [decide_eq_false h1]; simp
      rw [hN]
      clear hN
      have h0 : s.toList.isEmpty = false := by rw [empty_size]; exact decide_eq_false (by omega)
      have h1' : ¬ (s.size : Int) ≤ 16 := by omega
      have h1'' : (16 : Int) < (s.size : Int) := by omega
      go_enter Tryz.func116, Tryz.ntmps116
      go_wp2
      go_ret
      exact ⟨rfl, rfl⟩
  · have hN : nameB s = false := by unfold nameB; rw [decide_eq_false h2]; simp
    rw [hN]
    clear hN
    have h0 : s.toList.isEmpty = true := by rw [empty_size]; exact decide_eq_true (by omega)
    go_enter Tryz.func116, Tryz.ntmps116
    go_wp2
    go_ret
    exact ⟨rfl, rfl⟩
end Go.Proofs.YtniljoojoafiaaaGreatDoor.V
namespace Go.Proofs.YtniljoojoafiaaaGreatDoor.V
open Go.RowKit
def okN (g : Nat → ByteArray) (i : Nat) : Bool := nameB (g i) && (decide (i = 0) || Op.bytesLess (g (i - 1)).toList (g i).toList)
def namedB (q m : Nat) (g : Nat → ByteArray) : Bool := decide (q = m ∧ ∀ i, i < q → okN g i = true)
set_option maxRecDepth 100000 in
theorem namedB_no {q m : Nat} {g : Nat → ByteArray} {i : Nat} (h : i < q) (hn : okN g i = false) : namedB q m g = false := decide_eq_false (fun hh => by have := hh.2 i h; rw [hn] at this; cases this)
set_option maxRecDepth 100000 in
theorem namedB_yes {q : Nat} {g : Nat → ByteArray} (h : ∀ i, i < q → okN g i = true) : namedB q q g = true := decide_eq_true ⟨rfl, h⟩
set_option maxRecDepth 100000 in
theorem okN_name {g : Nat → ByteArray} {i : Nat} (h : nameB (g i) = false) : okN g i = false := by unfold okN; rw [h]; rfl
set_option maxRecDepth 100000 in
theorem okN_less {g : Nat → ByteArray} {j : Nat} (h : (!Op.bytesLess (g j).toList (g (j + 1)).toList) = true) : okN g (j + 1) = false := by
  unfold okN
  rw [Nat.add_sub_cancel]
  simp at h
  simp [h]
set_option maxRecDepth 100000 in
theorem okN_rise {g : Nat → ByteArray} {j : Nat} (h0 : nameB (g (j + 1)) = true) (h : (!Op.bytesLess (g j).toList (g (j + 1)).toList) = false) : okN g (j + 1) = true := by
  unfold okN
  rw [Nat.add_sub_cancel, h0]
  simp at h
  simp [h]
set_option maxRecDepth 100000 in
theorem okN_zero {g : Nat → ByteArray} (h0 : nameB (g 0) = true) : okN g 0 = true := by
  unfold okN
  rw [h0]
  rfl
set_option maxRecDepth 100000 in
theorem okN_step {g : Nat → ByteArray} {i : Nat} (h : ∀ j, j < i → okN g j = true) (h1 : okN g i = true) : ∀ j, j < i + 1 → okN g j = true := fun j hj => by
  rcases Nat.lt_or_ge j i with k | k
  · exact h j k
  · obtain rfl : j = i := by omega
    exact h1
set_option maxRecDepth 100000 in
set_option maxHeartbeats 2000000 in
theorem named_some {B : Nat} {w : World} {k : Int} {b : Bool} {n : Int} {s : ByteArray} {m q : Nat} {g : Nat → ByteArray} {pa na : Option Addr} {pc nc : Nat} (hN : Names B w q g na nc) (hB : B ≤ w.heap.size) (hqm : q = m) (hq0 : 0 < q) :
    Calls Tryz.prog 91 #[.agg #[.int .i64 k, .bool b, .int .i64 n, .string s, .slice pa m pc, .slice na q nc]] w fun e w' => e = .returned (.bool (namedB q m g)) ∧ Below w.heap.size w w' := by
  subst hqm
  obtain ⟨h1, h2, h3, h4⟩ := hN
  obtain ⟨bb, o, rfl, hbB, hcell⟩ := h4 hq0
  have hmax : (q : Int) ≤ 9223372036854775807 := by unfold maxLen at h2; omega
  obtain ⟨F, hF⟩ : ∃ F, namedB q q g = F := ⟨_, rfl⟩
  rw [hF]
  have HF : Hid (namedB q q g = F) := hF
  clear hF
  go_enter Tryz.func91, Tryz.ntmps91
  go_wp2_with fail
  have hW1 := heap_alloc_new w (.cells #[.int .i64 k, .bool b, .int .i64 n, .string s, .slice pa q pc, .slice (some ⟨bb, o, none⟩) q nc] 34)
  have hW2 := (Below.refl w.heap.size w).alloc (Nat.le_refl _) (.cells #[.int .i64 k, .bool b, .int .i64 n, .string s, .slice pa q pc, .slice (some ⟨bb, o, none⟩) q nc] 34)
  obtain ⟨W, hW⟩ : ∃ W, w.alloc (.cells #[.int .i64 k, .bool b, .int .i64 n, .string s, .slice pa q pc, .slice (some ⟨bb, o, none⟩) q nc] 34) = W := ⟨_, rfl⟩
  rw [hW] at hW1 hW2 ⊢
  clear hW
  have hc5 := cell_of_row W _ 5 _ _ _ hW1
  replace hcell : ∀ i, i < q → W.cell? ⟨bb, o + i, none⟩ = some (.string (g i)) := fun i hi => cell_later (hcell i hi) (by show bb < _; omega) hW2
  go_loopw [15] (fun c15 wr => ∃ i : Nat, i ≤ q ∧ c15 = .int .i64 (i : Int) ∧ (∀ j, j < i → okN g j = true) ∧ wr = W) (fun c15 _ => q - (intOf c15).toNat)
  case atStart => exact ⟨0, by omega, rfl, fun j hj => by omega, rfl⟩
  case round =>
    obtain ⟨i, hi, rfl, hj, rfl⟩ := hrel
    have HJ : Hid (∀ j, j < i → okN g j = true) := hj
    clear hj
    by_cases hiq : i < q
    · have hc := hcell i hiq
      have hiq' : (i : Int) < (q : Int) := by omega
      by_cases hi0 : 0 < i
      · have hi0' : (0 : Int) < (i : Int) := by omega
        obtain ⟨j, rfl⟩ : ∃ j, i = j + 1 := ⟨i - 1, by omega⟩
        have hc2 := hcell j (by omega)
        go_wp2_with fail
        refine (name_any _ _).mono ?_
        rintro e W ⟨rfl, rfl⟩
        cases hn : nameB (g (j + 1)) with
        | true =>
          go_wp2
          · rename_i hl
            go_ret
            refine ⟨?_, hW2⟩
            rw [← HF.out, namedB_no hiq (okN_less hl)]
            rfl
          · rename_i hl
            go_roundw
            case rel => exact ⟨j + 1 + 1, by omega, by go_num, okN_step HJ.out (okN_rise hn hl), by trivial⟩
            case measure => simp [intOf]; omega
        | false =>
          go_wp2
          go_ret
          refine ⟨?_, hW2⟩
          rw [← HF.out, namedB_no hiq (okN_name hn)]
          rfl
      · obtain rfl : i = 0 := by omega
        clear hiq' hi0
        rw [Nat.add_zero] at hc
        go_wp2_with fail
        refine (name_any _ _).mono ?_
        rintro e W ⟨rfl, rfl⟩
        cases hn : nameB (g 0) with
        | true =>
          go_wp2
          go_roundw
          case rel => exact ⟨0 + 1, by omega, by go_num, okN_step HJ.out (okN_zero hn), by trivial⟩
          case measure => simp [intOf]; omega
        | false =>
          go_wp2
          go_ret
          refine ⟨?_, hW2⟩
          rw [← HF.out, namedB_no hiq (okN_name hn)]
          rfl
    · obtain rfl : i = q := by omega
      go_wp2
      go_ret
      refine ⟨?_, hW2⟩
      rw [← HF.out, namedB_yes HJ.out]
      rfl
set_option maxRecDepth 100000 in
set_option maxHeartbeats 1000000 in
theorem named_any {B : Nat} {w : World} {t : Tr} {x : Ad} (hN : Names B w t.q t.g x.na x.nc) (hB : B ≤ w.heap.size) :
    Calls Tryz.prog 91 #[t.val x] w fun e w' => e = .returned (.bool (namedB t.q t.m t.g)) ∧ Below w.heap.size w w' := by
  obtain ⟨pa, pc, na, nc⟩ := x
  replace hN : Names B w t.q t.g na nc := hN
  show Calls Tryz.prog 91 #[.agg #[.int .i64 t.k, .bool t.b, .int .i64 t.n, .string t.s, .slice pa t.m pc, .slice na t.q nc]] w fun e w' => e = .returned (.bool (namedB t.q t.m t.g)) ∧ Below w.heap.size w w'
  generalize t.k = k
  generalize t.b = b
  generalize t.n = n
  generalize t.s = s
  generalize t.m = m
  generalize t.q = q at hN ⊢
  generalize t.g = g at hN ⊢
  by_cases hqm : q = m
  · by_cases h0 : 0 < q
    · exact named_some hN hB hqm h0
    · obtain rfl : q = 0 := by omega
      subst hqm
      rw [namedB_yes (fun i hi => by omega)]
      go_enter Tryz.func91, Tryz.ntmps91
      go_wp2_with fail
      go_loopw [15] (fun c15 wr => c15 = .int .i64 0 ∧ Below w.heap.size w wr) (fun _ _ => 0)
      case atStart => exact ⟨rfl, (Below.refl _ _).alloc (Nat.le_refl _) _⟩
      case round =>
        obtain ⟨rfl, hb⟩ := hrel
        go_wp2
        go_ret
        exact ⟨rfl, hb⟩
  · have hF : namedB q m g = false := decide_eq_false (fun h => hqm h.1)
    rw [hF]
    have hqm' : ¬ (q : Int) = (m : Int) := by omega
    have hqm2 : ((q : Int) != (m : Int)) = true := by simp; omega
    go_enter Tryz.func91, Tryz.ntmps91
    go_wp2
    go_ret
    exact ⟨rfl, (Below.refl _ _).alloc (Nat.le_refl _) _⟩
end Go.Proofs.YtniljoojoafiaaaGreatDoor.V
namespace Go.Proofs.YtniljoojoafiaaaGreatDoor.V
open Go.RowKit
def formedB (k : Int) (b : Bool) (n : Int) (s : ByteArray) (m q : Nat) : Bool :=
  decide (0 ≤ k) && decide (k ≤ 6) && (decide (k = 1) || !b) && (decide (k = 2) || decide (n = 0)) && (decide (k = 3) || decide (k = 4) || s.toList.isEmpty) && (decide (k = 5) || decide (k = 6) || decide ((m : Int) = 0)) && (decide (k = 6) || decide ((q : Int) = 0))
def Tr.formed (t : Tr) : Bool := formedB t.k t.b t.n t.s t.m t.q
set_option maxRecDepth 100000 in
set_option maxHeartbeats 4000000 in
theorem formed_any (t : Tr) (x : Ad) (w : World) :
  Calls Tryz.prog 90 #[t.val x] w fun e w' => e = .returned (.bool t.formed) ∧ Below w.heap.size w w' := by
  obtain ⟨pa, pc, na, nc⟩ := x
  show Calls Tryz.prog 90 #[.agg #[.int .i64 t.k, .bool t.b, .int .i64 t.n, .string t.s, .slice pa t.m pc, .slice na t.q nc]] w fun e w' => e = .returned (.bool (formedB t.k t.b t.n t.s t.m t.q)) ∧ Below w.heap.size w w'
  generalize t.k = k
  generalize t.b = b
  generalize t.n = n
  generalize t.s = s
  generalize t.m = m
  generalize t.q = q
  obtain ⟨F, hF⟩ : ∃ F, formedB k b n s m q = F := ⟨_, rfl⟩
  rw [hF]
  have HF : Hid (formedB k b n s m q = F) := hF
  clear hF
  go_enter Tryz.func90, Tryz.ntmps90
  go_step
  simp only [List.append_eq, List.cons_append, List.nil_append]
  go_wp2
  all_goals
    go_ret
    refine ⟨?_, (Below.refl _ _).alloc (Nat.le_refl _) _⟩
    have := HF.out
    unfold formedB at this
    subst this
    simp_all
  all_goals (rw [Bool.eq_iff_iff]; simp; try (intros; omega))
end Go.Proofs.YtniljoojoafiaaaGreatDoor.V
