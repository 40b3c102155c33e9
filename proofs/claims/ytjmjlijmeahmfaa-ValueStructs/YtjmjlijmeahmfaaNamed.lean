/- Whether a struct's names may be, rise, and are as many as its parts (named). -/
import Derived.Test.YtjmjlijmeahmfaaName
namespace Go.Proofs.Ytjmjlijmeahmfaa
open Go.RowKit
def okN (g : Nat → ByteArray) (i : Nat) : Bool := nameB (g i) && (decide (i = 0) || Op.bytesLess (g (i - 1)).toList (g i).toList)
def namedB (q m : Nat) (g : Nat → ByteArray) : Bool := decide (q = m ∧ ∀ i, i < q → okN g i = true)
theorem namedB_no {q m : Nat} {g : Nat → ByteArray} {i : Nat} (h : i < q) (hn : okN g i = false) : namedB q m g = false := decide_eq_false (fun hh => by have := hh.2 i h; rw [hn] at this; cases this)
theorem namedB_yes {q : Nat} {g : Nat → ByteArray} (h : ∀ i, i < q → okN g i = true) : namedB q q g = true := decide_eq_true ⟨rfl, h⟩
theorem okN_name {g : Nat → ByteArray} {i : Nat} (h : nameB (g i) = false) : okN g i = false := by unfold okN; rw [h]; rfl
theorem okN_less {g : Nat → ByteArray} {j : Nat} (h : (!Op.bytesLess (g j).toList (g (j + 1)).toList) = true) : okN g (j + 1) = false := by
  unfold okN
  rw [Nat.add_sub_cancel]
  simp at h
  simp [h]
theorem okN_rise {g : Nat → ByteArray} {j : Nat} (h0 : nameB (g (j + 1)) = true) (h : (!Op.bytesLess (g j).toList (g (j + 1)).toList) = false) : okN g (j + 1) = true := by
  unfold okN
  rw [Nat.add_sub_cancel, h0]
  simp at h
  simp [h]
theorem okN_zero {g : Nat → ByteArray} (h0 : nameB (g 0) = true) : okN g 0 = true := by
  unfold okN
  rw [h0]
  rfl
theorem okN_step {g : Nat → ByteArray} {i : Nat} (h : ∀ j, j < i → okN g j = true) (h1 : okN g i = true) : ∀ j, j < i + 1 → okN g j = true := fun j hj => by
  rcases Nat.lt_or_ge j i with k | k
  · exact h j k
  · obtain rfl : j = i := by omega
    exact h1
set_option maxHeartbeats 2000000 in
theorem named_some {B : Nat} {w : World} {k : Int} {b : Bool} {n : Int} {s : ByteArray} {m q : Nat} {g : Nat → ByteArray} {pa na : Option Addr} {pc nc : Nat} (hN : Names B w q g na nc) (hB : B ≤ w.heap.size) (hqm : q = m) (hq0 : 0 < q) :
    Calls Try.prog 65 #[.agg #[.int .i64 k, .bool b, .int .i64 n, .string s, .slice pa m pc, .slice na q nc]] w fun e w' => e = .returned (.bool (namedB q m g)) ∧ Below w.heap.size w w' := by
  subst hqm
  obtain ⟨h1, h2, h3, h4⟩ := hN
  obtain ⟨bb, o, rfl, hbB, hcell⟩ := h4 hq0
  have hmax : (q : Int) ≤ 9223372036854775807 := by unfold maxLen at h2; omega
  obtain ⟨F, hF⟩ : ∃ F, namedB q q g = F := ⟨_, rfl⟩
  rw [hF]
  have HF : Hid (namedB q q g = F) := hF
  clear hF
  go_enter Try.func65, Try.ntmps65
  go_wp2_with fail
  have hW1 := heap_alloc_new w (.cells #[.int .i64 k, .bool b, .int .i64 n, .string s, .slice pa q pc, .slice (some ⟨bb, o, none⟩) q nc] 25)
  have hW2 := (Below.refl w.heap.size w).alloc (Nat.le_refl _) (.cells #[.int .i64 k, .bool b, .int .i64 n, .string s, .slice pa q pc, .slice (some ⟨bb, o, none⟩) q nc] 25)
  obtain ⟨W, hW⟩ : ∃ W, w.alloc (.cells #[.int .i64 k, .bool b, .int .i64 n, .string s, .slice pa q pc, .slice (some ⟨bb, o, none⟩) q nc] 25) = W := ⟨_, rfl⟩
  rw [hW] at hW1 hW2 ⊢
  clear hW
  have hc5 := cell_of_row W _ 5 _ _ _ hW1
  replace hcell : ∀ i, i < q → W.cell? ⟨bb, o + i, none⟩ = some (.string (g i)) := fun i hi => cell_later (hcell i hi) (by show bb < _; omega) hW2
  go_loopw [15] (fun c15 wr => ∃ i : Nat, i ≤ q ∧ c15 = .int .i64 (i : Int) ∧ (∀ j, j < i → okN g j = true) ∧ wr = W) (fun c15 _ => q - (intOf c15).toNat)
  case atStart => exact ⟨0, by omega, rfl, fun j hj => by omega, rfl⟩
  case round =>
    obtain ⟨i, hi, rfl, hj, rfl⟩ := hrel
    have HJ : Hid (∀ j, j < i → okN g j = true) := hj
    clear hj
    by_cases hiq : i < q
    · have hc := hcell i hiq
      have hiq' : (i : Int) < (q : Int) := by omega
      by_cases hi0 : 0 < i
      · have hi0' : (0 : Int) < (i : Int) := by omega
        obtain ⟨j, rfl⟩ : ∃ j, i = j + 1 := ⟨i - 1, by omega⟩
        have hc2 := hcell j (by omega)
        go_wp2_with fail
        refine (name_any _ _).mono ?_
        rintro e W ⟨rfl, rfl⟩
        cases hn : nameB (g (j + 1)) with
        | true =>
          go_wp2
          · rename_i hl
            go_ret
            refine ⟨?_, hW2⟩
            rw [← HF.out, namedB_no hiq (okN_less hl)]
            rfl
          · rename_i hl
            go_roundw
            case rel => exact ⟨j + 1 + 1, by omega, by go_num, okN_step HJ.out (okN_rise hn hl), by trivial⟩
            case measure => simp [intOf]; omega
        | false =>
          go_wp2
          go_ret
          refine ⟨?_, hW2⟩
          rw [← HF.out, namedB_no hiq (okN_name hn)]
          rfl
      · obtain rfl : i = 0 := by omega
        clear hiq' hi0
        rw [Nat.add_zero] at hc
        go_wp2_with fail
        refine (name_any _ _).mono ?_
        rintro e W ⟨rfl, rfl⟩
        cases hn : nameB (g 0) with
        | true =>
          go_wp2
          go_roundw
          case rel => exact ⟨0 + 1, by omega, by go_num, okN_step HJ.out (okN_zero hn), by trivial⟩
          case measure => simp [intOf]; omega
        | false =>
          go_wp2
          go_ret
          refine ⟨?_, hW2⟩
          rw [← HF.out, namedB_no hiq (okN_name hn)]
          rfl
    · obtain rfl : i = q := by omega
      go_wp2
      go_ret
      refine ⟨?_, hW2⟩
      rw [← HF.out, namedB_yes HJ.out]
      rfl
set_option maxHeartbeats 1000000 in
theorem named_any {B : Nat} {w : World} {t : Tr} {x : Ad} (hN : Names B w t.q t.g x.na x.nc) (hB : B ≤ w.heap.size) :
    Calls Try.prog 65 #[t.val x] w fun e w' => e = .returned (.bool (namedB t.q t.m t.g)) ∧ Below w.heap.size w w' := by
  obtain ⟨pa, pc, na, nc⟩ := x
  replace hN : Names B w t.q t.g na nc := hN
  show Calls Try.prog 65 #[.agg #[.int .i64 t.k, .bool t.b, .int .i64 t.n, .string t.s, .slice pa t.m pc, .slice na t.q nc]] w fun e w' => e = .returned (.bool (namedB t.q t.m t.g)) ∧ Below w.heap.size w w'
  generalize t.k = k
  generalize t.b = b
  generalize t.n = n
  generalize t.s = s
  generalize t.m = m
  generalize t.q = q at hN ⊢
  generalize t.g = g at hN ⊢
  by_cases hqm : q = m
  · by_cases h0 : 0 < q
    · exact named_some hN hB hqm h0
    · obtain rfl : q = 0 := by omega
      subst hqm
      rw [namedB_yes (fun i hi => by omega)]
      go_enter Try.func65, Try.ntmps65
      go_wp2_with fail
      go_loopw [15] (fun c15 wr => c15 = .int .i64 0 ∧ Below w.heap.size w wr) (fun _ _ => 0)
      case atStart => exact ⟨rfl, (Below.refl _ _).alloc (Nat.le_refl _) _⟩
      case round =>
        obtain ⟨rfl, hb⟩ := hrel
        go_wp2
        go_ret
        exact ⟨rfl, hb⟩
  · have hF : namedB q m g = false := decide_eq_false (fun h => hqm h.1)
    rw [hF]
    have hqm' : ¬ (q : Int) = (m : Int) := by omega
    have hqm2 : ((q : Int) != (m : Int)) = true := by simp; omega
    go_enter Try.func65, Try.ntmps65
    go_wp2
    go_ret
    exact ⟨rfl, (Below.refl _ _).alloc (Nat.le_refl _) _⟩
end Go.Proofs.Ytjmjlijmeahmfaa
