/- The first error of a value that stands within so many, as the document has it (its shape): the program's own (sound). -/
import Derived.Test.YtjmjlijmeahmfaaRleaf
import Derived.Test.YtjmjlijmeahmfaaRst
namespace Go.Proofs.Ytjmjlijmeahmfaa
open Go.RowKit
set_option maxRecDepth 20000 in
set_option maxHeartbeats 2000000 in
theorem rshape_unlike {B : Nat} {w : World} {b : Bool} {n : Int} {s : ByteArray} {m q : Nat} {g : Nat → ByteArray} {pa na : Option Addr} {pc nc : Nat} (d : Int) (h : ¬ 8 < d) (hN : Names B w q g na nc) (hB : B ≤ w.heap.size) (hf : formedB 6 b n s m q = true) (h32 : ¬ 32 < m) (hqm : q ≠ m) :
    Calls Try.prog 36 #[.agg #[.int .i64 6, .bool b, .int .i64 n, .string s, .slice pa m pc, .slice na q nc], .int .i64 d] w fun e w' => e = .returned (.int .i64 31) ∧ Below w.heap.size w w' := by
  obtain ⟨hq1, hq2, hgs, hna⟩ := hN
  have hmax : (q : Int) ≤ 9223372036854775807 := by unfold maxLen at hq2; omega
  obtain ⟨rfl, rfl, hs⟩ : b = false ∧ n = 0 ∧ s.toList.isEmpty = true := by
    unfold formedB at hf
    simp at hf
    simp_all
  clear hf
  have h8' : d ≤ 8 := by omega
  have h32' : (m : Int) ≤ 32 := by omega
  have hq : ((q : Int) != (m : Int)) = true := by simp; omega
  have HN : Hid (0 < q → ∃ b o, na = some ⟨b, o, none⟩ ∧ b < B ∧ ∀ i, i < q → w.cell? ⟨b, o + i, none⟩ = some (.string (g i))) := hna
  clear hna
  have HG : Hid (∀ i, i < q → (g i).size ≤ maxLen) := hgs
  clear hgs
  go_enter Try.func36, Try.ntmps36
  go_wp2_with fail
  go_loopw [6] (fun c6 wr => ∃ i : Nat, i ≤ q ∧ c6 = .int .i64 (i : Int) ∧ (∀ j, j < i → okN g j = true) ∧ wr.cell? ⟨w.heap.size, 4, none⟩ = some (.slice pa m pc) ∧ wr.cell? ⟨w.heap.size, 5, none⟩ = some (.slice na q nc) ∧ Below w.heap.size w wr ∧ w.heap.size < wr.heap.size) (fun c6 _ => q - (intOf c6).toNat)
  case atStart => exact ⟨0, by omega, rfl, fun j hj => by omega, cell_of_row _ _ 4 _ _ _ (heap_alloc_new _ _), cell_of_row _ _ 5 _ _ _ (heap_alloc_new _ _), (Below.refl _ _).alloc (Nat.le_refl _) _, by simp⟩
  case round =>
    obtain ⟨i, hi, rfl, hj, hc4, hc5, hbr, hsr⟩ := hrel
    have HJ : Hid (∀ j, j < i → okN g j = true) := hj
    clear hj
    by_cases him : i < q
    · have him' : (i : Int) < (q : Int) := by omega
      obtain ⟨nb, no, rfl, hnb, hcell⟩ := HN.out (by omega)
      have hc := cell_later (hcell i him) (by show nb < w.heap.size; omega) hbr
      have hnm := fun (W : World) => rname_any (g i) (by have := HG.out i him; unfold maxLen at this; omega) W
      cases hn : nameB (g i) with
      | false =>
        rw [hn] at hnm
        go_wp2_with fail
        go_quiet ((go_at_call 27; exact Calls.quiet_of_same (hnm _)))
        go_wp2
        go_ret
        refine ⟨?_, ⟨hbr.os, hbr.tape, hbr.output, hbr.size, hbr.block⟩⟩
        rfl
      | true =>
        rw [hn] at hnm
        by_cases hi0 : 0 < i
        · have hi0' : (0 : Int) < (i : Int) := by omega
          obtain ⟨j, rfl⟩ : ∃ j, i = j + 1 := ⟨i - 1, by omega⟩
          have hc2 := cell_later (hcell j (by omega)) (by show nb < w.heap.size; omega) hbr
          go_wp2_with fail
          go_quiet ((go_at_call 27; exact Calls.quiet_of_same (hnm _)))
          go_wp2
          · rename_i hl
            go_ret
            refine ⟨?_, ⟨hbr.os, hbr.tape, hbr.output, hbr.size, hbr.block⟩⟩
            rfl
          · rename_i hl
            go_roundw
            case rel => exact ⟨j + 1 + 1, by omega, by go_num, okN_step HJ.out (okN_rise hn hl), hc4, hc5, ⟨hbr.os, hbr.tape, hbr.output, hbr.size, hbr.block⟩, hsr⟩
            case measure => simp [intOf]; omega
        · obtain rfl : i = 0 := by omega
          clear him' hi0
          have hm0 : (0 : Int) < (q : Int) := by omega
          rw [Nat.add_zero] at hc
          go_wp2_with fail
          go_quiet ((go_at_call 27; exact Calls.quiet_of_same (hnm _)))
          go_wp2
          go_roundw
          case rel => exact ⟨0 + 1, by omega, by go_num, okN_step HJ.out (okN_zero hn), hc4, hc5, ⟨hbr.os, hbr.tape, hbr.output, hbr.size, hbr.block⟩, hsr⟩
          case measure => simp [intOf]; omega
    · obtain rfl : i = q := by omega
      go_wp2
      go_ret
      exact ⟨rfl, hbr⟩
set_option maxHeartbeats 1000000 in
theorem rshape_any (t : Tr) : ∀ {B : Nat} {w : World} {x : Ad} (d : Int), 0 ≤ d → d ≤ 9223372036854775806 → Lies B w t x → B ≤ w.heap.size →
    Calls Try.prog 36 #[t.val x, .int .i64 d] w fun e w' => e = .returned (.int .i64 (soundT t d)) ∧ Below w.heap.size w w' := by
  induction t with
  | no => exact fun _ _ _ hL _ => hL.no.elim
  | mk k b n s m f q g ih =>
    intro B w x d h0 h63 hL hB
    by_cases h8 : 8 < d
    · have hS : soundT (.mk k b n s m f q g) d = 30 := by unfold soundT; rw [if_pos h8]
      rw [hS]
      exact rshape_deep k b n s m q x.pa x.na x.pc x.nc d h8 w
    · cases hf : formedB k b n s m q with
      | false =>
        have hS : soundT (.mk k b n s m f q g) d = 6 := by unfold soundT; rw [if_neg h8, if_pos hf]
        rw [hS]
        exact rshape_form k b n s m q x.pa x.na x.pc x.nc d h8 hf w
      | true =>
        have hf' : ¬ formedB k b n s m q = false := by rw [hf]; decide
        by_cases h32 : 32 < m
        · have hS : soundT (.mk k b n s m f q g) d = 3 := by unfold soundT; rw [if_neg h8, if_neg hf', if_pos h32]
          rw [hS]
          exact rshape_many k b n s m q x.pa x.na x.pc x.nc d h8 hf h32 w
        · have ih' : ∀ i, i < m → ∀ (w : World) (A : Ad), Lies B w (f i) A → B ≤ w.heap.size → Calls Try.prog 36 #[(f i).val A, .int .i64 (d + 1)] w fun e w' => e = .returned (.int .i64 (soundT (f i) (d + 1))) ∧ Below w.heap.size w w' :=
            fun i _ w A hA hw => ih i (d + 1) (by omega) (by omega) hA hw
          have hS : soundT (.mk k b n s m f q g) d = if k = 6 ∧ namedB q m g = false then 31 else fe m (fun i => soundT (f i) (d + 1)) := by
            rw [soundT, if_neg h8, if_neg hf', if_neg h32]
          rw [hS]
          by_cases h4 : k ≤ 4
          · have hm : m = 0 := by
              unfold formedB at hf
              simp only [Bool.and_eq_true, Bool.or_eq_true, decide_eq_true_eq] at hf
              omega
            rw [if_neg (by omega)]
            have h := rshape_leaf k b n s m q x.pa x.na x.pc x.nc d h8 hf h4 w
            subst hm
            exact h
          · by_cases h5 : k = 5
            · subst h5
              rw [if_neg (by omega)]
              exact rshape_list d h0 h8 hL hB hf h32 ih'
            · have h6 : k = 6 := by
                unfold formedB at hf
                simp only [Bool.and_eq_true, Bool.or_eq_true, decide_eq_true_eq] at hf
                omega
              subst h6
              by_cases hqm : q = m
              · subst hqm
                have h := rshape_struct d h0 h8 hL hB hf h32 ih'
                simpa only [true_and] using h
              · rw [if_pos ⟨rfl, decide_eq_false (fun hh => hqm hh.1)⟩]
                exact rshape_unlike d h8 (hL.lims).2.2.2.2 hB hf h32 hqm
end Go.Proofs.Ytjmjlijmeahmfaa
