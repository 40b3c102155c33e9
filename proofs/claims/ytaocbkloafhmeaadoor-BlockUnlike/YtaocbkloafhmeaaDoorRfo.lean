/- The document's Follows, called. -/
import Derived.Test.YtaocbkloafhmeaaDoorFol
import Derived.Test.YtaocbkloafhmeaaDoorRch
namespace Go.Proofs.YtaocbkloafhmeaaDoor
open Go.RowKit
set_option maxRecDepth 100000 in
set_option maxHeartbeats 2000000 in
theorem rfollows_any (x : Bk) (p : Option Addr) (c m : Nat) (q : ByteArray) (w : World) (hX : Revs w p x.n c x.R) :
    Calls Tryd.prog 26 #[x.val p c, .int .u64 (m : Int), .string q] w fun e w' => e = .returned (.int .i64 (folR x m q)) ∧ Below w.heap.size w w' := by
  obtain ⟨seq, prev, tx, n, R⟩ := x
  simp only at hX ⊢
  have hf : folR ⟨seq, prev, tx, n, R⟩ m q = if n = 0 ∨ 64 < n then 3 else if fe R n ≠ 0 then fe R n else if seq ≠ m ∨ prev ≠ q then 90 else 0 := rfl
  rw [hf]
  clear hf
  rw [show (Bk.mk seq prev tx n R).val p c = .agg #[.int .u64 (seq : Int), .string prev, .int .u64 (tx : Int), .slice p n c] from rfl]
  have hcap := hX.cap
  have hm : maxLen = 9223372036854775807 := rfl
  have b0 : ∀ o, Below w.heap.size w (w.alloc o) := fun o => (Below.refl _ w).alloc (Nat.le_refl _) o
  by_cases h0 : n = 0
  · subst h0
    go_enter Tryd.func26, Tryd.ntmps26
    go_wp2
    go_ret
    exact ⟨by simp, b0 _⟩
  · have h0' : ((n : Int) == 0) = false := by rw [beq_eq_false_iff_ne]; omega
    by_cases h64 : 64 < n
    · have h64' : (64 : Int) < (n : Int) := by omega
      go_enter Tryd.func26, Tryd.ntmps26
      go_wp2
      go_ret
      exact ⟨by first | rfl | (simp; done) | (simp_all; done), b0 _⟩
    · have h64' : ¬ (64 : Int) < (n : Int) := by omega
      rw [if_neg (by omega)]
      have hb := beq_dec prev q
      obtain ⟨D, hD⟩ : ∃ D, decide (prev = q) = D := ⟨_, rfl⟩
      rw [hD] at hb
      have hD' : (prev = q) = (D = true) := by rw [← hD]; simp
      obtain ⟨F, hF⟩ : ∃ F, fe R n = F := ⟨_, rfl⟩
      have HF : Hid (fe R n = F) := hF
      rw [hF]
      clear hF
      obtain ⟨Z, hZ⟩ : ∃ Z : Int, (if F ≠ 0 then F else if seq ≠ m ∨ prev ≠ q then 90 else 0) = Z := ⟨_, rfl⟩
      rw [hZ]
      have HZ : Hid ((if F ≠ 0 then F else if seq ≠ m ∨ prev ≠ q then 90 else 0) = Z) := hZ
      clear hZ
      go_enter Tryd.func26, Tryd.ntmps26
      go_wp2_with fail
      go_loopw [7] (fun c7 wr => ∃ i : Nat, i ≤ n ∧ c7 = .int .i64 (i : Int) ∧ fe R i = 0 ∧ wr.heap[w.heap.size]? = some (.cells #[.int .u64 (seq : Int), .string prev, .int .u64 (tx : Int), .slice p n c] 41 (0, 0)) ∧ Below w.heap.size w wr) (fun c7 _ => n - (intOf c7).toNat)
      case atStart => exact ⟨0, Nat.zero_le _, rfl, rfl, heap_alloc_new _ _, b0 _⟩
      case round =>
        obtain ⟨i, hi, rfl, hfe, hrow, hbr⟩ := hrel
        have HE : Hid (fe R i = 0) := hfe
        clear hfe
        have c0 := cell_of_row wr _ 0 _ _ _ hrow
        have c1 := cell_of_row wr _ 1 _ _ _ hrow
        have c3 := cell_of_row wr _ 3 _ _ _ hrow
        have hsz := hbr.size
        have hlt := lt_of_row hrow
        by_cases him : i < n
        · have him' : (i : Int) < (n : Int) := by omega
          obtain ⟨pb, po, rfl, hpb, hat⟩ := hX.at' (by omega)
          have h8 := (hat i him).kept (hbr.block pb hpb)
          have d0 := h8.c0
          have d1 := h8.c1
          have d2 := h8.c2
          have d3 := h8.c3
          have d4 := h8.c4
          have d5 := h8.c5
          have d6 := h8.c6
          have d7 := h8.c7
          have hck := fun W => rcheck_any (R i) (hX.fit i him) W
          go_wp2_with fail
          refine (hck _).mono ?_
          rintro e w3 ⟨rfl, hb3⟩
          have hbx : Below w.heap.size w w3 := hbr.trans (hb3.mono hsz)
          have hrow3 := (hb3.block _ hlt).trans hrow
          clear hb3 hck
          obtain ⟨y, hy⟩ : ∃ y, checkR (R i) = y := ⟨_, rfl⟩
          rw [hy]
          have HY : Hid (checkR (R i) = y) := hy
          clear hy
          by_cases hy0 : y = 0
          · subst hy0
            go_wp2
            go_roundw
            case rel => exact ⟨i + 1, by omega, by go_num, fe_step HE.out HY.out, hrow3, hbx⟩
            case measure => simp [intOf]; omega
          · have hy1 : (y != 0) = true := by simpa using hy0
            go_wp2
            go_ret
            have hFy : F = y := by rw [← HF.out, fe_at him HE.out (by rw [HY.out]; exact hy0), HY.out]
            exact ⟨by rw [← HZ.out]; simp [hFy, hy0], hbx⟩
        · obtain rfl : i = n := by omega
          have hF0 : F = 0 := by rw [← HF.out, HE.out]
          clear HF
          by_cases hs : seq = m
          · subst hs
            cases D with
            | true =>
              go_wp2
              go_ret
              exact ⟨by rw [← HZ.out]; simp [hD', hF0], hbr⟩
            | false =>
              go_wp2
              go_ret
              exact ⟨by rw [← HZ.out]; simp [hD', hF0], hbr⟩
          · have hs' : ((seq : Int) == (m : Int)) = false := by rw [beq_eq_false_iff_ne]; omega
            have hs2 : ((seq : Int) != (m : Int)) = true := by rw [bne_iff_ne]; omega
            go_wp2
            go_ret
            exact ⟨by rw [← HZ.out]; simp [hs, hF0], hbr⟩
end Go.Proofs.YtaocbkloafhmeaaDoor
