/- checkAll and Follows, called. -/
import Derived.Test.YtaocbkloafhmeaaDoorChf
import Derived.Test.YtaocbkloafhmeaaDoorRex
import Derived.Test.YtaocbkloafhmeaaDoorSums
namespace Go.Proofs.YtaocbkloafhmeaaDoor
open Go.RowKit
def fe (R : Nat → Rv) : Nat → Int
  | 0 => 0
  | n + 1 => if fe R n = 0 then checkR (R n) else fe R n
theorem fe_step {R : Nat → Rv} {i : Nat} (h : fe R i = 0) (h2 : checkR (R i) = 0) : fe R (i + 1) = 0 := by
  simp only [fe, h, h2, if_true]
theorem fe_stay {R : Nat → Rv} {i n : Nat} (h : fe R i ≠ 0) (hn : i ≤ n) : fe R n = fe R i := by
  induction n with
  | zero => rw [show i = 0 by omega]
  | succ n ih =>
    by_cases e : i = n + 1
    · rw [e]
    · have := ih (by omega)
      simp only [fe]
      rw [if_neg (by rw [this]; exact h), this]
theorem fe_at {R : Nat → Rv} {i n : Nat} (hi : i < n) (h : fe R i = 0) (h2 : checkR (R i) ≠ 0) : fe R n = checkR (R i) := by
  have h3 : fe R (i + 1) = checkR (R i) := by simp only [fe, h, if_true]
  rw [fe_stay (i := i + 1) (by rw [h3]; exact h2) (by omega), h3]
def folR (x : Bk) (m : Nat) (q : ByteArray) : Int :=
  if x.n = 0 ∨ 64 < x.n then 3 else if fe x.R x.n ≠ 0 then fe x.R x.n else if x.seq ≠ m ∨ x.prev ≠ q then 90 else 0
set_option maxRecDepth 100000 in
set_option maxHeartbeats 2000000 in
theorem all_any (n c : Nat) (hn : n ≤ 64) (R : Nat → Rv) (p : Option Addr) (w : World) (hG : GL w) (hX : Revs w p n c R) :
    Calls Tryd.prog 51 #[.slice p n c] w fun e w' => e = .returned (.int .i64 (fe R n)) ∧ Below w.heap.size w w' := by
  have hcap := hX.cap
  have hm : maxLen = 9223372036854775807 := rfl
  go_enter Tryd.func51, Tryd.ntmps51
  go_wp2_with fail
  go_loopw [8] (fun c wr => ∃ i : Nat, i ≤ n ∧ c = .int .i64 (i : Int) ∧ fe R i = 0 ∧ Below w.heap.size w wr) (fun c _ => n - (intOf c).toNat)
  case atStart => exact ⟨0, Nat.zero_le _, rfl, rfl, Below.refl _ _⟩
  case round =>
    obtain ⟨i, hi, rfl, hfe, hb⟩ := hrel
    have HE : Hid (fe R i = 0) := hfe
    clear hfe
    by_cases him : i < n
    · have him' : (i : Int) < (n : Int) := by omega
      obtain ⟨pb, po, rfl, hpb, hat⟩ := hX.at' (by omega)
      have h8 := (hat i him).kept (hb.block pb hpb)
      have d0 := h8.c0
      have d1 := h8.c1
      have d2 := h8.c2
      have d3 := h8.c3
      have d4 := h8.c4
      have d5 := h8.c5
      have d6 := h8.c6
      have d7 := h8.c7
      have hsz := hb.size
      have ba : ∀ o, Below w.heap.size w (wr.alloc o) := fun o => hb.alloc hsz o
      have hck := fun W hG => check_any (R i) (hX.fit i him) W hG
      go_wp2_with fail
      refine (hck _ (hG.later (ba _))).mono ?_
      rintro e w3 ⟨rfl, hb3⟩
      have hbx : Below w.heap.size w w3 := (ba _).trans (hb3.mono (by simp; omega))
      clear hb3 hck
      obtain ⟨y, hy⟩ : ∃ y, checkR (R i) = y := ⟨_, rfl⟩
      rw [hy]
      have HY : Hid (checkR (R i) = y) := hy
      clear hy
      by_cases hy0 : y = 0
      · subst hy0
        go_wp2
        go_roundw
        case rel => exact ⟨i + 1, by omega, by go_num, fe_step HE.out HY.out, hbx⟩
        case measure => simp [intOf]; omega
      · have hy1 : (y != 0) = true := by simpa using hy0
        go_wp2
        go_ret
        rw [fe_at him HE.out (by rw [HY.out]; exact hy0), HY.out]
        exact ⟨rfl, hbx⟩
    · obtain rfl : i = n := by omega
      go_wp2
      go_ret
      rw [HE.out]
      exact ⟨rfl, hb⟩
theorem beq_dec (a b : ByteArray) : (a.toList == b.toList) = decide (a = b) := by
  by_cases e : a = b
  · subst e; simp
  · rw [beq_of_ne e, decide_eq_false e]
set_option maxRecDepth 100000 in
set_option maxHeartbeats 2000000 in
theorem follows_any (x : Bk) (p : Option Addr) (c m : Nat) (q : ByteArray) (w : World) (hG : GL w) (hX : Revs w p x.n c x.R) :
    Calls Tryd.prog 25 #[x.val p c, .int .u64 (m : Int), .string q] w fun e w' => e = .returned (.int .i64 (folR x m q)) ∧ Below w.heap.size w w' := by
  obtain ⟨seq, prev, tx, n, R⟩ := x
  simp only at hX ⊢
  have hf : folR ⟨seq, prev, tx, n, R⟩ m q = if n = 0 ∨ 64 < n then 3 else if fe R n ≠ 0 then fe R n else if seq ≠ m ∨ prev ≠ q then 90 else 0 := rfl
  rw [hf]
  clear hf
  rw [show (Bk.mk seq prev tx n R).val p c = .agg #[.int .u64 (seq : Int), .string prev, .int .u64 (tx : Int), .slice p n c] from rfl]
  have hcap := hX.cap
  have hm : maxLen = 9223372036854775807 := rfl
  have b0 : ∀ o, Below w.heap.size w (w.alloc o) := fun o => (Below.refl _ w).alloc (Nat.le_refl _) o
  by_cases h0 : n = 0
  · subst h0
    go_enter Tryd.func25, Tryd.ntmps25
    go_wp2
    go_ret
    exact ⟨by simp, b0 _⟩
  · have h0' : ((n : Int) == 0) = false := by rw [beq_eq_false_iff_ne]; omega
    by_cases h64 : 64 < n
    · have h64' : (64 : Int) < (n : Int) := by omega
      go_enter Tryd.func25, Tryd.ntmps25
      go_wp2
      go_ret
      exact ⟨by first | rfl | (simp; done) | (simp_all; done), b0 _⟩
    · have h64' : ¬ (64 : Int) < (n : Int) := by omega
      rw [if_neg (by omega)]
      have hal := fun W hG hX => all_any n c (by omega) R p W hG hX
      obtain ⟨y, hy⟩ : ∃ y, fe R n = y := ⟨_, rfl⟩
      rw [hy] at hal ⊢
      clear hy
      have hb := beq_dec prev q
      obtain ⟨D, hD⟩ : ∃ D, decide (prev = q) = D := ⟨_, rfl⟩
      rw [hD] at hb
      have hD' : (prev = q) = (D = true) := by rw [← hD]; simp
      go_enter Tryd.func25, Tryd.ntmps25
      go_wp2_with fail
      refine (hal _ (hG.later (b0 _)) (hX.later (b0 _))).mono ?_
      rintro e w1 ⟨rfl, hb1⟩
      have hrow := (hb1.block w.heap.size (by simp)).trans (heap_alloc_new w (.cells #[.int .u64 (seq : Int), .string prev, .int .u64 (tx : Int), .slice p n c] 38))
      have c0 := cell_of_row w1 _ 0 _ _ _ hrow
      have c1 := cell_of_row w1 _ 1 _ _ _ hrow
      have b1 : Below w.heap.size w w1 := (b0 _).trans (hb1.mono (by simp))
      by_cases hy0 : y = 0
      · subst hy0
        by_cases hs : seq = m
        · subst hs
          cases D with
          | true =>
            go_wp2
            go_ret
            exact ⟨by first | rfl | (simp; done) | (simp_all; done), b1⟩
          | false =>
            go_wp2
            go_ret
            exact ⟨by first | rfl | (simp; done) | (simp_all; done), b1⟩
        · have hs' : ((seq : Int) == (m : Int)) = false := by rw [beq_eq_false_iff_ne]; omega
          have hs2 : ((seq : Int) != (m : Int)) = true := by rw [bne_iff_ne]; omega
          go_wp2
          go_ret
          exact ⟨by first | rfl | (simp; done) | (simp_all; done), b1⟩
      · have hy1 : (y != 0) = true := by simpa using hy0
        go_wp2
        go_ret
        exact ⟨by first | rfl | (simp; done) | (simp_all; done), b1⟩
end Go.Proofs.YtaocbkloafhmeaaDoor
