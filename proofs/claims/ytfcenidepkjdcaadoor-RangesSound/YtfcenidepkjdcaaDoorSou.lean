/- Documents with one number: they may be, and what hits a look at one number (plain); a nil set. -/
import Derived.Test.YtfcenidepkjdcaaDoorAwk
namespace Go.Proofs.YtfcenidepkjdcaaDoor
open Go.RowKit Go.Shelf
attribute [local go_sem] Oper.semAt_some
theorem put_most : ∀ (k n : Nat), n < 128 ^ (k + 1) → (V.put n).length ≤ k + 1
  | 0, n, h => by
    rw [V.put_lt (by simpa using h)]
    exact Nat.le_refl _
  | k + 1, n, h => by
    rcases Nat.lt_or_ge n 128 with h1 | h1
    · rw [V.put_lt h1]
      show 1 ≤ _
      omega
    · rw [V.put_ge h1]
      have := put_most k (n / 128) (by rw [Nat.pow_succ] at h; exact Nat.div_lt_of_lt_mul (by rw [Nat.mul_comm]; exact h))
      simp only [List.length_cons]
      omega
set_option maxRecDepth 100000 in
theorem leaf_bytes (n : Int) (hn : -9223372036854775808 ≤ n ∧ n < 9223372036854775808) : (V.bytesT (V.leafT 2 false n ⟨#[]⟩)).length ≤ 11 := by
  have := put_most 9 (V.zig n) (Nat.lt_trans (V.zig_lt hn.1 hn.2) (by decide))
  show (2 :: V.put (V.zig n)).length ≤ 11
  simp only [List.length_cons]
  omega
set_option maxRecDepth 100000 in
theorem leaf_sound (n : Int) (d : Int) (hd : d ≤ 8) : V.soundT (V.leafT 2 false n ⟨#[]⟩) d = 0 := by
  show (if 8 < d then (30 : Int) else _) = 0
  rw [if_neg (by omega)]
  kernel_rfl
set_option maxRecDepth 100000 in
theorem leaf_ok (n : Int) (hn : -9223372036854775808 ≤ n ∧ n < 9223372036854775808) : V.checkT (V.leafT 2 false n ⟨#[]⟩) = 0 := by
  have := leaf_bytes n hn
  unfold V.checkT
  rw [if_pos (leaf_sound n 1 (by omega)), if_neg (by omega)]
set_option maxRecDepth 100000 in
theorem aT_get (n : Int) : getT (aT n) aB = V.leafT 2 false n ⟨#[]⟩ := by kernel_rfl
theorem aT_key (n : Int) : keyB (aT n) aB = oneK n := by
  unfold keyB oneK
  rw [aT_get]
set_option maxRecDepth 100000 in
theorem one_inj {a b : Int} (ha : -9223372036854775808 ≤ a ∧ a < 9223372036854775808) (hb : -9223372036854775808 ≤ b ∧ b < 9223372036854775808) (h : V.keyT (V.leafT 2 false a ⟨#[]⟩) = V.keyT (V.leafT 2 false b ⟨#[]⟩)) : a = b := by
  have h2 : (2 : UInt8) :: V.be8 (V.turnN a) = 2 :: V.be8 (V.turnN b) := h
  have h3 := V.be8_inj (V.turnN_lt ha.2) (V.turnN_lt hb.2) (List.cons.inj h2).2
  unfold V.turnN at h3
  omega
set_option maxRecDepth 100000 in
theorem one_has {a b : Int} (ha : -9223372036854775808 ≤ a ∧ a < 9223372036854775808) (hb : -9223372036854775808 ≤ b ∧ b < 9223372036854775808) : V.hasB (oneK a) (V.nextB (oneK a)) (oneK b) = decide (a = b) := by
  have := V.equal_has (T := V.leafT 2 false a ⟨#[]⟩) (U := V.leafT 2 false b ⟨#[]⟩) (leaf_sound a 1 (by omega)) (leaf_sound b 1 (by omega)) (K := oneK a) (L := oneK b) (E := ⟨#[]⟩) rfl rfl
  rw [show oneK b ++ ⟨#[]⟩ = oneK b from ByteArray.append_empty] at this
  rw [this]
  by_cases h : a = b
  · rw [h]; simp
  · rw [decide_eq_false h, decide_eq_false (fun e => h (one_inj ha hb e))]
set_option maxRecDepth 100000 in
theorem aT_ok (n : Int) (hn : -9223372036854775808 ≤ n ∧ n < 9223372036854775808) : Good (aT n) := by
  refine ⟨?_, aT_small n, aT_slimq n, aT_slim n⟩
  have h1 : V.soundT (aT n) 1 = 0 := by kernel_rfl
  have h2 : (V.bytesT (aT n)).length = (V.bytesT (V.leafT 2 false n ⟨#[]⟩)).length + 4 := by
    have : V.bytesT (aT n) = 6 :: 1 :: 1 :: 97 :: V.bytesT (V.leafT 2 false n ⟨#[]⟩) := by kernel_rfl
    rw [this]
    rfl
  have := leaf_bytes n hn
  unfold V.checkT
  rw [if_pos h1, if_neg (by omega)]
set_option maxRecDepth 100000 in
theorem hit_one {a b c : Int} (tt : ByteArray) (ha : -9223372036854775808 ≤ a ∧ a < 9223372036854775808) (hb : -9223372036854775808 ≤ b ∧ b < 9223372036854775808) (hc : -9223372036854775808 ≤ c ∧ c < 9223372036854775808) :
    hitB tB aB (oneK a) (V.nextB (oneK a)) tt false (aT b) (aT c) true true = ((tB.toList == tt.toList) && (decide (a = b) || decide (a = c))) := by
  unfold hitB seeB
  rw [aT_key, aT_key, one_has ha hb, one_has ha hc, show aB.toList.isEmpty = false by decide +kernel]
  simp
set_option maxRecDepth 100000 in
set_option maxHeartbeats 4000000 in
theorem add_nil (a b c d : ByteArray) (w : World) : Calls Tryd.prog 11 #[.pointer none, .agg #[.string a, .string b, .string c, .string d]] w fun e w' => e = .returned (.bool false) ∧ Below w.heap.size w w' := by
  go_enter Tryd.func11, Tryd.ntmps11
  go_wp2
  go_ret
  exact ⟨rfl, (Below.refl _ _).alloc (Nat.le_refl _) _⟩
set_option maxRecDepth 100000 in
set_option maxHeartbeats 4000000 in
theorem all_nil (w : World) : Calls Tryd.prog 13 #[.pointer none] w fun e w' => e = .returned (.slice none 0 0) ∧ Below w.heap.size w w' := by
  go_enter Tryd.func13, Tryd.ntmps13
  go_wp2
  go_ret
  exact ⟨rfl, Below.refl _ _⟩
set_option maxRecDepth 100000 in
set_option maxHeartbeats 4000000 in
theorem clone_nil (w : World) : Calls Tryd.prog 12 #[.pointer none] w fun e w' => e = .returned (.pointer none) ∧ Below w.heap.size w w' := by
  go_enter Tryd.func12, Tryd.ntmps12
  go_wp2
  go_ret
  exact ⟨rfl, Below.refl _ _⟩
set_option maxRecDepth 100000 in
set_option maxHeartbeats 4000000 in
theorem hit_nil (p : Option Addr) (n m : Nat) (w : World) : Calls Tryd.prog 14 #[.pointer none, .slice p n m] w fun e w' => e = .returned (.bool false) ∧ Below w.heap.size w w' := by
  go_enter Tryd.func14, Tryd.ntmps14
  go_wp2
  go_ret
  exact ⟨rfl, (Below.refl _ _).alloc (Nat.le_refl _) _⟩
end Go.Proofs.YtfcenidepkjdcaaDoor
