/- The law's names: three bytes of a number below 1024; they are unlike. -/
import Derived.Test.YtiplmlalhmldbaaPlb
namespace Go.Proofs.Ytiplmlalhmldbaa
open Go.RowKit Go.Shelf
attribute [local go_sem] Oper.semAt_some
def nmB (x : Nat) : ByteArray := ⟨#[UInt8.ofNat (97 + x / 256), UInt8.ofNat (x / 16 % 16), UInt8.ofNat (x % 16)]⟩
theorem nm_inj {x y : Nat} (hx : x < 1024) (hy : y < 1024) (h : nmB x = nmB y) : x = y := by
  have h1 : (97 + x / 256) % 256 = (97 + y / 256) % 256 := by
    have := congrArg (fun b : ByteArray => (b.data[0]?.getD 0).toNat) h
    simpa [nmB] using this
  have h2 : (x / 16 % 16) % 256 = (y / 16 % 16) % 256 := by
    have := congrArg (fun b : ByteArray => (b.data[1]?.getD 0).toNat) h
    simpa [nmB] using this
  have h3 : (x % 16) % 256 = (y % 16) % 256 := by
    have := congrArg (fun b : ByteArray => (b.data[2]?.getD 0).toNat) h
    simpa [nmB] using this
  omega
theorem and_1023 (n : Int) : bits .and .i64 n 1023 = n % 1024 := by
  have h7 : (BitVec.ofInt 64 1023).toNat = 2 ^ 10 - 1 := by decide
  have key : (BitVec.ofInt 64 n &&& BitVec.ofInt 64 1023).toNat = (n % ((2 ^ 64 : Nat) : Int)).toNat % 2 ^ 10 := by
    rw [BitVec.toNat_and, BitVec.toNat_ofInt, h7, Nat.and_two_pow_sub_one_eq_mod]
  show IntKind.i64.wrap ((BitVec.ofInt 64 n &&& BitVec.ofInt 64 1023).toNat : Nat) = n % 1024
  rw [key, IntKind.wrap_i64]
  omega
theorem and_511 (n : Int) : bits .and .i64 n 511 = n % 512 := by
  have h7 : (BitVec.ofInt 64 511).toNat = 2 ^ 9 - 1 := by decide
  have key : (BitVec.ofInt 64 n &&& BitVec.ofInt 64 511).toNat = (n % ((2 ^ 64 : Nat) : Int)).toNat % 2 ^ 9 := by
    rw [BitVec.toNat_and, BitVec.toNat_ofInt, h7, Nat.and_two_pow_sub_one_eq_mod]
  show IntKind.i64.wrap ((BitVec.ofInt 64 n &&& BitVec.ofInt 64 511).toNat : Nat) = n % 512
  rw [key, IntKind.wrap_i64]
  omega
theorem and_15 (n : Int) : bits .and .i64 n 15 = n % 16 := by
  have h7 : (BitVec.ofInt 64 15).toNat = 2 ^ 4 - 1 := by decide
  have key : (BitVec.ofInt 64 n &&& BitVec.ofInt 64 15).toNat = (n % ((2 ^ 64 : Nat) : Int)).toNat % 2 ^ 4 := by
    rw [BitVec.toNat_and, BitVec.toNat_ofInt, h7, Nat.and_two_pow_sub_one_eq_mod]
  show IntKind.i64.wrap ((BitVec.ofInt 64 n &&& BitVec.ofInt 64 15).toNat : Nat) = n % 16
  rw [key, IntKind.wrap_i64]
  omega
theorem w64 {n : Int} (h0 : 0 ≤ n) (h1 : n < 100000) : wrap64 n = n := by unfold wrap64; omega
/- The number of the name i, by an odd step. -/
def nmX (D : Int) (i : Nat) : Nat := (((i : Int) * D) % 1024).toNat
theorem nmX_lt (D : Int) (i : Nat) : nmX D i < 1024 := by unfold nmX; omega
theorem nmX_inj {D : Int} (hD : D % 2 = 1) {i j : Nat} (hi : i < 1024) (hj : j < 1024) (h : nmX D i = nmX D j) : i = j := by
  have h0 : ((i : Int) * D) % 1024 = ((j : Int) * D) % 1024 := by unfold nmX at h; omega
  have h1 : ((i : Int) * D - (j : Int) * D) % 1024 = 0 := by omega
  rw [← Int.sub_mul] at h1
  have h2 : (1024 : Int) ∣ ((i : Int) - j) * D := Int.dvd_of_emod_eq_zero h1
  have h2n : 1024 ∣ ((i : Int) - j).natAbs * D.natAbs := by
    rw [← Int.natAbs_mul]
    exact Int.natAbs_dvd_natAbs.2 h2
  have hco : Nat.Coprime 1024 D.natAbs := by
    have hd : D.natAbs % 2 = 1 := by omega
    have c2 : Nat.Coprime 2 D.natAbs := by
      unfold Nat.Coprime
      rw [Nat.gcd_rec, hd]
      rfl
    exact Nat.Coprime.pow_left 10 c2
  have h3 : 1024 ∣ ((i : Int) - j).natAbs := hco.dvd_of_dvd_mul_right h2n
  obtain ⟨c, hc⟩ := h3
  omega
set_option maxRecDepth 100000 in
set_option maxHeartbeats 4000000 in
theorem name_any (D : Int) (i : Nat) (_hi : i < 1024) (bd : Nat) (w : World) (hd : w.cell? ⟨bd, 0, none⟩ = some (.int .i64 D)) :
    Calls Try.prog 20 #[.int .i64 (i : Int), .pointer (some ⟨bd, 0, none⟩)] w fun e w' => e = .returned (.string (nmB (nmX D i))) ∧ Below w.heap.size w w' := by
  have hx := nmX_lt D i
  obtain ⟨M, hM⟩ : ∃ M, wrap64 ((i : Int) * D) = M := ⟨_, rfl⟩
  have hb : bits .and .i64 M 1023 = (nmX D i : Int) := by
    rw [and_1023, ← hM]
    unfold nmX wrap64
    omega
  rw [← hM] at hb
  clear hM
  generalize nmX D i = x at hx hb ⊢
  obtain ⟨B0, hB0⟩ : ∃ B0, wrap64 (97 + wrap64 ((bits BinOp.and IntKind.i64 (wrap64 ((i : Int) * D)) 1023).tdiv 256)) % 256 = B0 := ⟨_, rfl⟩
  obtain ⟨B1, hB1⟩ : ∃ B1, bits BinOp.and IntKind.i64 (wrap64 ((bits BinOp.and IntKind.i64 (wrap64 ((i : Int) * D)) 1023).tdiv 16)) 15 % 256 = B1 := ⟨_, rfl⟩
  obtain ⟨B2, hB2⟩ : ∃ B2, bits BinOp.and IntKind.i64 (bits BinOp.and IntKind.i64 (wrap64 ((i : Int) * D)) 1023) 15 % 256 = B2 := ⟨_, rfl⟩
  have d0 : (x : Int).tdiv 256 = ((x / 256 : Nat) : Int) := by rw [Int.tdiv_eq_ediv_of_nonneg (by omega)]; omega
  have d1 : (x : Int).tdiv 16 = ((x / 16 : Nat) : Int) := by rw [Int.tdiv_eq_ediv_of_nonneg (by omega)]; omega
  have e0 : B0 = ((UInt8.ofNat (97 + x / 256)).toNat : Int) := by
    rw [← hB0, hb, d0, w64 (n := ((x / 256 : Nat) : Int)) (by omega) (by omega), w64 (by omega) (by omega), UInt8.toNat_ofNat']
    omega
  have e1 : B1 = ((UInt8.ofNat (x / 16 % 16)).toNat : Int) := by
    rw [← hB1, hb, d1, w64 (by omega) (by omega), and_15, UInt8.toNat_ofNat']
    omega
  have e2 : B2 = ((UInt8.ofNat (x % 16)).toNat : Int) := by
    rw [← hB2, hb, and_15, UInt8.toNat_ofNat']
    omega
  clear d0 d1
  obtain ⟨W, hW⟩ : ∃ W, w.alloc (.cells #[.int .u8 B0, .int .u8 B1, .int .u8 B2] 5) = W := ⟨_, rfl⟩
  have rW : W.heap[w.heap.size]? = some (.cells #[.int .u8 B0, .int .u8 B1, .int .u8 B2] 5 (0, 0)) := by rw [← hW]; exact heap_alloc_new _ _
  have hbW : Below w.heap.size w W := by rw [← hW]; exact (Below.refl _ w).alloc (Nat.le_refl _) _
  have hcv : (convert 47 9 (.slice (some ⟨w.heap.size, 0, none⟩) 3 3)).run Try.prog W = .ok (.string (nmB x)) W :=
    run_convert_bytes_back (P := Try.prog) W 47 9 5 ⟨w.heap.size, 0, none⟩ 3 [UInt8.ofNat (97 + x / 256), UInt8.ofNat (x / 16 % 16), UInt8.ofNat (x % 16)] Try.underlying47 Try.underlying5 Try.underlying9 (fun j hj => by
      have hc := fun k => cell_of_row W w.heap.size k _ _ _ rW
      obtain rfl | rfl | rfl : j = 0 ∨ j = 1 ∨ j = 2 := by
        have : j < 3 := by simpa using hj
        omega
      · rw [addr_add]; rw [hc]; simp [e0]
      · rw [addr_add]; rw [hc]; simp [e1]
      · rw [addr_add]; rw [hc]; simp [e2])
  have HE : Hid (B0 = ((UInt8.ofNat (97 + x / 256)).toNat : Int) ∧ B1 = ((UInt8.ofNat (x / 16 % 16)).toNat : Int) ∧ B2 = ((UInt8.ofNat (x % 16)).toNat : Int)) := ⟨e0, e1, e2⟩
  clear e0 e1 e2 hb rW
  go_enter Try.func20, Try.ntmps20
  go_wp2
  go_ret
  exact ⟨rfl, hbW⟩
end Go.Proofs.Ytiplmlalhmldbaa
