/- math/bits.TrailingZeros of numbers from 1 to 66, called: its table lies there (GD). -/
import Derived.Test.YtaocbkloafhmeaaDoorAdd
namespace Go.Proofs.YtaocbkloafhmeaaDoor
open Go.RowKit
def dbT : List Nat := [0, 1, 56, 2, 57, 49, 28, 3, 61, 58, 42, 50, 38, 29, 17, 4, 62, 47, 59, 36, 45, 43, 51, 22, 53, 39, 33, 30, 24, 18, 12, 5, 63, 55, 48, 27, 60, 41, 37, 16, 46, 35, 44, 21, 52, 32, 23, 11, 54, 26, 40, 15, 34, 20, 31, 10, 25, 14, 19, 9, 13, 8, 7, 6]
def GD (w : World) : Prop := ∀ i, i < 64 → w.cell? ⟨2, i, none⟩ = some (.int .u8 ((dbT.getD i 0 : Nat) : Int))
theorem GD.block {w w' : World} (h : GD w) (hb : w'.heap[2]? = w.heap[2]?) : GD w' := fun i hi => (World.cell?_of_block (a := ⟨2, i, none⟩) hb).trans (h i hi)
theorem GD.lt {w : World} (h : GD w) : 2 < w.heap.size := World.block_lt_of_cell? w ⟨2, 0, none⟩ (h 0 (by omega))
theorem GD.later {w w' : World} (h : GD w) (hb : Below w.heap.size w w') : GD w' := h.block (hb.block 2 h.lt)
theorem GD.chg {S : Nat → Prop} {w w' : World} (h : GD w) (hC : Chg S w w') (hS : ∀ j, S j → 3 ≤ j) : GD w' :=
  h.block (hC.block 2 h.lt (fun hs => by have := hS 2 hs; omega))
def tzF : Nat → Nat → Nat
  | 0, _ => 0
  | F + 1, n => if n % 2 = 1 then 0 else 1 + tzF F (n / 2)
def tzN (n : Nat) : Nat := tzF 8 n
def idT (x : Int) : Int := IntKind.u64.wrap (bits BinOp.and IntKind.u64 x (IntKind.u64.wrap (-x)) * 285870213051353865) / 288230376151711744
theorem idT_all : ∀ n : Fin 67, 1 ≤ n.val → 0 ≤ idT (n.val : Int) ∧ idT (n.val : Int) < 64 ∧ dbT.getD (idT (n.val : Int)).toNat 0 = tzN n.val ∧ tzN n.val < 7 := by decide +kernel
theorem tz_pow : ∀ k : Fin 7, tzN (2 ^ k.val) = k.val := by decide +kernel
set_option maxHeartbeats 1000000 in
theorem tz64_any (n : Nat) (h1 : 1 ≤ n) (h2 : n ≤ 66) (w : World) (hD : GD w) :
    Calls Tryd.prog 98 #[.int .u64 (n : Int)] w fun e w' => e = .returned (.int .i64 ((tzN n : Nat) : Int)) ∧ w' = w := by
  obtain ⟨a1, a2, a3, a4⟩ := idT_all ⟨n, by omega⟩ h1
  simp only at a1 a2 a3 a4
  obtain ⟨j, hj⟩ : ∃ j : Nat, idT (n : Int) = (j : Int) := ⟨(idT (n : Int)).toNat, by omega⟩
  rw [hj] at a1 a2 a3
  have hc := hD j (by omega)
  rw [show ((j : Int)).toNat = j from rfl] at a3
  rw [a3] at hc
  unfold idT at hj
  obtain ⟨x, hx⟩ : ∃ x : Int, (n : Int) = x := ⟨_, rfl⟩
  rw [hx] at hj ⊢
  have hx1 : 1 ≤ x := by omega
  have hx2 : x ≤ 66 := by omega
  generalize tzN n = r at hc a3 a4 ⊢
  have hj64 : j < 64 := by omega
  clear hx a3 hD h1 h2
  go_enter Tryd.func98, Tryd.ntmps98
  go_wp2
  go_ret
  exact ⟨rfl, rfl⟩
theorem tz_any (n : Nat) (h1 : 1 ≤ n) (h2 : n ≤ 66) (w : World) (hD : GD w) :
    Calls Tryd.prog 78 #[.int .u64 (n : Int)] w fun e w' => e = .returned (.int .i64 ((tzN n : Nat) : Int)) ∧ w' = w := by
  have H := fun w hD => tz64_any n h1 h2 w hD
  generalize tzN n = r at H ⊢
  go_enter Tryd.func78, Tryd.ntmps78
  go_wp2_with fail
  refine (H _ hD).mono ?_
  rintro e w' ⟨rfl, rfl⟩
  go_wp2
  go_ret
  exact ⟨rfl, rfl⟩
end Go.Proofs.YtaocbkloafhmeaaDoor
