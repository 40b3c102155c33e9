/- The keys of two numbers (awake). -/
import Derived.Test.YtaacbcnpagpdnaaDoorKof
import Derived.Test.YtaacbcnpagpdnaaDoorKnext
namespace Go.Proofs.YtaacbcnpagpdnaaDoor
open Go.RowKit
theorem key_m1 : (⟨(2 :: be8 (turnN (-1))).toArray⟩ : ByteArray) = ⟨#[2, 127, 255, 255, 255, 255, 255, 255, 255]⟩ := by decide +kernel
theorem key_0 : (⟨(2 :: be8 (turnN 0)).toArray⟩ : ByteArray) = ⟨#[2, 128, 0, 0, 0, 0, 0, 0, 0]⟩ := by decide +kernel
theorem next_a : nextB ⟨#[97]⟩ = ⟨#[98]⟩ := by decide +kernel
theorem key_less : Op.bytesLess (⟨#[2, 127, 255, 255, 255, 255, 255, 255, 255]⟩ : ByteArray).toList (⟨#[2, 128, 0, 0, 0, 0, 0, 0, 0]⟩ : ByteArray).toList = true := by
  rw [Lib.toList_data, Lib.toList_data]
  decide +kernel
set_option maxRecDepth 20000 in
set_option maxHeartbeats 2000000 in
theorem awake_any (w : World) : Calls Tryd.prog 10 #[] w fun e w' => e = .returned (.bool true) ∧ Below w.heap.size w w' := by
  have hi1 := fun W => vint (-1) W
  have hi0 := fun W => vint 0 W
  have k1 := fun W => kof_int (-1) (by decide) (by decide) W
  have k0 := fun W => kof_int 0 (by decide) (by decide) W
  have nx := fun W => next_any ⟨#[97]⟩ (by decide) W
  rw [key_m1] at k1
  rw [key_0] at k0
  rw [next_a] at nx
  have hV : ∀ n, (leafT 2 false n ⟨#[]⟩).val ⟨none, 0, none, 0⟩ = .agg #[.int .i64 2, .bool false, .int .i64 n, .string ⟨#[]⟩, .slice none 0 0, .slice none 0 0] := fun n => rfl
  rw [hV] at k1 k0
  simp only [hV] at hi1 hi0
  have hless := key_less
  obtain ⟨A, hA⟩ : ∃ A : ByteArray, ⟨#[2, 127, 255, 255, 255, 255, 255, 255, 255]⟩ = A := ⟨_, rfl⟩
  obtain ⟨C, hC⟩ : ∃ C : ByteArray, ⟨#[2, 128, 0, 0, 0, 0, 0, 0, 0]⟩ = C := ⟨_, rfl⟩
  have hsz : C.size = 9 := by rw [← hC]; rfl
  rw [hA] at k1 hless
  rw [hC] at k0 hless
  clear hA hC hV
  go_enter Tryd.func10, Tryd.ntmps10
  go_wp2_with fail
  refine (hi1 _).mono ?_
  rintro e w1 ⟨rfl, hb1⟩
  go_wp2_with fail
  refine (k1 _).mono ?_
  rintro e w2 ⟨rfl, hb2⟩
  go_wp2_with fail
  refine (hi0 _).mono ?_
  rintro e w3 ⟨rfl, hb3⟩
  go_wp2_with fail
  refine (k0 _).mono ?_
  rintro e w4 ⟨rfl, hb4⟩
  go_wp2_with fail
  refine (hi0 _).mono ?_
  rintro e w5 ⟨rfl, hb5⟩
  go_wp2_with fail
  refine (k0 _).mono ?_
  rintro e w6 ⟨rfl, hb6⟩
  go_wp2_with fail
  refine (nx _).mono ?_
  rintro e w7 ⟨rfl, hb7⟩
  go_wp2
  go_ret
  have z1 := hb1.size
  have z2 := hb2.size
  have z3 := hb3.size
  have z4 := hb4.size
  have z5 := hb5.size
  have z6 := hb6.size
  exact ⟨rfl, (((((hb1.trans (hb2.mono (by omega))).trans (hb3.mono (by omega))).trans (hb4.mono (by omega))).trans (hb5.mono (by omega))).trans (hb6.mono (by omega))).trans (hb7.mono (by omega))⟩
end Go.Proofs.YtaacbcnpagpdnaaDoor
