/- FrameMost, called: of any number the call returns true, and nothing that was there has changed. -/
import Derived.Test.YthhjaploldhdaaaDoorAwk
import Derived.OwnWalk
namespace Go.Proofs.YthhjaploldhdaaaDoor
open Go Go.RowKit
theorem and3 (a : Int) : ∃ c : Nat, c ≤ 3 ∧ bits BinOp.and IntKind.i64 a 3 = (c : Int) := by
  refine ⟨(BitVec.ofInt 64 a &&& BitVec.ofInt 64 3).toNat, ?_, ?_⟩
  · rw [BitVec.toNat_and]
    exact Nat.and_le_right
  · show IntKind.i64.wrap ((BitVec.ofInt 64 a &&& BitVec.ofInt 64 3).toNat : Int) = _
    have : (BitVec.ofInt 64 a &&& BitVec.ofInt 64 3).toNat ≤ 3 := by
      rw [BitVec.toNat_and]
      exact Nat.and_le_right
    rw [IntKind.wrap_i64]; omega
theorem info5 : (Tryd.prog.info? 5).map (fun i => (i.zero, i.size, i.bytes)) = some (some (.int .u8 0), 1, 1) := by kernel_rfl
theorem conv_zero {W : World} {base k g : Nat} (h : W.ownsRow base 5 1 (.slice (some ⟨g, 0, none⟩) k k) k (madeCells (Value.int .u8 0).cells (k * 1)).toList) (hk : 0 < k) :
    (convert 32 9 (.slice (some ⟨g, 0, none⟩) k k)).run Tryd.prog W = .ok (.string ⟨(List.replicate k (0 : UInt8)).toArray⟩) W := by
  obtain ⟨g', cap, e, _, _, _, hc⟩ := ownsRow_cell h hk
  have e2 : g' = g := by injection e with e1; injection e1 with e3; injection e3 with e4; exact e4.symm
  subst e2
  have hr : (madeCells (Value.int .u8 0).cells (k * 1)).toList = List.replicate k (.int .u8 0) := by
    rw [Nat.mul_one]; exact toList_madeCells_one _ _
  rw [hr] at hc
  have h2 := run_convert_bytes_back (P := Tryd.prog) W 32 9 5 ⟨g', 0, none⟩ k (List.replicate k (0 : UInt8)) Tryd.underlying32 Tryd.underlying5 Tryd.underlying9 (fun j hj => by
    have e : (⟨g', 0, none⟩ : Addr).add j = ⟨g', j, none⟩ := by unfold Addr.add; split <;> simp_all
    have hj' : j < k := by simpa using hj
    rw [e]
    refine hc j _ ?_
    simp [hj'])
  rw [List.length_replicate] at h2
  exact h2
set_option maxHeartbeats 2000000 in
theorem most_walk (a : Int) (w : World) (hG : GL w) :
    Calls Tryd.prog 6 #[.int .i64 a] w fun e w' => e = .returned (.bool true) ∧ Below w.heap.size w w' := by
  obtain ⟨c, hc3, hc⟩ := and3 a
  obtain ⟨k, hk⟩ : ∃ k : Nat, 65534 + c = k := ⟨_, rfl⟩
  have hkc : (65534 : Int) + (c : Int) = (k : Int) := by omega
  have hk1 : 65534 ≤ k := by omega
  have hk2 : k ≤ 65537 := by omega
  clear hk hc3
  obtain ⟨i0, hi, hz0, hz1, hz2⟩ := info_parts info5
  have hml : k ≤ maxLen := Nat.le_trans hk2 (by decide)
  have hby : i0.bytes * k ≤ 281474976710656 := by rw [hz2]; omega
  go_enter Tryd.func6, Tryd.ntmps6
  go_wp2_with (at_make; refine wpList_make_full _ rfl _ _ 32 rfl w.heap.size 5 i0 (.int .u8 0) 1 Tryd.underlying32 hi hz0 hz1 _ _ _ _ k rfl rfl rfl rfl hby hml (Nat.le_refl _) ?_; intro w1 hown hgrow; have hcv := conv_zero hown (by omega))
  obtain ⟨S, hS⟩ : ∃ S : ByteArray, (⟨Array.replicate k 0⟩ : ByteArray) = S := ⟨_, rfl⟩
  have hSs : S.size = k := by rw [← hS]; simp [ByteArray.size]
  rw [hS]
  clear hS
  have hb1 : Below w.heap.size w w1 := (Below.refl _ w).grown hgrow (Nat.le_refl _) (fun k h => by cases h)
  have hG1 := hG.later rfl hb1
  clear hown hgrow
  by_cases hlong : 65536 < k
  · have g1 : (65536 : Int) < (k : Int) := by omega
    refine (make_long S (by omega) w1).mono ?_
    rintro e w' ⟨rfl, rfl⟩
    go_wp2_with fail
    refine (awake_any _ hG1).mono ?_
    rintro e w2 ⟨rfl, hb2⟩
    go_wp2
    go_ret
    exact ⟨rfl, hb1.trans (hb2.mono hb1.size)⟩
  · have g1 : ¬ (65536 : Int) < (k : Int) := by omega
    refine (make_any S (by omega) w1 hG1).mono ?_
    rintro e w2 ⟨rfl, hb2⟩
    have hG2 := hG1.later rfl hb2
    obtain ⟨f, hf⟩ : ∃ f : ByteArray, (⟨(frameL S.data.toList).toArray⟩ : ByteArray) = f := ⟨_, rfl⟩
    have hfs : f.size = k + 12 := by
      rw [← hf]
      show (frameL S.data.toList).toArray.size = _
      rw [List.size_toArray, frameL_len, slen, hSs]; omega
    have hfd : f.data.toList = frameL S.data.toList := by rw [← hf]
    have HS := scan_any f (by omega) w2 hG2
    rw [hfd, scan_one S.data.toList (by rw [slen]; omega)] at HS
    rw [hf]
    clear hf hfd
    go_wp2_with fail
    refine HS.mono ?_
    rintro e w3 ⟨v, rfl, hrow, hb3⟩
    obtain ⟨g, cap, rfl, hgb, hcap, hmax, hcell⟩ := ownsRow_cell hrow (Nat.zero_lt_succ _)
    have c1 := hcell 1 _ rfl
    have c2 := hcell 2 _ rfl
    have hG3 := hG2.later rfl hb3
    have hl : lastOf [(⟨12, S.data.toList, true⟩ : Fr)] = k + 12 := by
      show 12 + S.data.toList.length = _
      rw [slen, hSs]; omega
    rw [hl]
    clear HS hrow hcell hl
    have hc1 : 0 < cap := hcap
    go_wp2_with fail
    refine (awake_any _ hG3).mono ?_
    rintro e w4 ⟨rfl, hb4⟩
    have hgl := World.block_lt_of_cell? _ _ c1
    have d1 := (hb4.cell (p := ⟨g, 1, none⟩) hgl).trans c1
    have d2 := (hb4.cell (p := ⟨g, 2, none⟩) hgl).trans c2
    clear c1 c2
    go_wp2
    go_ret
    have h1 := hb1.size
    have h2 := hb2.size
    have h3 := hb3.size
    exact ⟨rfl, hb1.trans ((hb2.mono h1).trans ((hb3.mono (by omega)).trans (hb4.mono (by omega))))⟩
end Go.Proofs.YthhjaploldhdaaaDoor
