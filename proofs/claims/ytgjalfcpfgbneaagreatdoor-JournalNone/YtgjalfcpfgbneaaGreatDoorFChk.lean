/- The check of any text, the program's and the document's: both calls return the same number, and nothing that was there has changed; a text is cut at 300 bytes. The program's reads the sixteen numbers that its text lays. -/
import Derived.Test.YtgjalfcpfgbneaaGreatDoorRows
import Derived.Test.YtgjalfcpfgbneaaGreatDoorFMath
import Derived.WalkKit
import Derived.WalkSpells
import Derived.WalkLawsBesides
import Derived.Deep.QuietTactic
import Derived.BigQuiet
import Derived.Deep.RegionWith
namespace Go.Proofs.YtgjalfcpfgbneaaGreatDoor.F
open Go.RowKit
attribute [local go_sem] n32_xor n32_or n32_not n32_shr4 n32_mod16 n32_quo16 ixB_lt nib_eq n32_id

def GL (w : World) : Prop := ∀ i, i < 16 → w.cell? ⟨0, i, none⟩ = some (.int .u32 (n32 (tabF i)))
theorem GL.later {w w2 : World} {B : Nat} (h : GL w) (hB : B = w.heap.size) (hb : Below B w w2) : GL w2 := by
  subst hB
  intro i hi
  have h1 := h i hi
  have h2 := World.block_lt_of_cell? w _ h1
  rw [hb.cell (p := ⟨0, i, none⟩) h2]; exact h1
theorem byte_get (s : ByteArray) (i : Nat) (h : i < s.size) : s.data.toList.getD i 0 = s[i] := by
  rw [List.getD_eq_getElem?_getD, List.getElem?_eq_getElem (by simpa using h)]; rfl
theorem byte_n32 (s : ByteArray) (i : Nat) (h : i < s.size) : ((s[i]).toNat : Int) % (4294967296 : Int) = n32 (wB (s.data.toList.getD i 0)) := by
  unfold wB n32
  rw [byte_get s i h, BitVec.toNat_ofNat]
  have := s[i].toNat_lt
  omega
theorem n32_mod (x : BitVec 32) : n32 x % (16 : Int) = ((x.toNat % 16 : Nat) : Int) := by unfold n32; omega
theorem slen (s : ByteArray) : s.data.toList.length = s.size := rfl

theorem ret_u {a b : Int} (h : a = b) : Ending.returned (Value.int .u32 a) = .returned (.int .u32 b) := by rw [h]
set_option maxHeartbeats 1000000 in
theorem check_any (s : ByteArray) (hs : s.size ≤ 1048576) (w : World) (hG : GL w) :
    Calls Tryz.prog 87 #[.string s] w fun e w' => e = .returned (.int .u32 (n32 (checkB s.data.toList))) ∧ w' = w := by
  have hC : ∀ x : BitVec 32, w.cell? ⟨0, ixB x, none⟩ = some (.int .u32 (n32 (tabF (ixB x)))) := fun x => hG _ (by unfold ixB; omega)
  clear hG
  go_enter Tryz.func87, Tryz.ntmps87
  go_wp2
  go_loopw [3, 7] (fun c i wr => ∃ k : Nat, k ≤ s.size ∧ i = .int .i64 k ∧ c = .int .u32 (n32 (crcB (s.data.toList.take k))) ∧ wr = w) (fun _ i _ => s.size - (intOf i).toNat)
  case atStart => exact ⟨0, Nat.zero_le _, rfl, rfl, rfl⟩
  case round =>
    obtain ⟨k, hk, rfl, rfl, rfl⟩ := hrel
    by_cases hlt : k < s.size
    · have hb := byte_n32 s k hlt
      have hstep := crcB_take s.data.toList k (by simpa using hlt)
      obtain ⟨c0, hc0⟩ : ∃ c, crcB (s.data.toList.take k) = c := ⟨_, rfl⟩
      obtain ⟨b, hb0⟩ : ∃ b, s.data.toList.getD k 0 = b := ⟨_, rfl⟩
      rw [hb0] at hb
      have HS : Hid (crcB (s.data.toList.take (k + 1)) = stepB c0 b) := by rw [hstep, hc0, hb0]; rfl
      rw [hc0]
      clear hstep hc0 hb0
      go_wp2
      go_roundw
      case rel => exact ⟨k + 1, by omega, by go_num, by rw [HS.out]; rfl, trivial⟩
      case measure => simp [intOf]; omega
    · obtain rfl : k = s.size := by omega
      have e : s.data.toList.take s.size = s.data.toList := List.take_of_length_le (by simp)
      rw [e]
      have hlt' : ¬ ((s.size : Nat) : Int) < s.size := by omega
      go_wp2
      go_ret
      exact ⟨rfl, rfl⟩
theorem half_nat (x : BitVec 32) : (n32 x).tmod (2 : Int) = ((x.toNat % 2 : Nat) : Int) := by
  unfold n32
  rw [Int.tmod_eq_emod_of_nonneg (by omega)]; omega
theorem half_quo (x : BitVec 32) : (n32 x).tdiv (2 : Int) = n32 (x >>> 1) := by
  rw [Int.tdiv_eq_ediv_of_nonneg (n32_nn x)]; exact n32_shr x 1
theorem half_pol (x : BitVec 32) : bits BinOp.xor IntKind.u32 (n32 x) 3988292384 = n32 (x ^^^ 3988292384#32) := n32_xor x 3988292384#32
set_option maxHeartbeats 1000000 in
theorem half_any (n : BitVec 32) (w : World) :
    Calls Tryz.prog 47 #[.int .u32 (n32 n)] w fun e w' => e = .returned (.int .u32 (n32 (halfB n 4))) ∧ w' = w := by
  go_enter Tryz.func47, Tryz.ntmps47
  go_wp2
  go_loopw [0, 3] (fun c i wr => ∃ k : Nat, k ≤ 4 ∧ i = .int .i64 k ∧ c = .int .u32 (n32 (halfB n k)) ∧ wr = w) (fun _ i _ => 4 - (intOf i).toNat)
  case atStart => exact ⟨0, Nat.zero_le _, rfl, rfl, rfl⟩
  case round =>
    obtain ⟨k, hk, rfl, rfl, rfl⟩ := hrel
    by_cases hlt : k < 4
    · have HS : Hid (halfB n (k + 1) = bitB (halfB n k)) := rfl
      obtain ⟨x, hx⟩ : ∃ x, halfB n k = x := ⟨_, rfl⟩
      rw [hx] at HS ⊢
      clear hx
      have q1 := half_nat x
      have q2 := half_quo x
      have q3 := half_pol (x >>> 1)
      by_cases hm : x.toNat % 2 = 1
      · rw [hm] at q1
        have hB : Hid (bitB x = (x >>> 1) ^^^ 3988292384#32) := by show bitB x = _; unfold bitB; rw [if_pos hm]
        clear hm
        go_wp2
        go_roundw
        case rel => exact ⟨k + 1, by omega, by go_num, by rw [HS.out, hB.out], trivial⟩
        case measure => simp [intOf]; omega
      · have hm0 : x.toNat % 2 = 0 := by omega
        rw [hm0] at q1
        have hB : Hid (bitB x = x >>> 1) := by show bitB x = _; unfold bitB; rw [if_neg hm]
        clear hm hm0
        go_wp2
        go_roundw
        case rel => exact ⟨k + 1, by omega, by go_num, by rw [HS.out, hB.out, n32_id], trivial⟩
        case measure => simp [intOf]; omega
    · obtain rfl : k = 4 := by omega
      have hlt' : ¬ ((4 : Nat) : Int) < 4 := by omega
      go_wp2
      go_ret
      exact ⟨rfl, rfl⟩
theorem half_ix (x : BitVec 32) (w : World) :
    Calls Tryz.prog 47 #[.int .u32 ((ixB x : Nat) : Int)] w fun e w' => e = .returned (.int .u32 (n32 (tabF (ixB x)))) ∧ w' = w := by
  have hl : ixB x < 16 := by unfold ixB; omega
  have e1 : ((ixB x : Nat) : Int) = n32 (BitVec.ofNat 32 (ixB x)) := by
    unfold n32; rw [BitVec.toNat_ofNat]; omega
  rw [e1, ← half_tab _ hl]
  exact half_any _ w
set_option maxHeartbeats 1000000 in
theorem rcheck_any (s : ByteArray) (hs : s.size ≤ 1048576) (w : World) :
    Calls Tryz.prog 23 #[.string s] w fun e w' => e = .returned (.int .u32 (n32 (checkB s.data.toList))) ∧ w' = w := by
  go_enter Tryz.func23, Tryz.ntmps23
  go_wp2
  go_loopw [3, 4] (fun c i wr => ∃ k : Nat, k ≤ s.size ∧ i = .int .i64 k ∧ c = .int .u32 (n32 (crcB (s.data.toList.take k))) ∧ wr = w) (fun _ i _ => s.size - (intOf i).toNat)
  case atStart => exact ⟨0, Nat.zero_le _, rfl, rfl, rfl⟩
  case round =>
    obtain ⟨k, hk, rfl, rfl, rfl⟩ := hrel
    by_cases hlt : k < s.size
    · have hb := byte_n32 s k hlt
      have hstep := crcB_take s.data.toList k (by simpa using hlt)
      obtain ⟨c0, hc0⟩ : ∃ c, crcB (s.data.toList.take k) = c := ⟨_, rfl⟩
      obtain ⟨b, hb0⟩ : ∃ b, s.data.toList.getD k 0 = b := ⟨_, rfl⟩
      rw [hb0] at hb
      have HS : Hid (crcB (s.data.toList.take (k + 1)) = stepB c0 b) := by rw [hstep, hc0, hb0]; rfl
      rw [hc0]
      clear hstep hc0 hb0
      go_wp2_with fail
      refine (half_ix _ _).mono ?_
      rintro e w' ⟨rfl, rfl⟩
      go_wp2_with fail
      refine (half_ix _ _).mono ?_
      rintro e w' ⟨rfl, rfl⟩
      go_wp2
      go_roundw
      case rel => exact ⟨k + 1, by omega, by go_num, by rw [HS.out]; rfl, trivial⟩
      case measure => simp [intOf]; omega
    · obtain rfl : k = s.size := by omega
      have e : s.data.toList.take s.size = s.data.toList := List.take_of_length_le (by simp)
      rw [e]
      have hlt' : ¬ ((s.size : Nat) : Int) < s.size := by omega
      go_wp2
      go_ret
      exact ⟨ret_u (by rw [n32_sub, n32_id]; rfl), rfl⟩
end Go.Proofs.YtgjalfcpfgbneaaGreatDoor.F
