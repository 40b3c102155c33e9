import Derived.Test.YtaocbkloafhmeaaDoorRows
import Derived.Test.YtaocbkloafhmeaaDoorMath
import Derived.WalkKit
import Derived.WalkSpells
import Derived.WalkLawsBesides
import Derived.Deep.QuietTactic
import Derived.BigQuiet
import Derived.Deep.RegionWith
namespace Go.Proofs.YtaocbkloafhmeaaDoor
open Go.RowKit
attribute [local go_sem] n32_and n32_or n32_xor n32_not

set_option maxHeartbeats 400000 in
theorem choose_any (x y z : BitVec 32) (w : World) :
    Calls Tryd.prog 93 #[.int .u32 (n32 x), .int .u32 (n32 y), .int .u32 (n32 z)] w fun e w' => e = .returned (.int .u32 (n32 (chB x y z))) ∧ w' = w := by
  have hs : IntKind.u32.signed = false := rfl
  go_enter Tryd.func93, Tryd.ntmps93
  go_wp2
  go_ret
  exact ⟨rfl, rfl⟩
set_option maxHeartbeats 400000 in
theorem majority_any (x y z : BitVec 32) (w : World) :
    Calls Tryd.prog 94 #[.int .u32 (n32 x), .int .u32 (n32 y), .int .u32 (n32 z)] w fun e w' => e = .returned (.int .u32 (n32 (majB x y z))) ∧ w' = w := by
  go_enter Tryd.func94, Tryd.ntmps94
  go_wp2
  go_ret
  exact ⟨rfl, rfl⟩
theorem ret_u {a b : Int} (h : a = b) : Ending.returned (.int .u32 a) = .returned (.int .u32 b) := by rw [h]
set_option maxHeartbeats 400000 in
theorem rot2 (x : BitVec 32) (w : World) :
    Calls Tryd.prog 105 #[.int .u32 (n32 x), .int .i64 (-2)] w fun e w' => e = .returned (.int .u32 (n32 (rotr x 2))) ∧ w' = w := by
  have hw : bits BinOp.and IntKind.u64 (IntKind.u64.wrap (-2)) 31 = 30 := by decide
  have h1 : n32 x / (4 : Int) = n32 (x >>> 2) := n32_shr x 2
  have h2 : n32 x * (1073741824 : Int) % (4294967296 : Int) = n32 (x <<< 30) := n32_shl x 30
  go_enter Tryd.func105, Tryd.ntmps105
  go_wp2
  go_ret
  exact ⟨ret_u (congrArg n32 (BitVec.or_comm _ _)), rfl⟩
set_option maxHeartbeats 400000 in
theorem rot6 (x : BitVec 32) (w : World) :
    Calls Tryd.prog 105 #[.int .u32 (n32 x), .int .i64 (-6)] w fun e w' => e = .returned (.int .u32 (n32 (rotr x 6))) ∧ w' = w := by
  have hw : bits BinOp.and IntKind.u64 (IntKind.u64.wrap (-6)) 31 = 26 := by decide
  have h1 : n32 x / (64 : Int) = n32 (x >>> 6) := n32_shr x 6
  have h2 : n32 x * (67108864 : Int) % (4294967296 : Int) = n32 (x <<< 26) := n32_shl x 26
  go_enter Tryd.func105, Tryd.ntmps105
  go_wp2
  go_ret
  exact ⟨ret_u (congrArg n32 (BitVec.or_comm _ _)), rfl⟩
set_option maxHeartbeats 400000 in
theorem rot7 (x : BitVec 32) (w : World) :
    Calls Tryd.prog 105 #[.int .u32 (n32 x), .int .i64 (-7)] w fun e w' => e = .returned (.int .u32 (n32 (rotr x 7))) ∧ w' = w := by
  have hw : bits BinOp.and IntKind.u64 (IntKind.u64.wrap (-7)) 31 = 25 := by decide
  have h1 : n32 x / (128 : Int) = n32 (x >>> 7) := n32_shr x 7
  have h2 : n32 x * (33554432 : Int) % (4294967296 : Int) = n32 (x <<< 25) := n32_shl x 25
  go_enter Tryd.func105, Tryd.ntmps105
  go_wp2
  go_ret
  exact ⟨ret_u (congrArg n32 (BitVec.or_comm _ _)), rfl⟩
set_option maxHeartbeats 400000 in
theorem rot11 (x : BitVec 32) (w : World) :
    Calls Tryd.prog 105 #[.int .u32 (n32 x), .int .i64 (-11)] w fun e w' => e = .returned (.int .u32 (n32 (rotr x 11))) ∧ w' = w := by
  have hw : bits BinOp.and IntKind.u64 (IntKind.u64.wrap (-11)) 31 = 21 := by decide
  have h1 : n32 x / (2048 : Int) = n32 (x >>> 11) := n32_shr x 11
  have h2 : n32 x * (2097152 : Int) % (4294967296 : Int) = n32 (x <<< 21) := n32_shl x 21
  go_enter Tryd.func105, Tryd.ntmps105
  go_wp2
  go_ret
  exact ⟨ret_u (congrArg n32 (BitVec.or_comm _ _)), rfl⟩
set_option maxHeartbeats 400000 in
theorem rot13 (x : BitVec 32) (w : World) :
    Calls Tryd.prog 105 #[.int .u32 (n32 x), .int .i64 (-13)] w fun e w' => e = .returned (.int .u32 (n32 (rotr x 13))) ∧ w' = w := by
  have hw : bits BinOp.and IntKind.u64 (IntKind.u64.wrap (-13)) 31 = 19 := by decide
  have h1 : n32 x / (8192 : Int) = n32 (x >>> 13) := n32_shr x 13
  have h2 : n32 x * (524288 : Int) % (4294967296 : Int) = n32 (x <<< 19) := n32_shl x 19
  go_enter Tryd.func105, Tryd.ntmps105
  go_wp2
  go_ret
  exact ⟨ret_u (congrArg n32 (BitVec.or_comm _ _)), rfl⟩
set_option maxHeartbeats 400000 in
theorem rot17 (x : BitVec 32) (w : World) :
    Calls Tryd.prog 105 #[.int .u32 (n32 x), .int .i64 (-17)] w fun e w' => e = .returned (.int .u32 (n32 (rotr x 17))) ∧ w' = w := by
  have hw : bits BinOp.and IntKind.u64 (IntKind.u64.wrap (-17)) 31 = 15 := by decide
  have h1 : n32 x / (131072 : Int) = n32 (x >>> 17) := n32_shr x 17
  have h2 : n32 x * (32768 : Int) % (4294967296 : Int) = n32 (x <<< 15) := n32_shl x 15
  go_enter Tryd.func105, Tryd.ntmps105
  go_wp2
  go_ret
  exact ⟨ret_u (congrArg n32 (BitVec.or_comm _ _)), rfl⟩
set_option maxHeartbeats 400000 in
theorem rot18 (x : BitVec 32) (w : World) :
    Calls Tryd.prog 105 #[.int .u32 (n32 x), .int .i64 (-18)] w fun e w' => e = .returned (.int .u32 (n32 (rotr x 18))) ∧ w' = w := by
  have hw : bits BinOp.and IntKind.u64 (IntKind.u64.wrap (-18)) 31 = 14 := by decide
  have h1 : n32 x / (262144 : Int) = n32 (x >>> 18) := n32_shr x 18
  have h2 : n32 x * (16384 : Int) % (4294967296 : Int) = n32 (x <<< 14) := n32_shl x 14
  go_enter Tryd.func105, Tryd.ntmps105
  go_wp2
  go_ret
  exact ⟨ret_u (congrArg n32 (BitVec.or_comm _ _)), rfl⟩
set_option maxHeartbeats 400000 in
theorem rot19 (x : BitVec 32) (w : World) :
    Calls Tryd.prog 105 #[.int .u32 (n32 x), .int .i64 (-19)] w fun e w' => e = .returned (.int .u32 (n32 (rotr x 19))) ∧ w' = w := by
  have hw : bits BinOp.and IntKind.u64 (IntKind.u64.wrap (-19)) 31 = 13 := by decide
  have h1 : n32 x / (524288 : Int) = n32 (x >>> 19) := n32_shr x 19
  have h2 : n32 x * (8192 : Int) % (4294967296 : Int) = n32 (x <<< 13) := n32_shl x 13
  go_enter Tryd.func105, Tryd.ntmps105
  go_wp2
  go_ret
  exact ⟨ret_u (congrArg n32 (BitVec.or_comm _ _)), rfl⟩
set_option maxHeartbeats 400000 in
theorem rot22 (x : BitVec 32) (w : World) :
    Calls Tryd.prog 105 #[.int .u32 (n32 x), .int .i64 (-22)] w fun e w' => e = .returned (.int .u32 (n32 (rotr x 22))) ∧ w' = w := by
  have hw : bits BinOp.and IntKind.u64 (IntKind.u64.wrap (-22)) 31 = 10 := by decide
  have h1 : n32 x / (4194304 : Int) = n32 (x >>> 22) := n32_shr x 22
  have h2 : n32 x * (1024 : Int) % (4294967296 : Int) = n32 (x <<< 10) := n32_shl x 10
  go_enter Tryd.func105, Tryd.ntmps105
  go_wp2
  go_ret
  exact ⟨ret_u (congrArg n32 (BitVec.or_comm _ _)), rfl⟩
set_option maxHeartbeats 400000 in
theorem rot25 (x : BitVec 32) (w : World) :
    Calls Tryd.prog 105 #[.int .u32 (n32 x), .int .i64 (-25)] w fun e w' => e = .returned (.int .u32 (n32 (rotr x 25))) ∧ w' = w := by
  have hw : bits BinOp.and IntKind.u64 (IntKind.u64.wrap (-25)) 31 = 7 := by decide
  have h1 : n32 x / (33554432 : Int) = n32 (x >>> 25) := n32_shr x 25
  have h2 : n32 x * (128 : Int) % (4294967296 : Int) = n32 (x <<< 7) := n32_shl x 7
  go_enter Tryd.func105, Tryd.ntmps105
  go_wp2
  go_ret
  exact ⟨ret_u (congrArg n32 (BitVec.or_comm _ _)), rfl⟩
set_option maxHeartbeats 400000 in
theorem turn2 (x : BitVec 32) (w : World) :
    Calls Tryd.prog 96 #[.int .u32 (n32 x), .int .i64 2] w fun e w' => e = .returned (.int .u32 (n32 (rotr x 2))) ∧ w' = w := by
  have h1 : n32 x / (4 : Int) = n32 (x >>> 2) := n32_shr x 2
  have h2 : n32 x * (1073741824 : Int) % (4294967296 : Int) = n32 (x <<< 30) := n32_shl x 30
  go_enter Tryd.func96, Tryd.ntmps96
  go_wp2
  go_ret
  exact ⟨rfl, rfl⟩
set_option maxHeartbeats 400000 in
theorem turn6 (x : BitVec 32) (w : World) :
    Calls Tryd.prog 96 #[.int .u32 (n32 x), .int .i64 6] w fun e w' => e = .returned (.int .u32 (n32 (rotr x 6))) ∧ w' = w := by
  have h1 : n32 x / (64 : Int) = n32 (x >>> 6) := n32_shr x 6
  have h2 : n32 x * (67108864 : Int) % (4294967296 : Int) = n32 (x <<< 26) := n32_shl x 26
  go_enter Tryd.func96, Tryd.ntmps96
  go_wp2
  go_ret
  exact ⟨rfl, rfl⟩
set_option maxHeartbeats 400000 in
theorem turn7 (x : BitVec 32) (w : World) :
    Calls Tryd.prog 96 #[.int .u32 (n32 x), .int .i64 7] w fun e w' => e = .returned (.int .u32 (n32 (rotr x 7))) ∧ w' = w := by
  have h1 : n32 x / (128 : Int) = n32 (x >>> 7) := n32_shr x 7
  have h2 : n32 x * (33554432 : Int) % (4294967296 : Int) = n32 (x <<< 25) := n32_shl x 25
  go_enter Tryd.func96, Tryd.ntmps96
  go_wp2
  go_ret
  exact ⟨rfl, rfl⟩
set_option maxHeartbeats 400000 in
theorem turn11 (x : BitVec 32) (w : World) :
    Calls Tryd.prog 96 #[.int .u32 (n32 x), .int .i64 11] w fun e w' => e = .returned (.int .u32 (n32 (rotr x 11))) ∧ w' = w := by
  have h1 : n32 x / (2048 : Int) = n32 (x >>> 11) := n32_shr x 11
  have h2 : n32 x * (2097152 : Int) % (4294967296 : Int) = n32 (x <<< 21) := n32_shl x 21
  go_enter Tryd.func96, Tryd.ntmps96
  go_wp2
  go_ret
  exact ⟨rfl, rfl⟩
set_option maxHeartbeats 400000 in
theorem turn13 (x : BitVec 32) (w : World) :
    Calls Tryd.prog 96 #[.int .u32 (n32 x), .int .i64 13] w fun e w' => e = .returned (.int .u32 (n32 (rotr x 13))) ∧ w' = w := by
  have h1 : n32 x / (8192 : Int) = n32 (x >>> 13) := n32_shr x 13
  have h2 : n32 x * (524288 : Int) % (4294967296 : Int) = n32 (x <<< 19) := n32_shl x 19
  go_enter Tryd.func96, Tryd.ntmps96
  go_wp2
  go_ret
  exact ⟨rfl, rfl⟩
set_option maxHeartbeats 400000 in
theorem turn17 (x : BitVec 32) (w : World) :
    Calls Tryd.prog 96 #[.int .u32 (n32 x), .int .i64 17] w fun e w' => e = .returned (.int .u32 (n32 (rotr x 17))) ∧ w' = w := by
  have h1 : n32 x / (131072 : Int) = n32 (x >>> 17) := n32_shr x 17
  have h2 : n32 x * (32768 : Int) % (4294967296 : Int) = n32 (x <<< 15) := n32_shl x 15
  go_enter Tryd.func96, Tryd.ntmps96
  go_wp2
  go_ret
  exact ⟨rfl, rfl⟩
set_option maxHeartbeats 400000 in
theorem turn18 (x : BitVec 32) (w : World) :
    Calls Tryd.prog 96 #[.int .u32 (n32 x), .int .i64 18] w fun e w' => e = .returned (.int .u32 (n32 (rotr x 18))) ∧ w' = w := by
  have h1 : n32 x / (262144 : Int) = n32 (x >>> 18) := n32_shr x 18
  have h2 : n32 x * (16384 : Int) % (4294967296 : Int) = n32 (x <<< 14) := n32_shl x 14
  go_enter Tryd.func96, Tryd.ntmps96
  go_wp2
  go_ret
  exact ⟨rfl, rfl⟩
set_option maxHeartbeats 400000 in
theorem turn19 (x : BitVec 32) (w : World) :
    Calls Tryd.prog 96 #[.int .u32 (n32 x), .int .i64 19] w fun e w' => e = .returned (.int .u32 (n32 (rotr x 19))) ∧ w' = w := by
  have h1 : n32 x / (524288 : Int) = n32 (x >>> 19) := n32_shr x 19
  have h2 : n32 x * (8192 : Int) % (4294967296 : Int) = n32 (x <<< 13) := n32_shl x 13
  go_enter Tryd.func96, Tryd.ntmps96
  go_wp2
  go_ret
  exact ⟨rfl, rfl⟩
set_option maxHeartbeats 400000 in
theorem turn22 (x : BitVec 32) (w : World) :
    Calls Tryd.prog 96 #[.int .u32 (n32 x), .int .i64 22] w fun e w' => e = .returned (.int .u32 (n32 (rotr x 22))) ∧ w' = w := by
  have h1 : n32 x / (4194304 : Int) = n32 (x >>> 22) := n32_shr x 22
  have h2 : n32 x * (1024 : Int) % (4294967296 : Int) = n32 (x <<< 10) := n32_shl x 10
  go_enter Tryd.func96, Tryd.ntmps96
  go_wp2
  go_ret
  exact ⟨rfl, rfl⟩
set_option maxHeartbeats 400000 in
theorem turn25 (x : BitVec 32) (w : World) :
    Calls Tryd.prog 96 #[.int .u32 (n32 x), .int .i64 25] w fun e w' => e = .returned (.int .u32 (n32 (rotr x 25))) ∧ w' = w := by
  have h1 : n32 x / (33554432 : Int) = n32 (x >>> 25) := n32_shr x 25
  have h2 : n32 x * (128 : Int) % (4294967296 : Int) = n32 (x <<< 7) := n32_shl x 7
  go_enter Tryd.func96, Tryd.ntmps96
  go_wp2
  go_ret
  exact ⟨rfl, rfl⟩

theorem rot_all (x : BitVec 32) (k : Int) (hk : k = -2 ∨ k = -6 ∨ k = -7 ∨ k = -11 ∨ k = -13 ∨ k = -17 ∨ k = -18 ∨ k = -19 ∨ k = -22 ∨ k = -25) (w : World) :
    Calls Tryd.prog 105 #[.int .u32 (n32 x), .int .i64 k] w fun e w' => e = .returned (.int .u32 (n32 (rotr x (-k).toNat))) ∧ w' = w := by
  rcases hk with rfl | rfl | rfl | rfl | rfl | rfl | rfl | rfl | rfl | rfl
  · exact rot2 x w
  · exact rot6 x w
  · exact rot7 x w
  · exact rot11 x w
  · exact rot13 x w
  · exact rot17 x w
  · exact rot18 x w
  · exact rot19 x w
  · exact rot22 x w
  · exact rot25 x w
theorem turn_all (x : BitVec 32) (k : Int) (hk : k = 2 ∨ k = 6 ∨ k = 7 ∨ k = 11 ∨ k = 13 ∨ k = 17 ∨ k = 18 ∨ k = 19 ∨ k = 22 ∨ k = 25) (w : World) :
    Calls Tryd.prog 96 #[.int .u32 (n32 x), .int .i64 k] w fun e w' => e = .returned (.int .u32 (n32 (rotr x k.toNat))) ∧ w' = w := by
  rcases hk with rfl | rfl | rfl | rfl | rfl | rfl | rfl | rfl | rfl | rfl
  · exact turn2 x w
  · exact turn6 x w
  · exact turn7 x w
  · exact turn11 x w
  · exact turn13 x w
  · exact turn17 x w
  · exact turn18 x w
  · exact turn19 x w
  · exact turn22 x w
  · exact turn25 x w
set_option maxHeartbeats 400000 in
theorem stir_e (x : BitVec 32) (w : World) :
    Calls Tryd.prog 92 #[.int .u32 (n32 x), .int .i64 6, .int .i64 11, .int .i64 25] w fun e w' => e = .returned (.int .u32 (n32 (stirB x 6 11 25))) ∧ w' = w := by
  go_enter Tryd.func92, Tryd.ntmps92
  go_wp2_with fail
  refine (rot6 x w).mono ?_
  rintro e w' ⟨rfl, rfl⟩
  go_wp2_with fail
  refine (rot11 x _).mono ?_
  rintro e w' ⟨rfl, rfl⟩
  go_wp2_with fail
  refine (rot25 x _).mono ?_
  rintro e w' ⟨rfl, rfl⟩
  go_wp2
  go_ret
  exact ⟨rfl, rfl⟩
set_option maxHeartbeats 400000 in
theorem stir_a (x : BitVec 32) (w : World) :
    Calls Tryd.prog 92 #[.int .u32 (n32 x), .int .i64 2, .int .i64 13, .int .i64 22] w fun e w' => e = .returned (.int .u32 (n32 (stirB x 2 13 22))) ∧ w' = w := by
  go_enter Tryd.func92, Tryd.ntmps92
  go_wp2_with fail
  refine (rot2 x w).mono ?_
  rintro e w' ⟨rfl, rfl⟩
  go_wp2_with fail
  refine (rot13 x _).mono ?_
  rintro e w' ⟨rfl, rfl⟩
  go_wp2_with fail
  refine (rot22 x _).mono ?_
  rintro e w' ⟨rfl, rfl⟩
  go_wp2
  go_ret
  exact ⟨rfl, rfl⟩
set_option maxHeartbeats 400000 in
theorem shi_15 (x : BitVec 32) (w : World) :
    Calls Tryd.prog 104 #[.int .u32 (n32 x), .int .i64 7, .int .i64 18, .int .i64 3] w fun e w' => e = .returned (.int .u32 (n32 (shiB x 7 18 3))) ∧ ∃ n, w' = w.drewN n := by
  have h1 : n32 x / (8 : Int) = n32 (x >>> 3) := n32_shr x 3
  go_enter Tryd.func104, Tryd.ntmps104
  go_wp2
  go_quiet ((go_at_call 105; exact Calls.quiet_of_same (rot_all x _ (by decide) _)))
  go_wp2
  go_ret
  exact ⟨rfl, _, rfl⟩
set_option maxHeartbeats 400000 in
theorem shi_2 (x : BitVec 32) (w : World) :
    Calls Tryd.prog 104 #[.int .u32 (n32 x), .int .i64 17, .int .i64 19, .int .i64 10] w fun e w' => e = .returned (.int .u32 (n32 (shiB x 17 19 10))) ∧ ∃ n, w' = w.drewN n := by
  have h1 : n32 x / (1024 : Int) = n32 (x >>> 10) := n32_shr x 10
  go_enter Tryd.func104, Tryd.ntmps104
  go_wp2
  go_quiet ((go_at_call 105; exact Calls.quiet_of_same (rot_all x _ (by decide) _)))
  go_wp2
  go_ret
  exact ⟨rfl, _, rfl⟩

theorem byte_n32 (s : ByteArray) (i : Nat) (h : i < s.size) : ((s[i]).toNat : Int) % (4294967296 : Int) = n32 (byteB s.data.toList i) := by
  have e : s.data.toList.getD i 0 = s[i] := by
    rw [List.getD_eq_getElem?_getD, List.getElem?_eq_getElem (by simpa using h)]; rfl
  unfold byteB n32
  rw [e, BitVec.toNat_ofNat]
  have := s[i].toNat_lt
  omega
set_option maxHeartbeats 400000 in
theorem word_any (s : ByteArray) (hs : s.size = 4) (w : World) :
    Calls Tryd.prog 103 #[.string s] w fun e w' => e = .returned (.int .u32 (n32 (wordB s.data.toList 0))) ∧ ∃ n, w' = w.drewN n := by
  have h0 : 0 < s.size := by omega
  have h1 : 1 < s.size := by omega
  have h2 : 2 < s.size := by omega
  have h3 : 3 < s.size := by omega
  have g1 : (1 : Int) < (s.size : Int) := by omega
  have g2 : (2 : Int) < (s.size : Int) := by omega
  have g3 : (3 : Int) < (s.size : Int) := by omega
  clear hs
  go_enter Tryd.func103, Tryd.ntmps103
  go_wp2
  go_quiet (fail)
  go_wp2
  go_ret
  have s24 : ∀ x, n32 x * (16777216 : Int) % (4294967296 : Int) = n32 (x <<< 24) := fun x => n32_shl x 24
  have s16 : ∀ x, n32 x * (65536 : Int) % (4294967296 : Int) = n32 (x <<< 16) := fun x => n32_shl x 16
  have s8 : ∀ x, n32 x * (256 : Int) % (4294967296 : Int) = n32 (x <<< 8) := fun x => n32_shl x 8
  exact ⟨ret_u (by rw [byte_n32 s 0 h0, byte_n32 s 1 h1, byte_n32 s 2 h2, byte_n32 s 3 h3, s24, s16, s8, n32_or, n32_or, n32_or]; rfl), _, rfl⟩
set_option maxHeartbeats 400000 in
theorem start_any (w : World) :
    Calls Tryd.prog 71 #[] w fun e w' => e = .returned (.agg #[.int .u32 1779033703, .int .u32 3144134277, .int .u32 1013904242, .int .u32 2773480762, .int .u32 1359893119, .int .u32 2600822924, .int .u32 528734635, .int .u32 1541459225]) ∧ Below w.heap.size w w' := by
  go_enter Tryd.func71, Tryd.ntmps71
  go_wp2
  exact bodyPost_ret (v := .agg #[.int .u32 1779033703, .int .u32 3144134277, .int .u32 1013904242, .int .u32 2773480762, .int .u32 1359893119, .int .u32 2600822924, .int .u32 528734635, .int .u32 1541459225]) (by simp [results, Tryd.results71, go_sem]) rfl ⟨rfl, (Below.refl _ _).alloc (Nat.le_refl _) _⟩
set_option maxHeartbeats 400000 in
theorem rstart_any (w : World) :
    Calls Tryd.prog 75 #[] w fun e w' => e = .returned (.agg #[.int .u32 1779033703, .int .u32 3144134277, .int .u32 1013904242, .int .u32 2773480762, .int .u32 1359893119, .int .u32 2600822924, .int .u32 528734635, .int .u32 1541459225]) ∧ Below w.heap.size w w' := by
  go_enter Tryd.func75, Tryd.ntmps75
  go_wp2
  exact bodyPost_ret (v := .agg #[.int .u32 1779033703, .int .u32 3144134277, .int .u32 1013904242, .int .u32 2773480762, .int .u32 1359893119, .int .u32 2600822924, .int .u32 528734635, .int .u32 1541459225]) (by simp [results, Tryd.results75, go_sem]) rfl ⟨rfl, (Below.refl _ _).alloc (Nat.le_refl _) _⟩
end Go.Proofs.YtaocbkloafhmeaaDoor
