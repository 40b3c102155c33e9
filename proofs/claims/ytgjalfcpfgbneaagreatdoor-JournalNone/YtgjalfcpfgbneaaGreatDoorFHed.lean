/- A body's head and frame, the program's and the document's: the calls return the same, and nothing that was there has changed. -/
import Derived.Test.YtgjalfcpfgbneaaGreatDoorFByt
namespace Go.Proofs.YtgjalfcpfgbneaaGreatDoor.F
open Go.RowKit
attribute [local go_sem] n32_id four_len headL_len

theorem str_add (a b : List UInt8) : (⟨a.toArray⟩ : ByteArray) ++ ⟨b.toArray⟩ = ⟨(a ++ b).toArray⟩ := by
  apply ByteArray.ext; simp
theorem str_app_s (a : List UInt8) (s : ByteArray) : (⟨a.toArray⟩ : ByteArray) ++ s = ⟨(a ++ s.data.toList).toArray⟩ := by
  apply ByteArray.ext; simp
theorem str_eta (s : ByteArray) : (⟨s.data.toList.toArray⟩ : ByteArray) = s := rfl
theorem len_n32 (s : ByteArray) (hs : s.size ≤ 1048576) : (s.size : Int) = n32 (lenB s.data.toList) := by
  unfold n32 lenB
  rw [BitVec.toNat_ofNat, slen]; omega
theorem checkL_any (l : List UInt8) (hl : l.length ≤ 1048576) (w : World) (hG : GL w) :
    Calls Tryz.prog 87 #[.string ⟨l.toArray⟩] w fun e w' => e = .returned (.int .u32 (n32 (checkB l))) ∧ w' = w :=
  check_any ⟨l.toArray⟩ (by simpa [ByteArray.size] using hl) w hG
theorem rcheckL_any (l : List UInt8) (hl : l.length ≤ 1048576) (w : World) :
    Calls Tryz.prog 23 #[.string ⟨l.toArray⟩] w fun e w' => e = .returned (.int .u32 (n32 (checkB l))) ∧ w' = w :=
  rcheck_any ⟨l.toArray⟩ (by simpa [ByteArray.size] using hl) w
theorem four_size (s : ByteArray) (hs : s.size ≤ 1048576) (w : World) :
    Calls Tryz.prog 86 #[.int .u32 (s.size : Int)] w fun e w' => e = .returned (.string ⟨(four (lenB s.data.toList)).toArray⟩) ∧ Below w.heap.size w w' := by
  rw [len_n32 s hs]; exact four_any _ w
set_option maxHeartbeats 1000000 in
theorem head_any (s : ByteArray) (hs : s.size ≤ 1048576) (w : World) (hG : GL w) :
    Calls Tryz.prog 64 #[.string s] w fun e w' => e = .returned (.string ⟨(headL s.data.toList).toArray⟩) ∧ Below w.heap.size w w' := by
  go_enter Tryz.func64, Tryz.ntmps64
  go_wp2_with fail
  refine (four_size s hs _).mono ?_
  rintro e w1 ⟨rfl, hb1⟩
  have hG1 := hG.later rfl hb1
  go_wp2_with fail
  refine (checkL_any _ (by simp [four_len]) _ hG1).mono ?_
  rintro e w' ⟨rfl, rfl⟩
  go_wp2_with fail
  refine (four_any _ _).mono ?_
  rintro e w2 ⟨rfl, hb2⟩
  have hG2 := hG1.later rfl hb2
  go_wp2_with fail
  refine (check_any s hs _ hG2).mono ?_
  rintro e w' ⟨rfl, rfl⟩
  go_wp2_with fail
  refine (four_any _ _).mono ?_
  rintro e w3 ⟨rfl, hb3⟩
  go_wp2
  go_ret
  have h1 := hb1.size
  have h2 := hb2.size
  exact ⟨by simp [headL, str_add], hb1.trans ((hb2.mono h1).trans (hb3.mono (by omega)))⟩
set_option maxHeartbeats 1000000 in
theorem make_any (s : ByteArray) (hs : s.size ≤ 65536) (w : World) (hG : GL w) :
    Calls Tryz.prog 70 #[.string s] w fun e w' => e = .returned (.tuple #[.string ⟨(frameL s.data.toList).toArray⟩, .int .i64 0]) ∧ Below w.heap.size w w' := by
  have h1 : ¬ (65536 : Int) < (s.size : Int) := by omega
  go_enter Tryz.func70, Tryz.ntmps70
  go_wp2_with fail
  refine (head_any s (by omega) _ hG).mono ?_
  rintro e w1 ⟨rfl, hb1⟩
  have hle : 12 + s.size ≤ 9223372036854775807 := by omega
  go_wp2
  refine bodyPost_ret (results_tmp2 Tryz.results70 _ _ _) rfl ⟨?_, hb1⟩
  simp [frameL, str_app_s]
set_option maxHeartbeats 1000000 in
theorem make_long (s : ByteArray) (hs : 65536 < s.size) (w : World) :
    Calls Tryz.prog 70 #[.string s] w fun e w' => e = .returned (.tuple #[.string ⟨#[]⟩, .int .i64 3]) ∧ w' = w := by
  have h1 : (65536 : Int) < (s.size : Int) := by omega
  go_enter Tryz.func70, Tryz.ntmps70
  go_wp2
  exact bodyPost_ret (results_tmp2 Tryz.results70 _ _ _) rfl ⟨rfl, rfl⟩
end Go.Proofs.YtgjalfcpfgbneaaGreatDoor.F
