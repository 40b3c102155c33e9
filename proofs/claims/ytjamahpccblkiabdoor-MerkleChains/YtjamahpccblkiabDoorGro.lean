/- The laws' grown: a tree of the first leaves of a list, and the list of their digests. -/
import Derived.Test.YtjamahpccblkiabDoorGrw
namespace Go.Proofs.YtjamahpccblkiabDoor
open Go.RowKit
set_option maxHeartbeats 8000000 in
theorem gro_any (p : Option Addr) (n c : Nat) (g : Nat → ByteArray) (w : World) (hG : GL w) (hD : GD w) (H : Strs w p n c g) (hgs : ∀ i, i < n → (g i).size ≤ maxLen) :
    Calls Tryd.prog 4 #[.slice p n c, .int .i64 20] w fun e w' => ∃ b v, e = .returned (.tuple #[.pointer (some ⟨b, 0, none⟩), v]) ∧ ∃ D, Gr w w' b v D D ∧ D.length ≤ 20 ∧ ∀ x ∈ D, x.size = 32 := by
  have hw : 3 ≤ w.heap.size := hD.lt
  have hcap := H.cap
  have hm : maxLen = 9223372036854775807 := rfl
  obtain ⟨i9, hi, hz0, hz1, hz2⟩ := info_parts info9
  go_enter Tryd.func4, Tryd.ntmps4
  go_wp2_with fail
  refine (new_any _).mono ?_
  rintro e w1 ⟨rfl, rfl⟩
  have hnew := Gr.new hw hG hD rfl
  obtain ⟨b, hb⟩ : ∃ b, w.heap.size = b := ⟨_, rfl⟩
  have HB : Hid (w.heap.size = b) := hb
  rw [hb]
  have hnew2 : Gr w ((w.alloc (.cells #[.slice none 0 0] 48)).alloc (.cells #[] 9)) b (.slice (some ⟨w.heap.size + 1, 0, none⟩) 0 0) [] [] := by subst hb; exact hnew
  clear hnew hb
  go_wp2_with fail
  go_loopw [7, 8] (fun va vi wr => ∃ (i : Nat) (D : List ByteArray), i = D.length ∧ i ≤ n ∧ i ≤ 20 ∧ (∀ x ∈ D, x.size = 32) ∧ vi = .int .i64 (i : Int) ∧ Gr w wr b va D D) (fun _ vi _ => 20 - (intOf vi).toNat)
  case atStart => exact ⟨0, [], rfl, Nat.zero_le _, Nat.zero_le _, fun _ h => (by cases h), rfl, hnew2⟩
  case round =>
    obtain ⟨i, D, rfl, hin, hi24, hDs, rfl, hGr⟩ := hrel
    by_cases hlt : D.length < n ∧ D.length < 20
    · have l1 : (D.length : Int) < (n : Int) := by omega
      have l2 : (D.length : Int) < 20 := by omega
      have l0 : (0 : Int) ≤ (D.length : Int) := by omega
      obtain ⟨pb, po, rfl, hpb, hpc⟩ := H.at' (by omega)
      have c1 := (hGr.bel.cell (p := ⟨pb, po + D.length, none⟩) hpb).trans (hpc D.length hlt.1)
      have hys := hgs D.length hlt.1
      obtain ⟨y0, hy0⟩ : ∃ y, g D.length = y := ⟨_, rfl⟩
      rw [hy0] at c1 hys
      clear hy0 hpc
      by_cases h60 : 60 < y0.size
      · have h60' : (60 : Int) < (y0.size : Int) := by omega
        have hS0 : (y0.extract 0 60).size ≤ 400 := by rw [ByteArray.size_extract]; omega
        go_wp2_with fail
        refine (gadd hGr (y0.extract 0 60) hS0 (by omega)).mono ?_
        rintro e w2 ⟨rfl, hG2⟩
        have hxs := sumS_size (leafT (y0.extract 0 60))
        have hrl := fun w => rleaf_any (y0.extract 0 60) hS0 w
        generalize sumS (leafT (y0.extract 0 60)) = x at hG2 hxs hrl ⊢
        go_wp2_with fail
        refine (hrl _).mono ?_
        rintro e w4 ⟨rfl, hb4⟩
        have hG4 := hG2.later hb4
        have hs4 := hG4.bel.size
        go_wp2_with (at_builtin; refine wpList_append_lies _ (by rfl) (.tmp 35) (.tmp 38) 22 (by rfl) w.heap.size 9 i9 _ 1 16 Tryd.underlying22 hi hz0 hz1 hz2 (by rfl) (by decide) u7 D.length _ (by rfl) (hG4.own.alloc _) ⟨w4.heap.size, 0, none⟩ 1 1 [.string x] (by rfl) (by rfl) (World.news_of_block (heap_alloc_new w4 _)) (by simp [Value.oneCell']) (by decide) (by unfold maxLen; omega) (by omega) (by simp; omega) _ rfl ?_; intro g6 cap6 w6 hown6 hgr6 hat6 hlt6)
        have hG6 := hG4.app hown6 hgr6 hat6
        have hDx : ∀ y ∈ D ++ [x], y.size = 32 := fun y hy => by
          rcases List.mem_append.1 hy with e | e
          · exact hDs y e
          · rw [List.mem_singleton.1 e, hxs]
        have hlen : (D ++ [x]).length = D.length + 1 := by simp
        go_roundw
        case rel => exact ⟨D.length + 1, D ++ [x], hlen.symm, by omega, by omega, hDx, by go_num, hG6⟩
        case measure =>
          show 20 - (intOf (.int .i64 ((D.length : Int) + 1))).toNat < 20 - (intOf (.int .i64 (D.length : Int))).toNat
          simp only [intOf_i64]
          omega
      · have h60' : ¬ (60 : Int) < (y0.size : Int) := by omega
        have hS0 : y0.size ≤ 400 := by omega
        go_wp2_with fail
        refine (gadd hGr y0 hS0 (by omega)).mono ?_
        rintro e w2 ⟨rfl, hG2⟩
        have hxs := sumS_size (leafT y0)
        have hrl := fun w => rleaf_any y0 hS0 w
        generalize sumS (leafT y0) = x at hG2 hxs hrl ⊢
        go_wp2_with fail
        refine (hrl _).mono ?_
        rintro e w4 ⟨rfl, hb4⟩
        have hG4 := hG2.later hb4
        have hs4 := hG4.bel.size
        go_wp2_with (at_builtin; refine wpList_append_lies _ (by rfl) (.tmp 35) (.tmp 38) 22 (by rfl) w.heap.size 9 i9 _ 1 16 Tryd.underlying22 hi hz0 hz1 hz2 (by rfl) (by decide) u7 D.length _ (by rfl) (hG4.own.alloc _) ⟨w4.heap.size, 0, none⟩ 1 1 [.string x] (by rfl) (by rfl) (World.news_of_block (heap_alloc_new w4 _)) (by simp [Value.oneCell']) (by decide) (by unfold maxLen; omega) (by omega) (by simp; omega) _ rfl ?_; intro g6 cap6 w6 hown6 hgr6 hat6 hlt6)
        have hG6 := hG4.app hown6 hgr6 hat6
        have hDx : ∀ y ∈ D ++ [x], y.size = 32 := fun y hy => by
          rcases List.mem_append.1 hy with e | e
          · exact hDs y e
          · rw [List.mem_singleton.1 e, hxs]
        have hlen : (D ++ [x]).length = D.length + 1 := by simp
        go_roundw
        case rel => exact ⟨D.length + 1, D ++ [x], hlen.symm, by omega, by omega, hDx, by go_num, hG6⟩
        case measure =>
          show 20 - (intOf (.int .i64 ((D.length : Int) + 1))).toNat < 20 - (intOf (.int .i64 (D.length : Int))).toNat
          simp only [intOf_i64]
          omega
    · by_cases hx : D.length < n
      · have l1 : (D.length : Int) < (n : Int) := by omega
        have l2 : ¬ (D.length : Int) < 20 := by omega
        go_wp2
        go_ret2
        exact ⟨b, _, rfl, D, hGr, hi24, hDs⟩
      · have l1 : ¬ (D.length : Int) < (n : Int) := by omega
        go_wp2
        go_ret2
        exact ⟨b, _, rfl, D, hGr, hi24, hDs⟩
end Go.Proofs.YtjamahpccblkiabDoor
