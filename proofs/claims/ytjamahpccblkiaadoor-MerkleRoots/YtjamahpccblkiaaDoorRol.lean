/- The law MerkleRoots as a walk: of any list of strings and any number, with the tables laid, the call returns true and nothing that was there has changed. -/
import Derived.Test.YtjamahpccblkiaaDoorGrw
namespace Go.Proofs.YtjamahpccblkiaaDoor
open Go.RowKit
set_option maxHeartbeats 8000000 in
theorem roots_walk (p : Option Addr) (n c : Nat) (g : Nat → ByteArray) (m : Int) (w : World) (hG : GL w) (hD : GD w) (H : Strs w p n c g) (hgs : ∀ i, i < n → (g i).size ≤ maxLen) :
    Calls Tryd.prog 3 #[.slice p n c, .int .i64 m] w fun e w' => e = .returned (.bool true) ∧ Below w.heap.size w w' := by
  have hw : 3 ≤ w.heap.size := hD.lt
  have hcap := H.cap
  have hm : maxLen = 9223372036854775807 := rfl
  obtain ⟨i9, hi, hz0, hz1, hz2⟩ := info_parts info9
  go_enter Tryd.func3, Tryd.ntmps3
  go_wp2_with fail
  refine (new_any _).mono ?_
  rintro e w1 ⟨rfl, rfl⟩
  have hnew := Gr.new hw hG hD rfl
  obtain ⟨b, hb⟩ : ∃ b, w.heap.size = b := ⟨_, rfl⟩
  have HB : Hid (w.heap.size = b) := hb
  rw [hb]
  have hnew2 : Gr w ((w.alloc (.cells #[.slice none 0 0] 50)).alloc (.cells #[] 9)) b (.slice (some ⟨w.heap.size + 1, 0, none⟩) 0 0) [] [] := by subst hb; exact hnew
  clear hnew hb
  go_wp2_with fail
  go_loopw [6, 7] (fun va vi wr => ∃ (i : Nat) (D : List ByteArray), i = D.length ∧ i ≤ n ∧ i ≤ 24 ∧ (∀ x ∈ D, x.size ≤ 400) ∧ vi = .int .i64 (i : Int) ∧ Gr w wr b va D D) (fun _ vi _ => 24 - (intOf vi).toNat)
  case atStart => exact ⟨0, [], rfl, Nat.zero_le _, Nat.zero_le _, fun _ h => (by cases h), rfl, hnew2⟩
  case round =>
    obtain ⟨i, D, rfl, hin, hi24, hDs, rfl, hGr⟩ := hrel
    by_cases hlt : D.length < n ∧ D.length < 24
    · have l1 : (D.length : Int) < (n : Int) := by omega
      have l2 : (D.length : Int) < 24 := by omega
      have l0 : (0 : Int) ≤ (D.length : Int) := by omega
      obtain ⟨pb, po, rfl, hpb, hpc⟩ := H.at' (by omega)
      have c1 := (hGr.bel.cell (p := ⟨pb, po + D.length, none⟩) hpb).trans (hpc D.length hlt.1)
      have hys := hgs D.length hlt.1
      obtain ⟨y0, hy0⟩ : ∃ y, g D.length = y := ⟨_, rfl⟩
      rw [hy0] at c1 hys
      clear hy0 hpc
      by_cases h60 : 60 < y0.size
      · have h60' : (60 : Int) < (y0.size : Int) := by omega
        have hS0 : (y0.extract 0 60).size ≤ 400 := by rw [ByteArray.size_extract]; omega
        go_wp2_with fail
        refine (gadd hGr (y0.extract 0 60) hS0 (by omega)).mono ?_
        rintro e w2 ⟨rfl, hG2⟩
        have hxs := sumS_size (leafT (y0.extract 0 60))
        have hrl := fun w => rleaf_any (y0.extract 0 60) hS0 w
        generalize sumS (leafT (y0.extract 0 60)) = x at hG2 hxs hrl ⊢
        go_wp2_with fail
        refine (hrl _).mono ?_
        rintro e w3 ⟨rfl, hb3⟩
        have hG3 := hG2.later hb3
        go_wp2_with fail
        refine (hrl _).mono ?_
        rintro e w4 ⟨rfl, hb4⟩
        have hG4 := hG3.later hb4
        have hs4 := hG4.bel.size
        go_wp2_with (at_builtin; refine wpList_append_lies _ (by rfl) (.tmp 38) (.tmp 41) 22 (by rfl) w.heap.size 9 i9 _ 1 16 Tryd.underlying22 hi hz0 hz1 hz2 (by rfl) (by decide) u6 D.length _ (by rfl) (hG4.own.alloc _) ⟨w4.heap.size, 0, none⟩ 1 1 [.string x] (by rfl) (by rfl) (World.news_of_block (heap_alloc_new w4 _)) (by simp [Value.oneCell']) (by decide) (by unfold maxLen; omega) (by omega) (by simp; omega) _ rfl ?_; intro g6 cap6 w6 hown6 hgr6 hat6 hlt6)
        have hG6 := hG4.app hown6 hgr6 hat6
        have hDx : ∀ y ∈ D ++ [x], y.size ≤ 400 := fun y hy => by
          rcases List.mem_append.1 hy with e | e
          · exact hDs y e
          · rw [List.mem_singleton.1 e, hxs]; omega
        have hlen : (D ++ [x]).length = D.length + 1 := by simp
        refine (glen hG6 (D.length + 1) hlen (by omega)).mono ?_
        rintro e w7 ⟨rfl, rfl⟩
        obtain ⟨q6, cq6, hv6, hc6, hS6⟩ := gall hG6
        rw [hlen] at hv6 hc6 hS6
        have hgr := groot hG6 (by omega)
        rw [hlen] at hgr
        have hrr := fun w hs => rroot_lf (w := w) hDx (q := q6) (n := D.length + 1) (cq := cq6) (by omega) hs
        rw [hv6]
        rw [hv6] at hG6
        generalize rootR (lf (D ++ [x])) 0 (D.length + 1) = y at hgr hrr
        clear hown6 hgr6 hat6 hlt6 hG2 hG3 hG4 hGr
        go_wp2_with fail
        refine hgr.mono ?_
        rintro e w8 ⟨rfl, hb8⟩
        go_wp2_with fail
        refine (hrr _ (hS6.later hb8)).mono ?_
        rintro e w9 ⟨rfl, hb9⟩
        have hG9 := (hG6.later hb8).later hb9
        go_wp2
        go_roundw
        case rel => exact ⟨D.length + 1, D ++ [x], hlen.symm, by omega, by omega, hDx, by go_num, hG9⟩
        case measure =>
          show 24 - (intOf (.int .i64 ((D.length : Int) + 1))).toNat < 24 - (intOf (.int .i64 (D.length : Int))).toNat
          simp only [intOf_i64]
          omega
      · have h60' : ¬ (60 : Int) < (y0.size : Int) := by omega
        have hS0 : y0.size ≤ 400 := by omega
        go_wp2_with fail
        refine (gadd hGr y0 hS0 (by omega)).mono ?_
        rintro e w2 ⟨rfl, hG2⟩
        have hxs := sumS_size (leafT y0)
        have hrl := fun w => rleaf_any y0 hS0 w
        generalize sumS (leafT y0) = x at hG2 hxs hrl ⊢
        go_wp2_with fail
        refine (hrl _).mono ?_
        rintro e w3 ⟨rfl, hb3⟩
        have hG3 := hG2.later hb3
        go_wp2_with fail
        refine (hrl _).mono ?_
        rintro e w4 ⟨rfl, hb4⟩
        have hG4 := hG3.later hb4
        have hs4 := hG4.bel.size
        go_wp2_with (at_builtin; refine wpList_append_lies _ (by rfl) (.tmp 38) (.tmp 41) 22 (by rfl) w.heap.size 9 i9 _ 1 16 Tryd.underlying22 hi hz0 hz1 hz2 (by rfl) (by decide) u6 D.length _ (by rfl) (hG4.own.alloc _) ⟨w4.heap.size, 0, none⟩ 1 1 [.string x] (by rfl) (by rfl) (World.news_of_block (heap_alloc_new w4 _)) (by simp [Value.oneCell']) (by decide) (by unfold maxLen; omega) (by omega) (by simp; omega) _ rfl ?_; intro g6 cap6 w6 hown6 hgr6 hat6 hlt6)
        have hG6 := hG4.app hown6 hgr6 hat6
        have hDx : ∀ y ∈ D ++ [x], y.size ≤ 400 := fun y hy => by
          rcases List.mem_append.1 hy with e | e
          · exact hDs y e
          · rw [List.mem_singleton.1 e, hxs]; omega
        have hlen : (D ++ [x]).length = D.length + 1 := by simp
        refine (glen hG6 (D.length + 1) hlen (by omega)).mono ?_
        rintro e w7 ⟨rfl, rfl⟩
        obtain ⟨q6, cq6, hv6, hc6, hS6⟩ := gall hG6
        rw [hlen] at hv6 hc6 hS6
        have hgr := groot hG6 (by omega)
        rw [hlen] at hgr
        have hrr := fun w hs => rroot_lf (w := w) hDx (q := q6) (n := D.length + 1) (cq := cq6) (by omega) hs
        rw [hv6]
        rw [hv6] at hG6
        generalize rootR (lf (D ++ [x])) 0 (D.length + 1) = y at hgr hrr
        clear hown6 hgr6 hat6 hlt6 hG2 hG3 hG4 hGr
        go_wp2_with fail
        refine hgr.mono ?_
        rintro e w8 ⟨rfl, hb8⟩
        go_wp2_with fail
        refine (hrr _ (hS6.later hb8)).mono ?_
        rintro e w9 ⟨rfl, hb9⟩
        have hG9 := (hG6.later hb8).later hb9
        go_wp2
        go_roundw
        case rel => exact ⟨D.length + 1, D ++ [x], hlen.symm, by omega, by omega, hDx, by go_num, hG9⟩
        case measure =>
          show 24 - (intOf (.int .i64 ((D.length : Int) + 1))).toNat < 24 - (intOf (.int .i64 (D.length : Int))).toNat
          simp only [intOf_i64]
          omega
    · obtain ⟨q, cq, rfl, hcq, hS⟩ := gall hGr
      by_cases hx : D.length < n
      · have l1 : (D.length : Int) < (n : Int) := by omega
        have l2 : ¬ (D.length : Int) < 24 := by omega
        by_cases m0 : m < 0
        · have hRb := grootAt_bad hGr (by omega) m (Or.inl m0)
          go_wp2_with fail
          refine hRb.mono ?_
          rintro e w2 ⟨rfl, rfl⟩
          go_wp2_with fail
          refine (awake_any _ hGr.gl hGr.gd).mono ?_
          rintro e w3 ⟨rfl, hb3⟩
          go_wp2
          go_ret
          exact ⟨rfl, hGr.bel.trans (hb3.mono hGr.bel.size)⟩
        · by_cases m1 : (D.length : Int) < m
          · have hRb := grootAt_bad hGr (by omega) m (Or.inr m1)
            go_wp2_with fail
            refine hRb.mono ?_
            rintro e w2 ⟨rfl, rfl⟩
            go_wp2_with fail
            refine (awake_any _ hGr.gl hGr.gd).mono ?_
            rintro e w3 ⟨rfl, hb3⟩
            go_wp2
            go_ret
            exact ⟨rfl, hGr.bel.trans (hb3.mono hGr.bel.size)⟩
          · have hRg := grootAt hGr (by omega) m (by omega) (by omega)
            have hrr := fun w hs => rroot_lf (w := w) hDs (q := q) (n := m.toNat) (cq := cq) (by omega) hs
            have hSq := hS.less m.toNat (by omega)
            generalize rootR (lf D) 0 m.toNat = y at hRg hrr
            have mA : decide (m < 0) = false := decide_eq_false m0
            have mB : decide ((D.length : Int) < m) = false := decide_eq_false m1
            have mC : m ≤ (cq : Int) := by omega
            have m2 : 0 ≤ m := by omega
            go_wp2_with fail
            refine hRg.mono ?_
            rintro e w2 ⟨rfl, hb2⟩
            go_wp2_with fail
            refine (awake_any _ (hGr.gl.later hb2) (hGr.gd.later hb2)).mono ?_
            rintro e w3 ⟨rfl, hb3⟩
            go_wp2_with fail
            refine (hrr _ ((hSq.later hb2).later hb3)).mono ?_
            rintro e w4 ⟨rfl, hb4⟩
            go_wp2
            go_ret
            exact ⟨rfl, hGr.bel.trans ((below2 (below2 hb2 hb3) hb4).mono hGr.bel.size)⟩
      · have l1 : ¬ (D.length : Int) < (n : Int) := by omega
        by_cases m0 : m < 0
        · have hRb := grootAt_bad hGr (by omega) m (Or.inl m0)
          go_wp2_with fail
          refine hRb.mono ?_
          rintro e w2 ⟨rfl, rfl⟩
          go_wp2_with fail
          refine (awake_any _ hGr.gl hGr.gd).mono ?_
          rintro e w3 ⟨rfl, hb3⟩
          go_wp2
          go_ret
          exact ⟨rfl, hGr.bel.trans (hb3.mono hGr.bel.size)⟩
        · by_cases m1 : (D.length : Int) < m
          · have hRb := grootAt_bad hGr (by omega) m (Or.inr m1)
            go_wp2_with fail
            refine hRb.mono ?_
            rintro e w2 ⟨rfl, rfl⟩
            go_wp2_with fail
            refine (awake_any _ hGr.gl hGr.gd).mono ?_
            rintro e w3 ⟨rfl, hb3⟩
            go_wp2
            go_ret
            exact ⟨rfl, hGr.bel.trans (hb3.mono hGr.bel.size)⟩
          · have hRg := grootAt hGr (by omega) m (by omega) (by omega)
            have hrr := fun w hs => rroot_lf (w := w) hDs (q := q) (n := m.toNat) (cq := cq) (by omega) hs
            have hSq := hS.less m.toNat (by omega)
            generalize rootR (lf D) 0 m.toNat = y at hRg hrr
            have mA : decide (m < 0) = false := decide_eq_false m0
            have mB : decide ((D.length : Int) < m) = false := decide_eq_false m1
            have mC : m ≤ (cq : Int) := by omega
            have m2 : 0 ≤ m := by omega
            go_wp2_with fail
            refine hRg.mono ?_
            rintro e w2 ⟨rfl, hb2⟩
            go_wp2_with fail
            refine (awake_any _ (hGr.gl.later hb2) (hGr.gd.later hb2)).mono ?_
            rintro e w3 ⟨rfl, hb3⟩
            go_wp2_with fail
            refine (hrr _ ((hSq.later hb2).later hb3)).mono ?_
            rintro e w4 ⟨rfl, hb4⟩
            go_wp2
            go_ret
            exact ⟨rfl, hGr.bel.trans ((below2 (below2 hb2 hb3) hb4).mono hGr.bel.size)⟩
end Go.Proofs.YtjamahpccblkiaaDoor
