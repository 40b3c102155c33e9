/- The frame that begins at a place of a text (frameAt), what its head says (bodyLength), where a frame ends (end): of any text of at most 1048576 bytes; nothing that was there has changed. -/
import Derived.Test.YtgjalfcpfgbneaaGreatDoorFHed
namespace Go.Proofs.YtgjalfcpfgbneaaGreatDoor.F
open Go.RowKit
attribute [local go_sem] n32_id

def frV (f : Fr) (t : ByteArray) : Value := .agg #[.int .i64 (f.at_ : Nat), .string t, .bool f.good]
set_option maxHeartbeats 400000 in
theorem end_any (a : Nat) (t : ByteArray) (g : Bool) (ha : a ≤ 1048576) (ht : t.size ≤ 1048576) (w : World) :
    Calls Tryz.prog 77 #[.agg #[.int .i64 (a : Nat), .string t, .bool g]] w fun e w' => e = .returned (.int .i64 ((a + t.size : Nat) : Int)) ∧ Below w.heap.size w w' := by
  go_enter Tryz.func77, Tryz.ntmps77
  go_wp2
  go_ret
  exact ⟨ret_i (by omega), (Below.refl _ _).alloc (Nat.le_refl _) _⟩
theorem ext_list (s : ByteArray) (a b : Nat) : (s.extract a b).data.toList = sub s.data.toList a b := by
  rw [Lib.extract_data]; rfl
theorem GL.drewN {w : World} (h : GL w) (n : Nat) : GL (w.drewN n) := fun i hi => h i hi
theorem num_sub (s : ByteArray) (a b : Nat) (h : a + 4 ≤ b) (hb : b ≤ s.size) (w : World) :
    Calls Tryz.prog 104 #[.string (s.extract a b)] w fun e w' => e = .returned (.int .u32 (numL (sub s.data.toList a (a + 4)) : Nat)) ∧ ∃ n, w' = w.drewN n := by
  have e : numL (sub s.data.toList a (a + 4)) = numL (s.extract a b).data.toList := by
    rw [ext_list]
    unfold numL sub
    have hq : ∀ j, j < 4 → ((s.data.toList.drop a).take (a + 4 - a)).getD j 0 = ((s.data.toList.drop a).take (b - a)).getD j 0 := by
      intro j hj
      simp only [List.getD_eq_getElem?_getD]
      rw [List.getElem?_take_of_lt (by omega), List.getElem?_take_of_lt (by omega)]
    rw [hq 0 (by omega), hq 1 (by omega), hq 2 (by omega), hq 3 (by omega)]
  rw [e]
  exact num_any _ (by simp; omega) w
theorem check_sub (s : ByteArray) (a b : Nat) (hs : s.size ≤ 1048576) (w : World) (hG : GL w) :
    Calls Tryz.prog 87 #[.string (s.extract a b)] w fun e w' => e = .returned (.int .u32 (n32 (checkB (sub s.data.toList a b)))) ∧ w' = w := by
  rw [← ext_list]
  exact check_any _ (by simp; omega) w hG
def blenV (l : List UInt8) : Value := if headB l 0 then .tuple #[.int .i64 (longF l 0 : Nat), .bool true] else .tuple #[.int .i64 0, .bool false]
theorem blenV_yes {l : List UInt8} (h : headOk l 0) : blenV l = .tuple #[.int .i64 (longF l 0 : Nat), .bool true] := by unfold blenV; rw [if_pos (headB_yes h)]
theorem blenV_no {l : List UInt8} (h : ¬ headOk l 0) : blenV l = .tuple #[.int .i64 0, .bool false] := by unfold blenV; rw [if_neg (headB_no h)]
set_option maxHeartbeats 1000000 in
theorem blen_any (h : ByteArray) (hs : h.size = 12) (w : World) (hG : GL w) :
    Calls Tryz.prog 103 #[.string h] w fun e w' => e = .returned (blenV h.data.toList) ∧ ∃ n, w' = w.drewN n := by
  have g1 : (4 : Int) ≤ (h.size : Int) := by omega
  have HN := num_sub h 4 12 (by omega) (by omega)
  rw [← hs] at HN
  have HC := fun (w' : World) (hG' : GL w') => check_sub h 0 4 (by omega) w' hG'
  have e1 : numL h.data.toList = longF h.data.toList 0 := by
    unfold longF numL sub
    simp
  have h0 := num_any h (by omega)
  rw [e1] at h0
  obtain ⟨a, ha⟩ : ∃ a, longF h.data.toList 0 = a := ⟨_, rfl⟩
  obtain ⟨b, hb⟩ : ∃ b, numL (sub h.data.toList 4 (4 + 4)) = b := ⟨_, rfl⟩
  obtain ⟨c, hc⟩ : ∃ c, checkB (sub h.data.toList 0 4) = c := ⟨_, rfl⟩
  have HK : Hid (headOk h.data.toList 0 ↔ a ≤ 65536 ∧ b = c.toNat) := by
    show _ ↔ _; unfold headOk; rw [ha, Nat.zero_add, Nat.zero_add, hb, hc]
  rw [ha] at h0
  rw [hb] at HN
  rw [hc] at HC
  have HA : Hid (longF h.data.toList 0 = a) := ha
  have hc1 : n32 c = (c.toNat : Int) := rfl
  have hlt : c.toNat < 4294967296 := c.isLt
  obtain ⟨d, hd⟩ : ∃ d, c.toNat = d := ⟨_, rfl⟩
  rw [hd] at HK hc1 hlt
  rw [hc1] at HC
  clear ha hb hc e1 hc1 hd hs
  go_enter Tryz.func103, Tryz.ntmps103
  go_wp2_with fail
  refine (h0 _).mono ?_
  rintro e w1 ⟨rfl, n1, hw1⟩
  have HW : Hid (w1 = w.drewN n1) := hw1
  have hG1 : GL w1 := by rw [hw1]; exact hG.drewN n1
  clear hw1
  by_cases hl : a ≤ 65536
  · have g2 : ¬ (65536 : Int) < (a : Int) := by omega
    by_cases hq : b = d
    · subst hq
      go_wp2_with fail
      go_quiet (first | (go_at_call 104; exact Calls.quiet_of (HN _)) | (go_at_call 87; exact Calls.quiet_of_same (HC _ (hG1.drewN _))))
      go_wp2
      refine bodyPost_ret (results_tmp2 Tryz.results103 _ _ _) rfl ⟨?_, n1 + nq, by rw [HW.out, World.drewN_drewN]⟩
      rw [blenV_yes (HK.out.2 ⟨hl, trivial⟩), HA.out]
      simp
    · have g3 : ((b : Int) != (d : Int)) = true := by simp; omega
      go_wp2_with fail
      go_quiet (first | (go_at_call 104; exact Calls.quiet_of (HN _)) | (go_at_call 87; exact Calls.quiet_of_same (HC _ (hG1.drewN _))))
      go_wp2
      refine bodyPost_ret (results_tmp2 Tryz.results103 _ _ _) rfl ⟨?_, n1 + nq, by rw [HW.out, World.drewN_drewN]⟩
      rw [blenV_no (fun h => hq (HK.out.1 h).2)]
      simp
  · have g2 : (65536 : Int) < (a : Int) := by omega
    go_wp2_with fail
    go_quiet (fail)
    go_wp2
    refine bodyPost_ret (results_tmp2 Tryz.results103 _ _ _) rfl ⟨?_, n1 + nq, by rw [HW.out, World.drewN_drewN]⟩
    rw [blenV_no (fun h => hl (HK.out.1 h).1)]
    simp
theorem row3 {W : World} {b : Nat} {x y z : Value} {t : TypeId} (h : W.heap[b]? = some (.cells #[x, y, z] t (0, 0))) :
    (W.cell? ⟨b, 0, none⟩ = some x ∧ W.cell? ⟨b, 1, none⟩ = some y ∧ W.cell? ⟨b, 2, none⟩ = some z) ∧ (W.frozen? ⟨b, 0, none⟩ = false ∧ W.frozen? ⟨b, 1, none⟩ = false ∧ W.frozen? ⟨b, 2, none⟩ = false) :=
  ⟨⟨cell_of_row W b 0 _ t _ h, cell_of_row W b 1 _ t _ h, cell_of_row W b 2 _ t _ h⟩, frozen_of_row W b 0 _ _ h, frozen_of_row W b 1 _ _ h, frozen_of_row W b 2 _ _ h⟩
theorem cell_set_off (W : World) (b i j : Nat) (v : Value) (h : ¬ j = i) : (W.setCell ⟨b, i, none⟩ v).cell? ⟨b, j, none⟩ = W.cell? ⟨b, j, none⟩ :=
  World.cell?_setCell_other W _ _ v (fun e => h (by injection e with _ h2; exact h2.symm))
theorem sub_sub (s : List UInt8) (a b c d : Nat) (h : a + d ≤ b) : sub (sub s a b) c d = sub s (a + c) (a + d) := by
  unfold sub
  rw [List.drop_take, List.drop_drop, List.take_take]
  congr 1
  omega
theorem blen_at (s : ByteArray) (a : Nat) (_hs : s.size ≤ 1048576) (ha : a + 12 ≤ s.size) (w : World) (hG : GL w) :
    Calls Tryz.prog 103 #[.string (s.extract a (a + 12))] w fun e w' => e = .returned (if headB s.data.toList a then .tuple #[.int .i64 (longF s.data.toList a : Nat), .bool true] else .tuple #[.int .i64 0, .bool false]) ∧ ∃ n, w' = w.drewN n := by
  have h := blen_any (s.extract a (a + 12)) (by simp; omega) w hG
  have e1 : longF (s.extract a (a + 12)).data.toList 0 = longF s.data.toList a := by
    unfold longF; rw [ext_list, sub_sub _ _ _ _ _ (by omega)]; rfl
  have e2 : headOk (s.extract a (a + 12)).data.toList 0 ↔ headOk s.data.toList a := by
    unfold headOk; rw [e1, ext_list, sub_sub _ _ _ _ _ (by omega), sub_sub _ _ _ _ _ (by omega)]; rfl
  refine h.mono ?_
  rintro e w' ⟨rfl, hw⟩
  refine ⟨?_, hw⟩
  by_cases hk : headOk s.data.toList a
  · rw [blenV_yes (e2.2 hk), if_pos (headB_yes hk), e1]
  · rw [blenV_no (fun h => hk (e2.1 h)), if_neg (headB_no hk)]
def fatV (s : List UInt8) (a : Nat) : Value := if thereB s a then .tuple #[.agg #[.int .i64 ((a + 12 : Nat) : Int), .string ⟨(bodyF s a).toArray⟩, .bool (frF s a).good], .bool true] else .tuple #[.agg #[.int .i64 0, .string ⟨#[]⟩, .bool false], .bool false]
theorem fatV_yes {s : List UInt8} {a : Nat} (h : there s a) : fatV s a = .tuple #[.agg #[.int .i64 ((a + 12 : Nat) : Int), .string ⟨(bodyF s a).toArray⟩, .bool (frF s a).good], .bool true] := by unfold fatV; rw [if_pos (thereB_yes h)]
theorem fatV_no {s : List UInt8} {a : Nat} (h : ¬ there s a) : fatV s a = .tuple #[.agg #[.int .i64 0, .string ⟨#[]⟩, .bool false], .bool false] := by unfold fatV; rw [if_neg (thereB_no h)]
set_option maxHeartbeats 1000000 in
theorem fat_any (s : ByteArray) (hs : s.size ≤ 1048576) (a : Nat) (ha : a ≤ s.size) (w : World) (hG : GL w) :
    Calls Tryz.prog 95 #[.string s, .int .i64 (a : Nat)] w fun e w' => e = .returned (fatV s.data.toList a) ∧ Below w.heap.size w w' := by
  go_enter Tryz.func95, Tryz.ntmps95
  by_cases h12 : a + 12 ≤ s.size
  · have g1 : ¬ (s.size : Int) - (a : Int) < 12 := by omega
    have hG1 : GL (w.alloc (.cells #[.int .i64 0, .string ⟨#[]⟩, .bool false] 113)) := hG.later rfl ((Below.refl _ _).alloc (Nat.le_refl _) _)
    by_cases hk : headOk s.data.toList a
    · obtain ⟨lg, hlg⟩ : ∃ x, longF s.data.toList a = x := ⟨_, rfl⟩
      have hb0 := blen_at s a hs h12 _ hG1
      rw [if_pos (headB_yes hk), hlg] at hb0
      have hk65 : lg ≤ 65536 := by rw [← hlg]; exact hk.1
      by_cases hfit : lg ≤ s.size - (a + 12)
      · have hth : there s.data.toList a := ⟨by rw [slen]; omega, hk, by rw [hlg, slen]; exact hfit⟩
        have HT : Hid (there s.data.toList a) := hth
        have HLG : Hid (longF s.data.toList a = lg) := hlg
        have HNB := num_sub s (a + 8) s.size (by omega) (Nat.le_refl _)
        have HCB := fun (w' : World) (hG' : GL w') => check_sub s (a + 12) (a + 12 + lg) hs w' hG'
        have hbody : sub s.data.toList (a + 12) (a + 12 + lg) = bodyF s.data.toList a := by unfold bodyF; rw [hlg]
        obtain ⟨nb, hnb⟩ : ∃ x, numL (sub s.data.toList (a + 8) (a + 8 + 4)) = x := ⟨_, rfl⟩
        obtain ⟨cb, hcb⟩ : ∃ x, checkB (sub s.data.toList (a + 12) (a + 12 + lg)) = x := ⟨_, rfl⟩
        have HGD : Hid ((frF s.data.toList a).good = decide (cb.toNat = nb)) := by
          show (frF s.data.toList a).good = _
          rw [← hnb, ← hcb, hbody]; rfl
        have HBD : Hid ((⟨(bodyF s.data.toList a).toArray⟩ : ByteArray) = s.extract (a + 12) (a + 12 + lg)) := by
          show _ = _
          rw [← hbody, ← ext_list]
        rw [hnb] at HNB
        rw [hcb] at HCB
        clear hk hlg hth hbody hnb hcb
        have g2 : ¬ (s.size : Int) - ((a : Int) + 12) < (lg : Int) := by omega
        have g3 : a + 12 + lg ≤ s.size := by omega
        go_wp2_with fail
        refine hb0.mono ?_
        rintro e w1 ⟨rfl, n1, hw1⟩
        clear hb0
        have hc0 : w1.heap[w.heap.size]? = some (.cells #[.int .i64 0, .string ⟨#[]⟩, .bool false] 113 (0, 0)) := by rw [hw1]; exact heap_new _ _
        have hsz : w1.heap.size = w.heap.size + 1 := by rw [hw1]; exact World.size_alloc _ _
        have hbel : Below w.heap.size w w1 := by rw [hw1]; exact below_drewN ((Below.refl _ _).alloc (Nat.le_refl _) _) n1
        have hG2 : GL w1 := by rw [hw1]; exact hG1.drewN n1
        clear hw1
        go_wp2_with fail
        obtain ⟨T, hT⟩ : ∃ T, s.extract (a + 12) (a + 12 + lg) = T := ⟨_, rfl⟩
        rw [hT] at HBD HCB ⊢
        have hT0 : Hid (s.extract (a + 12) (a + 12 + lg) = T) := hT
        clear hT
        obtain ⟨W2, hW2⟩ : ∃ W2, w1.alloc (.cells #[.int .i64 ((a : Int) + 12), .string T, .bool false] 113) = W2 := ⟨_, rfl⟩
        have hc2 : W2.heap[w1.heap.size]? = some (.cells #[.int .i64 ((a : Int) + 12), .string T, .bool false] 113 (0, 0)) := by rw [← hW2]; exact heap_new _ _
        have hc3 : W2.heap[w.heap.size]? = some (.cells #[.int .i64 0, .string ⟨#[]⟩, .bool false] 113 (0, 0)) := by rw [← hW2, Below.heap_alloc _ _ _ (by omega)]; exact hc0
        have hb2 : Below w.heap.size w W2 := by rw [← hW2]; exact hbel.alloc (by omega) _
        have hG3 : GL W2 := by rw [← hW2]; exact hG2.later rfl ((Below.refl _ _).alloc (Nat.le_refl _) _)
        rw [hW2]
        clear hW2 hc0 hbel hG2 hG hG1
        rw [hsz] at hc2
        have hcell := cell_of_row W2 (w.heap.size + 1) 1 _ 113 _ hc2
        have hcel2 := cell_of_row W2 (w.heap.size + 1) 2 _ 113 _ hc2
        have hfrz := frozen_of_row W2 (w.heap.size + 1) 2 _ _ hc2
        simp only [List.getElem?_toArray, List.getElem?_cons_succ, List.getElem?_cons_zero] at hcell hcel2
        have q1 : IntKind.i64.wrap ((a : Int) + 8) = (a : Int) + 8 := by rw [IntKind.wrap_i64]; omega
        have q2 : (0 : Int) ≤ (a : Int) + 8 := by omega
        have q3 : (a : Int) + 8 ≤ (s.size : Int) := by omega
        have q4 : ((a : Int) + 8).toNat = a + 8 := by omega
        go_region_held3 (fun w' => w'.cell? ⟨w.heap.size + 1, 1, none⟩ = some (.string T)) (simp [*, cell_set_off])
          (first | (go_at_call 87; refine (HCB _ (hG3.drewN _)).mono ?_; rintro e w' ⟨rfl, rfl⟩) | (go_at_call 104; refine (HNB _).mono ?_; rintro e w' ⟨rfl, n, rfl⟩))
        obtain ⟨gb, hgb⟩ : ∃ g : Bool, (n32 cb == (nb : Int)) = g := ⟨_, rfl⟩
        have hgd : Hid ((frF s.data.toList a).good = gb) := by
          show _ = _
          rw [HGD.out, ← hgb]
          unfold n32
          rw [Bool.eq_iff_iff]; simp; omega
        rw [hgb]
        clear hgb
        obtain ⟨W3, hW3⟩ : ∃ W3, (W2.drewN (1 + n)).setCell ⟨w.heap.size + 1, 2, none⟩ (.bool gb) = W3 := ⟨_, rfl⟩
        have hd2 : W3.heap[w.heap.size + 1]? = some (.cells #[.int .i64 ((a : Int) + 12), .string T, .bool gb] 113 (0, 0)) := by
          rw [← hW3, heap_setCell_same (W2.drewN (1 + n)) (w.heap.size + 1) 2 _ 113 _ hc2]; rfl
        have hd3 : W3.heap[w.heap.size]? = some (.cells #[.int .i64 0, .string ⟨#[]⟩, .bool false] 113 (0, 0)) := by
          rw [← hW3, heap_setCell_other _ _ _ _ (by simp)]; exact hc3
        have hb3 : Below w.heap.size w W3 := by rw [← hW3]; exact (below_drewN hb2 _).setCell (Nat.le_succ _) _
        rw [hW3]
        clear hW3 hc2 hc3 hb2 hcell hcel2 hfrz
        have r2 := row3 hd2
        have r3 := row3 hd3
        clear hd2 hd3
        go_wp2
        refine bodyPost_ret (v := fatV s.data.toList a) ?_ rfl ⟨rfl, ((hb3.setCell (Nat.le_refl _) _).setCell (Nat.le_refl _) _).setCell (Nat.le_refl _) _⟩
        rw [fatV_yes HT.out, hgd.out, HBD.out]
        simp [results, Tryz.results95, go_sem, r3]
      · have hno : ¬ there s.data.toList a := fun h => by have := h.2.2; rw [hlg, slen] at this; omega
        have HT : Hid (¬ there s.data.toList a) := hno
        clear hno hk hlg
        have g2 : (s.size : Int) - ((a : Int) + 12) < (lg : Int) := by omega
        go_wp2_with fail
        refine hb0.mono ?_
        rintro e w1 ⟨rfl, n1, rfl⟩
        go_wp2
        refine bodyPost_ret (v := fatV s.data.toList a) ?_ rfl ⟨rfl, (((below_drewN ((Below.refl _ _).alloc (Nat.le_refl _) _) n1).setCell (Nat.le_refl _) _).setCell (Nat.le_refl _) _).setCell (Nat.le_refl _) _⟩
        rw [fatV_no HT.out]
        simp [results, Tryz.results95, go_sem]
    · have hno : ¬ there s.data.toList a := fun h => hk h.2.1
      have HT : Hid (¬ there s.data.toList a) := hno
      have hb0 := blen_at s a hs h12 _ hG1
      rw [if_neg (headB_no hk)] at hb0
      clear hno hk
      go_wp2_with fail
      refine hb0.mono ?_
      rintro e w1 ⟨rfl, n1, rfl⟩
      go_wp2
      refine bodyPost_ret (v := fatV s.data.toList a) ?_ rfl ⟨rfl, (((below_drewN ((Below.refl _ _).alloc (Nat.le_refl _) _) n1).setCell (Nat.le_refl _) _).setCell (Nat.le_refl _) _).setCell (Nat.le_refl _) _⟩
      rw [fatV_no HT.out]
      simp [results, Tryz.results95, go_sem]
  · have g1 : (s.size : Int) - (a : Int) < 12 := by omega
    have hno : ¬ there s.data.toList a := fun h => by have := h.1; rw [slen] at this; omega
    have HT : Hid (¬ there s.data.toList a) := hno
    clear hno
    go_wp2
    refine bodyPost_ret (v := fatV s.data.toList a) ?_ rfl ⟨rfl, (Below.refl _ _).alloc (Nat.le_refl _) _⟩
    rw [fatV_no HT.out]
    simp [results, Tryz.results95, go_sem]
end Go.Proofs.YtgjalfcpfgbneaaGreatDoor.F
