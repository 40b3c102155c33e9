/- The laws' parsed; and CheckKinds. -/
import Derived.Test.YtcniebkehekliaaGreatDoorAwa
import Derived.Test.YtcniebkehekliaaGreatDoorRki
namespace Go.Proofs.YtcniebkehekliaaGreatDoor
open Go.RowKit Go.Shelf
attribute [local go_sem] Oper.semAt_some
def prsF (l : List UInt8) : Sm × Bool := if 1000 < l.length then (Sm.zero, false) else ((parF l).1, decide ((parF l).2.2 = 0))
def GivesB (w : World) (X : Sm × Bool) (r : Ending) (w' : World) : Prop := ∃ R, r = .returned (.tuple #[.agg (stA R), .bool X.2]) ∧ Sx w' (fun k => w.heap.size ≤ k) R X.1 ∧ Below w.heap.size w w'
set_option maxRecDepth 100000 in
set_option maxHeartbeats 8000000 in
theorem parsed_any (t : ByteArray) (ht : t.size ≤ 140737488355328) (w : World) (he : Ev w) : Calls Tryz.prog 6 #[.string t] w (GivesB w (prsF t.data.toList)) := by
  obtain ⟨w1, hw1⟩ : ∃ w1, w.alloc (.cells #[.int .i64 0, .string ⟨#[]⟩, .string ⟨#[]⟩, .int .i64 0, .string ⟨#[]⟩, .int .i64 0, .bool false, .int .i64 0, .string ⟨#[]⟩, .slice none 0 0, .slice none 0 0, .slice none 0 0, .slice none 0 0, .slice none 0 0, .slice none 0 0, .int .i64 0, .string ⟨#[]⟩, .int .i64 0, .bool false, .int .i64 0, .string ⟨#[]⟩, .slice none 0 0, .slice none 0 0, .slice none 0 0, .slice none 0 0, .slice none 0 0, .bool false, .bool false, .string ⟨#[]⟩, .bool false, .int .i64 (0)] 30) = w1 := ⟨_, rfl⟩
  have hb1 : Below w.heap.size w w1 := by rw [← hw1]; exact (Below.refl _ w).alloc (Nat.le_refl _) _
  have r1 : w1.heap[w.heap.size]? = some (.cells zero31 30 (0, 0)) := by rw [← hw1]; exact heap_alloc_new _ _
  have hlen : t.data.toList.length = t.size := by simp
  by_cases hl : 1000 < t.size
  · have hl2 : (1000 : Int) < (t.size : Int) := by omega
    have e : prsF t.data.toList = (Sm.zero, false) := by
      unfold prsF
      rw [if_pos (by rw [hlen]; exact hl)]
    rw [e]
    have HH : Hid (Below w.heap.size w w1 ∧ w1.heap[w.heap.size]? = some (.cells zero31 30 (0, 0))) := ⟨hb1, r1⟩
    clear hb1 r1 hlen e he hl
    go_enter Tryz.func6, Tryz.ntmps6
    go_wp2_with (first | (refine wpList_put rfl 30 (.tmp 2) (.tmp 10) rfl rfl rfl rfl HH.out.2 rfl info30 (by simp [Value.oneCell']) ?_) | fail)
    exact bodyPost_ret (results_row_tmp Tryz.results6 _ _ w.heap.size 30 _ (0, 0) _ rfl (put_row _ HH.out.2 rfl) Tryz.underlying30 rfl info30) rfl ⟨zeroR, rfl, zero_sx _ _ 0, put_below HH.out.1 _ (Nat.le_refl _) _⟩
  · have hl2 : ¬ (1000 : Int) < (t.size : Int) := by omega
    have kp := parse_text t (by omega) w1 (he.later hb1)
    have e : prsF t.data.toList = ((parF t.data.toList).1, decide ((parF t.data.toList).2.2 = 0)) := by
      unfold prsF
      rw [if_neg (by rw [hlen]; exact hl)]
    rw [e]
    obtain ⟨X, hX⟩ : ∃ X, parF t.data.toList = X := ⟨_, rfl⟩
    rw [hX] at kp ⊢
    have HH : Hid (Below w.heap.size w w1 ∧ w1.heap[w.heap.size]? = some (.cells zero31 30 (0, 0))) := ⟨hb1, r1⟩
    have s1 := hb1.size
    have l1 := lt_of_row r1
    clear hb1 r1 hlen e he hl hX
    obtain ⟨y, hy⟩ : ∃ y, decide (X.2.2 = 0) = y := ⟨_, rfl⟩
    rw [hy]
    have HY : Hid (decide (X.2.2 = 0) = y) := hy
    clear hy
    go_enter Tryz.func6, Tryz.ntmps6
    go_wp2_with fail
    refine kp.mono ?_
    rintro q w2 ⟨R, rfl, hx, hb2⟩
    obtain ⟨w3, hw3⟩ : ∃ w3, put (w2.alloc (.cells #[.int .i64 0, .string ⟨#[]⟩, .string ⟨#[]⟩, .int .i64 0, .string ⟨#[]⟩, .int .i64 0, .bool false, .int .i64 0, .string ⟨#[]⟩, .slice none 0 0, .slice none 0 0, .slice none 0 0, .slice none 0 0, .slice none 0 0, .slice none 0 0, .int .i64 0, .string ⟨#[]⟩, .int .i64 0, .bool false, .int .i64 0, .string ⟨#[]⟩, .slice none 0 0, .slice none 0 0, .slice none 0 0, .slice none 0 0, .slice none 0 0, .bool false, .bool false, .string ⟨#[]⟩, .bool false, .int .i64 (0)] 30)) w2.heap.size (stA R) = w3 := ⟨_, rfl⟩
    have ra : (w2.alloc (.cells #[.int .i64 0, .string ⟨#[]⟩, .string ⟨#[]⟩, .int .i64 0, .string ⟨#[]⟩, .int .i64 0, .bool false, .int .i64 0, .string ⟨#[]⟩, .slice none 0 0, .slice none 0 0, .slice none 0 0, .slice none 0 0, .slice none 0 0, .slice none 0 0, .int .i64 0, .string ⟨#[]⟩, .int .i64 0, .bool false, .int .i64 0, .string ⟨#[]⟩, .slice none 0 0, .slice none 0 0, .slice none 0 0, .slice none 0 0, .slice none 0 0, .bool false, .bool false, .string ⟨#[]⟩, .bool false, .int .i64 (0)] 30)).heap[w2.heap.size]? = some (.cells zero31 30 (0, 0)) := heap_alloc_new _ _
    have hb3 : Below w2.heap.size w2 w3 := by rw [← hw3]; exact put_below ((Below.refl _ w2).alloc (Nat.le_refl _) _) _ (Nat.le_refl _) _
    have r3 : w3.heap[w2.heap.size]? = some (.cells (stA R) 30 (0, 0)) := by rw [← hw3]; exact put_row _ ra rfl
    have s2 := hb2.size
    have rz : w3.heap[w.heap.size]? = some (.cells zero31 30 (0, 0)) := ((hb3.block _ (by omega)).trans (hb2.block _ l1)).trans HH.out.2
    have H3 : Hid (Below w.heap.size w w3 ∧ w3.heap[w2.heap.size]? = some (.cells (stA R) 30 (0, 0)) ∧ w3.heap[w.heap.size]? = some (.cells zero31 30 (0, 0)) ∧ (w2.alloc (.cells #[.int .i64 0, .string ⟨#[]⟩, .string ⟨#[]⟩, .int .i64 0, .string ⟨#[]⟩, .int .i64 0, .bool false, .int .i64 0, .string ⟨#[]⟩, .slice none 0 0, .slice none 0 0, .slice none 0 0, .slice none 0 0, .slice none 0 0, .slice none 0 0, .int .i64 0, .string ⟨#[]⟩, .int .i64 0, .bool false, .int .i64 0, .string ⟨#[]⟩, .slice none 0 0, .slice none 0 0, .slice none 0 0, .slice none 0 0, .slice none 0 0, .bool false, .bool false, .string ⟨#[]⟩, .bool false, .int .i64 (0)] 30)).heap[w2.heap.size]? = some (.cells zero31 30 (0, 0)) ∧ (stA R).all (·.oneCell') = true ∧ Sx w3 (fun k => w1.heap.size ≤ k) R X.1) := by
      have a1 := HH.out.1.trans (hb2.mono HH.out.1.size)
      exact ⟨a1.trans (hb3.mono a1.size), r3, rz, ra, hx.ones, hx.since (Since.below hb3)⟩
    clear kp hx hb2 hb3 ra r3 rz hw1
    have hfin : Hid (Sx (put w3 w.heap.size (stA R)) (fun k => w.heap.size ≤ k) R X.1 ∧ Below w.heap.size w (put w3 w.heap.size (stA R))) := by
      refine ⟨?_, put_below H3.out.1 _ (Nat.le_refl _) _⟩
      have a1 : Sx (put w3 w.heap.size (stA R)) (fun k => w1.heap.size ≤ k) R X.1 := H3.out.2.2.2.2.2.since (Since.put (by omega) _ _)
      exact a1.imp fun k hk _ => by omega
    by_cases h0 : X.2.2 = 0
    · have hy1 : y = true := by rw [← HY.out]; exact decide_eq_true h0
      subst hy1
      have hc : ((X.2.2 : Nat) : Int) = 0 := by omega
      rw [hc]
      clear h0 hc
      go_wp2_with (first
        | (refine wpList_put rfl 30 (.tmp 4) (.tmp 14) rfl rfl rfl rfl H3.out.2.2.2.1 rfl info30 H3.out.2.2.2.2.1 ?_; rw [hw3])
        | (refine wpList_get rfl 30 (.tmp 4) rfl rfl H3.out.2.1 Tryz.underlying30 rfl info30 ?_; simp only [Act.put, List.setIfInBounds_toArray, List.set_cons_zero, List.set_cons_succ])
        | (refine wpList_put rfl 30 (.tmp 2) (.tmp 17) rfl rfl rfl rfl H3.out.2.2.1 rfl info30 H3.out.2.2.2.2.1 ?_)
        | fail)
      exact bodyPost_ret (results_row_tmp Tryz.results6 _ _ w.heap.size 30 _ (0, 0) _ rfl (put_row _ H3.out.2.2.1 rfl) Tryz.underlying30 rfl info30) rfl ⟨R, rfl, hfin.out.1, hfin.out.2⟩
    · have hy1 : y = false := by rw [← HY.out]; exact decide_eq_false h0
      subst hy1
      have hc : (((X.2.2 : Nat) : Int) == 0) = false := by simpa using h0
      go_wp2_with (first
        | (refine wpList_put rfl 30 (.tmp 4) (.tmp 14) rfl rfl rfl rfl H3.out.2.2.2.1 rfl info30 H3.out.2.2.2.2.1 ?_; rw [hw3])
        | (refine wpList_get rfl 30 (.tmp 4) rfl rfl H3.out.2.1 Tryz.underlying30 rfl info30 ?_; simp only [Act.put, List.setIfInBounds_toArray, List.set_cons_zero, List.set_cons_succ])
        | (refine wpList_put rfl 30 (.tmp 2) (.tmp 17) rfl rfl rfl rfl H3.out.2.2.1 rfl info30 H3.out.2.2.2.2.1 ?_)
        | fail)
      exact bodyPost_ret (results_row_tmp Tryz.results6 _ _ w.heap.size 30 _ (0, 0) _ rfl (put_row _ H3.out.2.2.1 rfl) Tryz.underlying30 rfl info30) rfl ⟨R, rfl, hfin.out.1, hfin.out.2⟩
theorem prs_ok {l : List UInt8} (h : (prsF l).2 = true) : (prsF l).1 = (parF l).1 ∧ (parF l).2.2 = 0 := by
  unfold prsF at h ⊢
  split at h
  · cases h
  · rename_i h1
    rw [if_neg h1]
    exact ⟨rfl, of_decide_eq_true h⟩
theorem pre_list (s : ByteArray) : (⟨#[68, 69, 76, 69, 84, 69, 32, 70, 82, 79, 77, 32, 116, 32, 87, 72, 69, 82, 69, 32]⟩ ++ s : ByteArray).data.toList = preL ++ s.data.toList := by
  simp [preL]
set_option maxRecDepth 100000 in
set_option maxHeartbeats 8000000 in
theorem kinds_no (s : ByteArray) (hs : s.size ≤ 140737488351232) (b : Bool) (w : World) (he : Ev w) (hy : (prsF (preL ++ s.data.toList)).2 = false) : Calls Tryz.prog 3 #[.string s, .bool b] w fun r w' => r = .returned (.bool true) ∧ Below w.heap.size w w' := by
  have hsz : (⟨#[68, 69, 76, 69, 84, 69, 32, 70, 82, 79, 77, 32, 116, 32, 87, 72, 69, 82, 69, 32]⟩ ++ s : ByteArray).size = 20 + s.size := by simp; rfl
  have kp := parsed_any (⟨#[68, 69, 76, 69, 84, 69, 32, 70, 82, 79, 77, 32, 116, 32, 87, 72, 69, 82, 69, 32]⟩ ++ s) (by omega) w he
  rw [pre_list] at kp
  have ka := fun W (hW : Below w.heap.size w W) => awake_any W (he.later hW)
  obtain ⟨X, hX⟩ : ∃ X, prsF (preL ++ s.data.toList) = X := ⟨_, rfl⟩
  rw [hX] at kp hy
  obtain ⟨t, ht⟩ : ∃ t, (⟨#[68, 69, 76, 69, 84, 69, 32, 70, 82, 79, 77, 32, 116, 32, 87, 72, 69, 82, 69, 32]⟩ ++ s : ByteArray) = t := ⟨_, rfl⟩
  have HT : Hid ((⟨#[68, 69, 76, 69, 84, 69, 32, 70, 82, 79, 77, 32, 116, 32, 87, 72, 69, 82, 69, 32]⟩ ++ s : ByteArray) = t) := ht
  clear hX hsz ht he
  go_enter Tryz.func3, Tryz.ntmps3
  go_wp2_with fail
  refine kp.mono ?_
  rintro q w1 ⟨R, rfl, hx, hb1⟩
  rw [hy]
  obtain ⟨Q, hQ, hq⟩ := hx.open
  rw [hQ]
  obtain ⟨w2, hw2⟩ : ∃ w2, put (w1.alloc (.cells #[.int .i64 0, .string ⟨#[]⟩, .string ⟨#[]⟩, .int .i64 0, .string ⟨#[]⟩, .int .i64 0, .bool false, .int .i64 0, .string ⟨#[]⟩, .slice none 0 0, .slice none 0 0, .slice none 0 0, .slice none 0 0, .slice none 0 0, .slice none 0 0, .int .i64 0, .string ⟨#[]⟩, .int .i64 0, .bool false, .int .i64 0, .string ⟨#[]⟩, .slice none 0 0, .slice none 0 0, .slice none 0 0, .slice none 0 0, .slice none 0 0, .bool false, .bool false, .string ⟨#[]⟩, .bool false, .int .i64 (0)] 30)) w1.heap.size (qrA Q) = w2 := ⟨_, rfl⟩
  have ra : (w1.alloc (.cells #[.int .i64 0, .string ⟨#[]⟩, .string ⟨#[]⟩, .int .i64 0, .string ⟨#[]⟩, .int .i64 0, .bool false, .int .i64 0, .string ⟨#[]⟩, .slice none 0 0, .slice none 0 0, .slice none 0 0, .slice none 0 0, .slice none 0 0, .slice none 0 0, .int .i64 0, .string ⟨#[]⟩, .int .i64 0, .bool false, .int .i64 0, .string ⟨#[]⟩, .slice none 0 0, .slice none 0 0, .slice none 0 0, .slice none 0 0, .slice none 0 0, .bool false, .bool false, .string ⟨#[]⟩, .bool false, .int .i64 (0)] 30)).heap[w1.heap.size]? = some (.cells zero31 30 (0, 0)) := heap_alloc_new _ _
  have hb2 : Below w1.heap.size w1 w2 := by rw [← hw2]; exact put_below ((Below.refl _ w1).alloc (Nat.le_refl _) _) _ (Nat.le_refl _) _
  have r2 : w2.heap[w1.heap.size]? = some (.cells (qrA Q) 30 (0, 0)) := by rw [← hw2]; exact put_row _ ra rfl
  have hB2 : Below w.heap.size w w2 := hb1.trans (hb2.mono hb1.size)
  have k2 := ka w2 hB2
  have H2 : Hid (Below w.heap.size w w2 ∧ (w1.alloc (.cells #[.int .i64 0, .string ⟨#[]⟩, .string ⟨#[]⟩, .int .i64 0, .string ⟨#[]⟩, .int .i64 0, .bool false, .int .i64 0, .string ⟨#[]⟩, .slice none 0 0, .slice none 0 0, .slice none 0 0, .slice none 0 0, .slice none 0 0, .slice none 0 0, .int .i64 0, .string ⟨#[]⟩, .int .i64 0, .bool false, .int .i64 0, .string ⟨#[]⟩, .slice none 0 0, .slice none 0 0, .slice none 0 0, .slice none 0 0, .slice none 0 0, .bool false, .bool false, .string ⟨#[]⟩, .bool false, .int .i64 (0)] 30)).heap[w1.heap.size]? = some (.cells zero31 30 (0, 0))) := ⟨hB2, ra⟩
  clear kp ka hx hQ hq hb1 hb2 hB2 ra r2 hy HT
  go_wp2_with (first | (refine wpList_put rfl 30 (.tmp 5) (.tmp 15) rfl rfl rfl rfl H2.out.2 rfl info30 (qr_ones Q) ?_; rw [hw2]) | fail)
  refine k2.mono ?_
  rintro q w3 ⟨rfl, hb3⟩
  have H3 : Hid (Below w.heap.size w w3) := H2.out.1.trans (hb3.mono H2.out.1.size)
  clear k2 hb3
  go_wp2
  go_ret
  exact ⟨rfl, H3.out⟩
set_option maxRecDepth 100000 in
set_option maxHeartbeats 8000000 in
theorem kinds_yes (s : ByteArray) (hs : s.size ≤ 140737488351232) (b : Bool) (w : World) (he : Ev w) (hy : (prsF (preL ++ s.data.toList)).2 = true) : Calls Tryz.prog 3 #[.string s, .bool b] w fun r w' => r = .returned (.bool true) ∧ Below w.heap.size w w' := by
  have hsz : (⟨#[68, 69, 76, 69, 84, 69, 32, 70, 82, 79, 77, 32, 116, 32, 87, 72, 69, 82, 69, 32]⟩ ++ s : ByteArray).size = 20 + s.size := by simp; rfl
  have kp := parsed_any (⟨#[68, 69, 76, 69, 84, 69, 32, 70, 82, 79, 77, 32, 116, 32, 87, 72, 69, 82, 69, 32]⟩ ++ s) (by omega) w he
  rw [pre_list] at kp
  have ka := fun W (hW : Below w.heap.size w W) => awake_any W (he.later hW)
  have hok := prs_ok hy
  have hgt : Gt (prsF (preL ++ s.data.toList)).1.wh := by rw [hok.1]; exact par_pre hok.2
  obtain ⟨X, hX⟩ : ∃ X, prsF (preL ++ s.data.toList) = X := ⟨_, rfl⟩
  rw [hX] at kp hy hgt
  obtain ⟨t, ht⟩ : ∃ t, (⟨#[68, 69, 76, 69, 84, 69, 32, 70, 82, 79, 77, 32, 116, 32, 87, 72, 69, 82, 69, 32]⟩ ++ s : ByteArray) = t := ⟨_, rfl⟩
  have HT : Hid ((⟨#[68, 69, 76, 69, 84, 69, 32, 70, 82, 79, 77, 32, 116, 32, 87, 72, 69, 82, 69, 32]⟩ ++ s : ByteArray) = t) := ht
  clear hX hsz hok ht he
  go_enter Tryz.func3, Tryz.ntmps3
  go_wp2_with fail
  refine kp.mono ?_
  rintro q w1 ⟨R, rfl, hx, hb1⟩
  rw [hy]
  obtain ⟨Q, hQ, hq⟩ := hx.open
  rw [hQ]
  obtain ⟨w2, hw2⟩ : ∃ w2, put (w1.alloc (.cells #[.int .i64 0, .string ⟨#[]⟩, .string ⟨#[]⟩, .int .i64 0, .string ⟨#[]⟩, .int .i64 0, .bool false, .int .i64 0, .string ⟨#[]⟩, .slice none 0 0, .slice none 0 0, .slice none 0 0, .slice none 0 0, .slice none 0 0, .slice none 0 0, .int .i64 0, .string ⟨#[]⟩, .int .i64 0, .bool false, .int .i64 0, .string ⟨#[]⟩, .slice none 0 0, .slice none 0 0, .slice none 0 0, .slice none 0 0, .slice none 0 0, .bool false, .bool false, .string ⟨#[]⟩, .bool false, .int .i64 (0)] 30)) w1.heap.size (qrA Q) = w2 := ⟨_, rfl⟩
  have ra : (w1.alloc (.cells #[.int .i64 0, .string ⟨#[]⟩, .string ⟨#[]⟩, .int .i64 0, .string ⟨#[]⟩, .int .i64 0, .bool false, .int .i64 0, .string ⟨#[]⟩, .slice none 0 0, .slice none 0 0, .slice none 0 0, .slice none 0 0, .slice none 0 0, .slice none 0 0, .int .i64 0, .string ⟨#[]⟩, .int .i64 0, .bool false, .int .i64 0, .string ⟨#[]⟩, .slice none 0 0, .slice none 0 0, .slice none 0 0, .slice none 0 0, .slice none 0 0, .bool false, .bool false, .string ⟨#[]⟩, .bool false, .int .i64 (0)] 30)).heap[w1.heap.size]? = some (.cells zero31 30 (0, 0)) := heap_alloc_new _ _
  have hb2 : Below w1.heap.size w1 w2 := by rw [← hw2]; exact put_below ((Below.refl _ w1).alloc (Nat.le_refl _) _) _ (Nat.le_refl _) _
  have r2 : w2.heap[w1.heap.size]? = some (.cells (qrA Q) 30 (0, 0)) := by rw [← hw2]; exact put_row _ ra rfl
  have hB2 : Below w.heap.size w w2 := hb1.trans (hb2.mono hb1.size)
  have hq2 := hq.since (Since.below hb2)
  obtain ⟨d, hwh⟩ := hq2.wh
  have k2 := kind_any b d hwh (hgt d)
  obtain ⟨K, hK⟩ : ∃ K, kndF d X.1.wh b = K := ⟨_, rfl⟩
  rw [hK] at k2
  have HR : Hid (w2.rangeAt w1.heap.size 15 (arrX Q.wh).toList) := rng_wh r2
  have l2 := lt_of_row r2
  have H2 : Hid (Below w.heap.size w w2 ∧ (w1.alloc (.cells #[.int .i64 0, .string ⟨#[]⟩, .string ⟨#[]⟩, .int .i64 0, .string ⟨#[]⟩, .int .i64 0, .bool false, .int .i64 0, .string ⟨#[]⟩, .slice none 0 0, .slice none 0 0, .slice none 0 0, .slice none 0 0, .slice none 0 0, .slice none 0 0, .int .i64 0, .string ⟨#[]⟩, .int .i64 0, .bool false, .int .i64 0, .string ⟨#[]⟩, .slice none 0 0, .slice none 0 0, .slice none 0 0, .slice none 0 0, .slice none 0 0, .bool false, .bool false, .string ⟨#[]⟩, .bool false, .int .i64 (0)] 30)).heap[w1.heap.size]? = some (.cells zero31 30 (0, 0)) ∧ w2.heap[w1.heap.size]? = some (.cells (qrA Q) 30 (0, 0)) ∧ LiesE w2 (fun k => w.heap.size ≤ k) d X.1.wh (rowX Q.wh) ∧ kndF d X.1.wh b = K ∧ Gt X.1.wh) := ⟨hB2, ra, r2, hwh, hK, hgt⟩
  unfold rowX at k2
  clear kp hx hQ hq hb1 hb2 hB2 ra r2 hq2 hwh hgt hy HT hK
  go_wp2_with (first
    | (refine wpList_put rfl 30 (.tmp 5) (.tmp 15) rfl rfl rfl rfl H2.out.2.1 rfl info30 (qr_ones Q) ?_; rw [hw2])
    | (refine wpList_load_mid rfl 28 (.tmp 21) rfl w1.heap.size 15 rfl (arrX Q.wh).toList _ HR.out Tryz.underlying28 rfl (i28x Q.wh) ?_; simp only [Act.put, List.setIfInBounds_toArray, List.set_cons_zero, List.set_cons_succ, Array.toArray_toList]; unfold arrX)
    | fail)
  refine k2.mono ?_
  rintro q w3 ⟨rfl, hb3⟩
  have r3 := (hb3.block _ l2).trans H2.out.2.2.1
  have HR3 : Hid (w3.rangeAt w1.heap.size 15 (arrX Q.wh).toList) := rng_wh r3
  have k3 := conv_any d (H2.out.2.2.2.1.since (Since.below hb3)) (H2.out.2.2.2.2.2 d)
  have H3 : Hid (Below w.heap.size w w3) := H2.out.1.trans (hb3.mono H2.out.1.size)
  unfold rowX at k3
  clear k2 hb3 r3 hw2
  go_wp2_with (first
    | (refine wpList_load_mid rfl 28 (.tmp 28) rfl w1.heap.size 15 rfl (arrX Q.wh).toList _ HR3.out Tryz.underlying28 rfl (i28x Q.wh) ?_; simp only [Act.put, List.setIfInBounds_toArray, List.set_cons_zero, List.set_cons_succ, Array.toArray_toList]; unfold arrX)
    | fail)
  refine k3.mono ?_
  rintro q w4 ⟨A, rfl, hA, hb4⟩
  have k4 := rkind_any b d hA (H2.out.2.2.2.2.2 d)
  rw [H2.out.2.2.2.2.1] at k4
  have H4 : Hid (Below w.heap.size w w4) := H3.out.trans (hb4.mono H3.out.size)
  clear k3 hb4 hA
  go_wp2_with fail
  refine k4.mono ?_
  rintro q w5 ⟨rfl, hb5⟩
  have hB5 : Below w.heap.size w w5 := H4.out.trans (hb5.mono H4.out.size)
  have k5 := ka w5 hB5
  have H5 : Hid (Below w.heap.size w w5) := hB5
  clear k4 hb5 hB5 ka
  go_wp2_with fail
  refine k5.mono ?_
  rintro q w6 ⟨rfl, hb6⟩
  have H6 : Hid (Below w.heap.size w w6) := H5.out.trans (hb6.mono H5.out.size)
  clear k5 hb6
  go_wp2
  go_ret
  exact ⟨rfl, H6.out⟩
theorem kinds_walk (s : ByteArray) (hs : s.size ≤ 140737488351232) (b : Bool) (w : World) (he : Ev w) : Calls Tryz.prog 3 #[.string s, .bool b] w fun r w' => r = .returned (.bool true) ∧ Below w.heap.size w w' := by
  cases hy : (prsF (preL ++ s.data.toList)).2 with
  | true => exact kinds_yes s hs b w he hy
  | false => exact kinds_no s hs b w he hy
end Go.Proofs.YtcniebkehekliaaGreatDoor
