/- The words of each kind (strWord, hexWord, nameWord, signWord). -/
import Derived.Test.YthgagldpjledgaaGreatDoorSe
namespace Go.Proofs.YthgagldpjledgaaGreatDoor
open Go.RowKit Go.Shelf
def strA (l : List UInt8) : Fo := (qL (l.drop 1)).map (fun x => (4, x.1, x.2 + 1))
set_option maxRecDepth 20000 in
set_option maxHeartbeats 4000000 in
theorem strWord_any (s : ByteArray) (hs : s.size ≤ 10000) (w : World) :
    Calls Tryz.prog 58 #[.string s] w fun e w' => e = .returned (wV (strA s.data.toList)) ∧ Below w.heap.size w w' := by
  have hq := quoted_any s hs (w.alloc (.cells #[.int .i64 0, .string ⟨#[]⟩, .int .i64 0] 46))
  have hV : Hid (wV (strA s.data.toList) = if (qT (qL (s.data.toList.drop 1))).2 = 0 then wV none else .tuple #[.agg #[.int .i64 4, .string (qT (qL (s.data.toList.drop 1))).1, .int .i64 0], .int .i64 ((qT (qL (s.data.toList.drop 1))).2 : Int)]) := by
    have : wV (strA s.data.toList) = if (qT (qL (s.data.toList.drop 1))).2 = 0 then wV none else .tuple #[.agg #[.int .i64 4, .string (qT (qL (s.data.toList.drop 1))).1, .int .i64 0], .int .i64 ((qT (qL (s.data.toList.drop 1))).2 : Int)] := by
      unfold strA
      cases qL (s.data.toList.drop 1) with
      | none => rfl
      | some x => rw [if_neg (by simp [qT])]; rfl
    exact this
  obtain ⟨⟨t, n⟩, hF⟩ : ∃ F, qT (qL (s.data.toList.drop 1)) = F := ⟨_, rfl⟩
  obtain ⟨V, hVV⟩ : ∃ V, wV (strA s.data.toList) = V := ⟨_, rfl⟩
  rw [hF, hVV] at hV
  rw [hVV]
  rw [hF] at hq
  simp only at hq hV
  clear hF hVV
  go_enter Tryz.func58, Tryz.ntmps58
  go_wp2_with fail
  refine hq.mono ?_
  rintro e w1 ⟨rfl, hb1⟩
  have hz : Z3 w1 w.heap.size 46 := (Z3.new w 46).later hb1
  have hB : Below w.heap.size w w1 := ((Below.refl _ w).alloc (Nat.le_refl _) _).trans (hb1.mono (by simp))
  have f0 := frozen_of_row w1 _ 0 _ _ hz
  have f1 := frozen_of_row w1 _ 1 _ _ hz
  have f2 := frozen_of_row w1 _ 2 _ _ hz
  have c0 := cell_of_row w1 _ 0 _ _ _ hz
  have c1 := cell_of_row w1 _ 1 _ _ _ hz
  have c2 := cell_of_row w1 _ 2 _ _ _ hz
  clear hq hb1
  by_cases h0 : n = 0
  · have hV2 := hV.out
    rw [if_pos h0] at hV2
    subst h0
    have HV : Hid (V = wV none) := hV2
    clear hV hV2
    go_wp2
    refine bodyPost_ret (results_row_tmp Tryz.results58 _ _ w.heap.size 46 _ (0, 0) _ rfl (set3_row hz _ _ _) Tryz.underlying46 rfl (by kernel_rfl)) rfl ⟨?_, set3_below hB _ (Nat.le_refl _) _ _ _⟩
    rw [HV.out]
    rfl
  · have hV2 := hV.out
    rw [if_neg h0] at hV2
    have HV : Hid (V = .tuple #[.agg #[.int .i64 4, .string t, .int .i64 0], .int .i64 (n : Int)]) := hV2
    clear hV hV2
    have h0' : ¬ (n : Int) = 0 := by omega
    go_wp2
    refine bodyPost_ret (results_row_tmp Tryz.results58 _ _ w.heap.size 46 _ (0, 0) _ rfl (set3_row hz _ _ _) Tryz.underlying46 rfl (by kernel_rfl)) rfl ⟨?_, set3_below hB _ (Nat.le_refl _) _ _ _⟩
    rw [HV.out]
    rfl
def hexA (l : List UInt8) : Fo := (qL (l.drop 2)).bind (fun x => (hexL x.1).map (fun t => (5, t, x.2 + 2)))
theorem hexA_val (l : List UInt8) : wV (hexA l) = if (qT (qL (l.drop 2))).2 = 0 ∨ (hT (hexL (qT (qL (l.drop 2))).1.data.toList)).2 = false then wV none else .tuple #[.agg #[.int .i64 5, .string (hT (hexL (qT (qL (l.drop 2))).1.data.toList)).1, .int .i64 0], .int .i64 (1 + ((qT (qL (l.drop 2))).2 : Int))] := by
  unfold hexA
  cases qL (l.drop 2) with
  | none => rfl
  | some x =>
    obtain ⟨t, n⟩ := x
    cases hx : hexL t with
    | none => simp [hx, qT, hT]
    | some u =>
      simp [hx, qT, hT, wV, wK, wS, wN]
      omega
theorem qT_size (l : List UInt8) : (qT (qL l)).1.size ≤ l.length ∧ (qT (qL l)).2 ≤ l.length + 1 := by
  cases h : qL l with
  | none => exact ⟨Nat.zero_le _, Nat.zero_le _⟩
  | some x =>
    obtain ⟨t, n⟩ := x
    have := qL_le l t n h
    show t.toArray.size ≤ _ ∧ n + 1 ≤ _
    simp; omega
set_option maxRecDepth 20000 in
set_option maxHeartbeats 4000000 in
theorem hexWord_any (s : ByteArray) (hs : s.size ≤ 10000) (h1 : 1 ≤ s.size) (w : World) :
    Calls Tryz.prog 53 #[.string s] w fun e w' => e = .returned (wV (hexA s.data.toList)) ∧ Below w.heap.size w w' := by
  have hs1 : (s.extract 1 s.size).size ≤ 10000 := by rw [ByteArray.size_extract]; omega
  have hq := quoted_any (s.extract 1 s.size) hs1 (w.alloc (.cells #[.int .i64 0, .string ⟨#[]⟩, .int .i64 0] 46))
  rw [ext_drop, List.drop_drop] at hq
  have hsz := qT_size (s.data.toList.drop 2)
  have hV : Hid (wV (hexA s.data.toList) = _) := hexA_val s.data.toList
  have hl := Lib.size_eq s
  rw [List.length_drop] at hsz
  obtain ⟨⟨t, n⟩, hF⟩ : ∃ F, qT (qL (s.data.toList.drop 2)) = F := ⟨_, rfl⟩
  obtain ⟨V, hVV⟩ : ∃ V, wV (hexA s.data.toList) = V := ⟨_, rfl⟩
  rw [hF, hVV] at hV
  rw [hVV]
  rw [hF] at hq hsz
  simp only at hq hV hsz
  have hts : t.size ≤ 10000 := by omega
  have hn : n ≤ 100000 := by omega
  clear hF hVV hsz hl
  have hu := unhex_any t hts
  obtain ⟨⟨u, ok⟩, hG⟩ : ∃ G, hT (hexL t.data.toList) = G := ⟨_, rfl⟩
  rw [hG] at hV
  rw [hG] at hu
  simp only at hu hV
  clear hG
  have h1' : 1 ≤ (s.size : Int) := by omega
  go_enter Tryz.func53, Tryz.ntmps53
  go_wp2_with fail
  refine hq.mono ?_
  rintro e w0 ⟨rfl, hb0⟩
  go_wp2_with fail
  refine (hu w0).mono ?_
  rintro e w1 ⟨rfl, hb1⟩
  have hz : Z3 w1 w.heap.size 46 := ((Z3.new w 46).later hb0).later hb1
  have hB : Below w.heap.size w w1 := (((Below.refl _ w).alloc (Nat.le_refl _) _).trans (hb0.mono (by simp))).trans (hb1.mono (by have := hb0.size; simp at this; omega))
  have f0 := frozen_of_row w1 _ 0 _ _ hz
  have f1 := frozen_of_row w1 _ 1 _ _ hz
  have f2 := frozen_of_row w1 _ 2 _ _ hz
  have c0 := cell_of_row w1 _ 0 _ _ _ hz
  have c1 := cell_of_row w1 _ 1 _ _ _ hz
  have c2 := cell_of_row w1 _ 2 _ _ _ hz
  clear hq hu hb0 hb1
  by_cases h0 : n = 0
  · have hV2 := hV.out
    rw [if_pos (Or.inl h0)] at hV2
    subst h0
    have HV : Hid (V = wV none) := hV2
    clear hV hV2
    go_wp2
    refine bodyPost_ret (results_row_tmp Tryz.results53 _ _ w.heap.size 46 _ (0, 0) _ rfl (set3_row hz _ _ _) Tryz.underlying46 rfl (by kernel_rfl)) rfl ⟨?_, set3_below hB _ (Nat.le_refl _) _ _ _⟩
    rw [HV.out]
    rfl
  · have h0' : ¬ (n : Int) = 0 := by omega
    cases ok with
    | false =>
      have hV2 := hV.out
      rw [if_pos (Or.inr rfl)] at hV2
      have HV : Hid (V = wV none) := hV2
      clear hV hV2
      go_wp2
      refine bodyPost_ret (results_row_tmp Tryz.results53 _ _ w.heap.size 46 _ (0, 0) _ rfl (set3_row hz _ _ _) Tryz.underlying46 rfl (by kernel_rfl)) rfl ⟨?_, set3_below hB _ (Nat.le_refl _) _ _ _⟩
      rw [HV.out]
      rfl
    | true =>
      have hV2 := hV.out
      rw [if_neg (by simp [h0])] at hV2
      have HV : Hid (V = .tuple #[.agg #[.int .i64 5, .string u, .int .i64 0], .int .i64 (1 + (n : Int))]) := hV2
      clear hV hV2
      go_wp2
      refine bodyPost_ret (results_row_tmp Tryz.results53 _ _ w.heap.size 46 _ (0, 0) _ rfl (set3_row hz _ _ _) Tryz.underlying46 rfl (by kernel_rfl)) rfl ⟨?_, set3_below hB _ (Nat.le_refl _) _ _ _⟩
      rw [HV.out]
      rfl
end Go.Proofs.YthgagldpjledgaaGreatDoor
