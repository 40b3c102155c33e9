/- KeysNext, called. -/
import Derived.Test.YtaacbcnpagpdnaaDoorKawake
namespace Go.Proofs.YtaacbcnpagpdnaaDoor
open Go.RowKit
theorem nextB_list (s : ByteArray) : (nextB s).toList = nextL s.data.toList := by rw [Lib.toList_data]; rfl
theorem next_some {s : ByteArray} (h : (nextB s).toList.isEmpty = false) : ∃ n, nextF s.data.toList = some n ∧ (nextB s).toList = n := by
  rw [nextB_list] at h ⊢
  unfold nextL at h ⊢
  cases hn : nextF s.data.toList with
  | none => rw [hn] at h; cases h
  | some n => exact ⟨n, rfl, rfl⟩
theorem next_F1 (s t : ByteArray) (h : (nextB s).toList.isEmpty = false) : Op.bytesLess (s ++ t).toList (nextB s).toList = true := by
  obtain ⟨n, hn, hl⟩ := next_some h
  rw [hl, Lib.toList_data, ByteArray.data_append, Array.toList_append]
  exact next_above _ hn
theorem next_F2 (s : ByteArray) (h : (nextB s).toList.isEmpty = false) : Op.bytesLess s.toList (nextB s).toList = true := by
  obtain ⟨n, hn, hl⟩ := next_some h
  rw [hl, Lib.toList_data]
  have := next_above [] hn
  rw [List.append_nil] at this
  exact this
theorem pre_extract {s t : ByteArray} (h : s.data.toList <+: t.data.toList) : s.size ≤ t.size ∧ (t.extract 0 s.size).toList = s.toList := by
  have hl := h.length_le
  rw [← Lib.size_eq, ← Lib.size_eq] at hl
  refine ⟨hl, ?_⟩
  rw [Lib.toList_data, Lib.toList_data, ByteArray.data_extract]
  have e := List.prefix_iff_eq_take.1 h
  have e2 : s.data.toList.length = s.size := (Lib.size_eq s).symm
  rw [e2] at e
  simp
  exact e.symm
theorem next_F3 (s t : ByteArray) (h : Op.bytesLess t.toList s.toList = false ∧ ¬ t.toList = s.toList) (hp : ¬ (s.size ≤ t.size ∧ (t.extract 0 s.size).toList = s.toList)) :
    (nextB s).toList.isEmpty = false ∧ Op.bytesLess t.toList (nextB s).toList = false := by
  have hlt : lt8 s.data.toList t.data.toList = true := by
    rcases lt8_total s.data.toList t.data.toList with k | k | k
    · exact k
    · exact absurd (by rw [Lib.toList_data, Lib.toList_data, k]) h.2
    · rw [Lib.toList_data, Lib.toList_data] at h
      rw [show lt8 t.data.toList s.data.toList = Op.bytesLess t.data.toList s.data.toList from rfl, h.1] at k
      cases k
  obtain ⟨n, hn, hl⟩ := next_least hlt (fun hh => hp (pre_extract hh))
  have e : (nextB s).toList = n := by rw [nextB_list]; unfold nextL; rw [hn]; rfl
  rw [e, Lib.toList_data]
  refine ⟨?_, hl⟩
  have := nextF_ne hn
  cases n with
  | nil => exact absurd rfl this
  | cons => rfl
set_option maxRecDepth 20000 in
set_option maxHeartbeats 2000000 in
theorem law_next_ss (s t : ByteArray) (w : World) (hs : s.size ≤ 200) (ht : t.size ≤ 200) : Calls Tryd.prog 5 #[.string s, .string t] w fun e w' => e = .returned (.bool true) ∧ Below w.heap.size w w' := by
  have hs' : ¬ (200 : Int) < (s.size : Int) := by omega
  have ht' : ¬ (200 : Int) < (t.size : Int) := by omega
  have hz : s.size + t.size ≤ 9223372036854775807 := by omega
  have nx := fun W => next_any s (by unfold maxLen; omega) W
  obtain ⟨n, hn⟩ : ∃ n, nextB s = n := ⟨_, rfl⟩
  rw [hn] at nx
  have HN : Hid (nextB s = n) := hn
  clear hn
  go_enter Tryd.func5, Tryd.ntmps5
  go_wp2_with fail
  refine (nx _).mono ?_
  rintro e w1 ⟨rfl, hb1⟩
  go_wp2_with fail
  refine (awake_any _).mono ?_
  rintro e w2 ⟨rfl, hb2⟩
  have hb : Below w.heap.size w w2 := hb1.trans (hb2.mono hb1.size)
  clear hb1 hb2
  have F1 : Hid (n.toList.isEmpty = false → Op.bytesLess (s ++ t).toList n.toList = true) := by rw [← HN.out]; exact next_F1 s t
  have F2 : Hid (n.toList.isEmpty = false → Op.bytesLess s.toList n.toList = true) := by rw [← HN.out]; exact next_F2 s
  have F3 : Hid ((Op.bytesLess t.toList s.toList = false ∧ ¬ t.toList = s.toList) → ¬ (s.size ≤ t.size ∧ (t.extract 0 s.size).toList = s.toList) → n.toList.isEmpty = false ∧ Op.bytesLess t.toList n.toList = false) := by rw [← HN.out]; exact next_F3 s t
  go_wp2
  · rename_i h1 h2; rw [F1.out h1] at h2; cases h2
  · rename_i h1 h2 h3; rw [F2.out h1] at h3; cases h3
  · go_ret
    exact ⟨rfl, hb⟩
  · rename_i h1 h2 h3 h4 h5 h6
    have := (F3.out h4 (fun h => h6 h.2)).2
    go_ret
    rw [this]
    exact ⟨rfl, hb⟩
  · rename_i h1 h2 h3 h4 h5
    have := (F3.out h4 (fun h => h5 h.1)).2
    go_ret
    rw [this]
    exact ⟨rfl, hb⟩
  · go_ret
    exact ⟨rfl, hb⟩
  · go_ret
    exact ⟨rfl, hb⟩
  · rename_i h1 h4 h5 h6
    rw [(F3.out h4 (fun h => h6 h.2)).1] at h1
    cases h1
  · rename_i h1 h4 h5
    rw [(F3.out h4 (fun h => h5 h.1)).1] at h1
    cases h1
  · go_ret
    exact ⟨rfl, hb⟩
set_option maxRecDepth 20000 in
set_option maxHeartbeats 2000000 in
theorem law_next_sl (s t : ByteArray) (w : World) (hs : s.size ≤ 200) (ht : 200 < t.size) : Calls Tryd.prog 5 #[.string s, .string t] w fun e w' => e = .returned (.bool true) ∧ Below w.heap.size w w' := by
  have hs' : ¬ (200 : Int) < (s.size : Int) := by omega
  have ht' : (200 : Int) < (t.size : Int) := by omega
  obtain ⟨T, hT⟩ : ∃ T, t.extract 0 200 = T := ⟨_, rfl⟩
  have hTz : T.size ≤ 200 := by rw [← hT, ByteArray.size_extract]; omega
  have hz : s.size + T.size ≤ 9223372036854775807 := by omega
  have nx := fun W => next_any s (by unfold maxLen; omega) W
  obtain ⟨n, hn⟩ : ∃ n, nextB s = n := ⟨_, rfl⟩
  rw [hn] at nx
  have HN : Hid (nextB s = n) := hn
  clear hn
  go_enter Tryd.func5, Tryd.ntmps5
  go_wp2_with fail
  refine (nx _).mono ?_
  rintro e w1 ⟨rfl, hb1⟩
  go_wp2_with fail
  refine (awake_any _).mono ?_
  rintro e w2 ⟨rfl, hb2⟩
  have hb : Below w.heap.size w w2 := hb1.trans (hb2.mono hb1.size)
  clear hb1 hb2
  have F1 : Hid (n.toList.isEmpty = false → Op.bytesLess (s ++ T).toList n.toList = true) := by rw [← HN.out]; exact next_F1 s T
  have F2 : Hid (n.toList.isEmpty = false → Op.bytesLess s.toList n.toList = true) := by rw [← HN.out]; exact next_F2 s
  have F3 : Hid ((Op.bytesLess T.toList s.toList = false ∧ ¬ T.toList = s.toList) → ¬ (s.size ≤ T.size ∧ (T.extract 0 s.size).toList = s.toList) → n.toList.isEmpty = false ∧ Op.bytesLess T.toList n.toList = false) := by rw [← HN.out]; exact next_F3 s T
  go_wp2
  · rename_i h1 h2; rw [F1.out h1] at h2; cases h2
  · rename_i h1 h2 h3; rw [F2.out h1] at h3; cases h3
  · go_ret
    exact ⟨rfl, hb⟩
  · rename_i h1 h2 h3 h4 h5 h6
    have := (F3.out h4 (fun h => h6 h.2)).2
    go_ret
    rw [this]
    exact ⟨rfl, hb⟩
  · rename_i h1 h2 h3 h4 h5
    have := (F3.out h4 (fun h => h5 h.1)).2
    go_ret
    rw [this]
    exact ⟨rfl, hb⟩
  · go_ret
    exact ⟨rfl, hb⟩
  · go_ret
    exact ⟨rfl, hb⟩
  · rename_i h1 h4 h5 h6
    rw [(F3.out h4 (fun h => h6 h.2)).1] at h1
    cases h1
  · rename_i h1 h4 h5
    rw [(F3.out h4 (fun h => h5 h.1)).1] at h1
    cases h1
  · go_ret
    exact ⟨rfl, hb⟩
set_option maxRecDepth 20000 in
set_option maxHeartbeats 2000000 in
theorem law_next_ls (s t : ByteArray) (w : World) (hs : 200 < s.size) (ht : t.size ≤ 200) : Calls Tryd.prog 5 #[.string s, .string t] w fun e w' => e = .returned (.bool true) ∧ Below w.heap.size w w' := by
  have hs' : (200 : Int) < (s.size : Int) := by omega
  have ht' : ¬ (200 : Int) < (t.size : Int) := by omega
  obtain ⟨S, hS⟩ : ∃ S, s.extract 0 200 = S := ⟨_, rfl⟩
  have hSz : S.size ≤ 200 := by rw [← hS, ByteArray.size_extract]; omega
  have hz : S.size + t.size ≤ 9223372036854775807 := by omega
  have nx := fun W => next_any S (by unfold maxLen; omega) W
  obtain ⟨n, hn⟩ : ∃ n, nextB S = n := ⟨_, rfl⟩
  rw [hn] at nx
  have HN : Hid (nextB S = n) := hn
  clear hn
  go_enter Tryd.func5, Tryd.ntmps5
  go_wp2_with fail
  refine (nx _).mono ?_
  rintro e w1 ⟨rfl, hb1⟩
  go_wp2_with fail
  refine (awake_any _).mono ?_
  rintro e w2 ⟨rfl, hb2⟩
  have hb : Below w.heap.size w w2 := hb1.trans (hb2.mono hb1.size)
  clear hb1 hb2
  have F1 : Hid (n.toList.isEmpty = false → Op.bytesLess (S ++ t).toList n.toList = true) := by rw [← HN.out]; exact next_F1 S t
  have F2 : Hid (n.toList.isEmpty = false → Op.bytesLess S.toList n.toList = true) := by rw [← HN.out]; exact next_F2 S
  have F3 : Hid ((Op.bytesLess t.toList S.toList = false ∧ ¬ t.toList = S.toList) → ¬ (S.size ≤ t.size ∧ (t.extract 0 S.size).toList = S.toList) → n.toList.isEmpty = false ∧ Op.bytesLess t.toList n.toList = false) := by rw [← HN.out]; exact next_F3 S t
  go_wp2
  · rename_i h1 h2; rw [F1.out h1] at h2; cases h2
  · rename_i h1 h2 h3; rw [F2.out h1] at h3; cases h3
  · go_ret
    exact ⟨rfl, hb⟩
  · rename_i h1 h2 h3 h4 h5 h6
    have := (F3.out h4 (fun h => h6 h.2)).2
    go_ret
    rw [this]
    exact ⟨rfl, hb⟩
  · rename_i h1 h2 h3 h4 h5
    have := (F3.out h4 (fun h => h5 h.1)).2
    go_ret
    rw [this]
    exact ⟨rfl, hb⟩
  · go_ret
    exact ⟨rfl, hb⟩
  · go_ret
    exact ⟨rfl, hb⟩
  · rename_i h1 h4 h5 h6
    rw [(F3.out h4 (fun h => h6 h.2)).1] at h1
    cases h1
  · rename_i h1 h4 h5
    rw [(F3.out h4 (fun h => h5 h.1)).1] at h1
    cases h1
  · go_ret
    exact ⟨rfl, hb⟩
set_option maxRecDepth 20000 in
set_option maxHeartbeats 2000000 in
theorem law_next_ll (s t : ByteArray) (w : World) (hs : 200 < s.size) (ht : 200 < t.size) : Calls Tryd.prog 5 #[.string s, .string t] w fun e w' => e = .returned (.bool true) ∧ Below w.heap.size w w' := by
  have hs' : (200 : Int) < (s.size : Int) := by omega
  have ht' : (200 : Int) < (t.size : Int) := by omega
  obtain ⟨S, hS⟩ : ∃ S, s.extract 0 200 = S := ⟨_, rfl⟩
  have hSz : S.size ≤ 200 := by rw [← hS, ByteArray.size_extract]; omega
  obtain ⟨T, hT⟩ : ∃ T, t.extract 0 200 = T := ⟨_, rfl⟩
  have hTz : T.size ≤ 200 := by rw [← hT, ByteArray.size_extract]; omega
  have hz : S.size + T.size ≤ 9223372036854775807 := by omega
  have nx := fun W => next_any S (by unfold maxLen; omega) W
  obtain ⟨n, hn⟩ : ∃ n, nextB S = n := ⟨_, rfl⟩
  rw [hn] at nx
  have HN : Hid (nextB S = n) := hn
  clear hn
  go_enter Tryd.func5, Tryd.ntmps5
  go_wp2_with fail
  refine (nx _).mono ?_
  rintro e w1 ⟨rfl, hb1⟩
  go_wp2_with fail
  refine (awake_any _).mono ?_
  rintro e w2 ⟨rfl, hb2⟩
  have hb : Below w.heap.size w w2 := hb1.trans (hb2.mono hb1.size)
  clear hb1 hb2
  have F1 : Hid (n.toList.isEmpty = false → Op.bytesLess (S ++ T).toList n.toList = true) := by rw [← HN.out]; exact next_F1 S T
  have F2 : Hid (n.toList.isEmpty = false → Op.bytesLess S.toList n.toList = true) := by rw [← HN.out]; exact next_F2 S
  have F3 : Hid ((Op.bytesLess T.toList S.toList = false ∧ ¬ T.toList = S.toList) → ¬ (S.size ≤ T.size ∧ (T.extract 0 S.size).toList = S.toList) → n.toList.isEmpty = false ∧ Op.bytesLess T.toList n.toList = false) := by rw [← HN.out]; exact next_F3 S T
  go_wp2
  · rename_i h1 h2; rw [F1.out h1] at h2; cases h2
  · rename_i h1 h2 h3; rw [F2.out h1] at h3; cases h3
  · go_ret
    exact ⟨rfl, hb⟩
  · rename_i h1 h2 h3 h4 h5 h6
    have := (F3.out h4 (fun h => h6 h.2)).2
    go_ret
    rw [this]
    exact ⟨rfl, hb⟩
  · rename_i h1 h2 h3 h4 h5
    have := (F3.out h4 (fun h => h5 h.1)).2
    go_ret
    rw [this]
    exact ⟨rfl, hb⟩
  · go_ret
    exact ⟨rfl, hb⟩
  · go_ret
    exact ⟨rfl, hb⟩
  · rename_i h1 h4 h5 h6
    rw [(F3.out h4 (fun h => h6 h.2)).1] at h1
    cases h1
  · rename_i h1 h4 h5
    rw [(F3.out h4 (fun h => h5 h.1)).1] at h1
    cases h1
  · go_ret
    exact ⟨rfl, hb⟩
theorem law_next (s t : ByteArray) (w : World) : Calls Tryd.prog 5 #[.string s, .string t] w fun e w' => e = .returned (.bool true) ∧ Below w.heap.size w w' := by
  by_cases hs : s.size ≤ 200 <;> by_cases ht : t.size ≤ 200
  · exact law_next_ss s t w hs ht
  · exact law_next_sl s t w hs (by omega)
  · exact law_next_ls s t w (by omega) ht
  · exact law_next_ll s t w (by omega) (by omega)
end Go.Proofs.YtaacbcnpagpdnaaDoor
