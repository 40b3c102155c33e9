/- Statements that were parsed: their expressions are as they must be. -/
import Derived.Test.YtcniebkehekliaaGreatDoorWft
namespace Go.Proofs.YtcniebkehekliaaGreatDoor
open Go.RowKit Go.Shelf
structure SmOk (M : Sm) : Prop where
  v : M.k = 3 → Gt M.v
  ex : ∀ t, t ∈ M.ex → Gt t
  wh : (M.wh []).k = 0 ∨ Gt M.wh
  len : M.nm.length ≤ 40 ∧ M.ex.length ≤ 40 ∧ M.cl.length ≤ 40
theorem new_ok : SmOk Sm.new := ⟨fun h => (by cases h), fun t ht => (by cases ht), Or.inl rfl, Nat.zero_le _, Nat.zero_le _, Nat.zero_le _⟩
theorem whr_ok {ws : List Wd} {M : Sm} {s : PS} (h : (whrF ws M s).2.er = 0) : s.er = 0 ∧ (SmOk M → SmOk (whrF ws M s).1) := by
  unfold whrF at h ⊢
  split at h
  · rename_i h1
    rw [if_pos h1]
    exact ⟨expr_ep ws (takeP s) h, fun k => ⟨k.v, k.ex, Or.inr (expr_gt ws _ h).2, k.len⟩⟩
  · rename_i h1
    rw [if_neg h1]
    exact ⟨h, fun k => k⟩
theorem brk_er {ws : List Wd} {s : PS} (h : (brkF ws s).2.er = 0) : s.er = 0 := (mustQ_er (nameP_er (mustQ_er h).1).1).1
theorem cre_ok {ws : List Wd} {s : PS} : SmOk (creF ws Sm.new s).1 := by
  unfold creF
  split
  · exact ⟨fun h => (by cases h), new_ok.ex, new_ok.wh, new_ok.len⟩
  split
  · exact ⟨fun h => (by cases h), new_ok.ex, new_ok.wh, new_ok.len⟩
  · exact new_ok
theorem ins_ok {ws : List Wd} {s : PS} (h : (insF ws Sm.new s).2.er = 0) : SmOk (insF ws Sm.new s).1 := ⟨fun _ => (expr_gt ws _ h).2, new_ok.ex, new_ok.wh, new_ok.len⟩
theorem upd_ok {ws : List Wd} {s : PS} (h : (updF ws Sm.new s).2.er = 0) : SmOk (updF ws Sm.new s).1 := by
  unfold updF at h ⊢
  obtain ⟨h1, h2⟩ := whr_ok h
  refine h2 ?_
  have hg := com_gt (A := fun x : ByteArray × Et => Gt x.2) (m := (mustQ ws (nameP ws s) 2 [83, 69, 84]).ne) (named_ep (expr_ep ws) [61]) (named_gt (expr_ep ws) (fun u _ => expr_gt ws u) [61]) 33 [] (mustQ ws (nameP ws s) 2 [83, 69, 84]) rfl (fun x hx => by simp at hx) h1
  have hl := comF_len ws (namedF ws (exprF ws) [61]) 33 [] (mustQ ws (nameP ws s) 2 [83, 69, 84])
  simp only [List.length_nil] at hl
  refine ⟨fun h => (by cases h), fun t ht => ?_, new_ok.wh, ?_, ?_, Nat.zero_le _⟩
  · obtain ⟨x, hx, rfl⟩ := List.mem_map.1 ht
    exact hg.2 x hx
  · rw [List.length_map]; omega
  · rw [List.length_map]; omega
theorem del_ok {ws : List Wd} {s : PS} (h : (delF ws Sm.new s).2.er = 0) : SmOk (delF ws Sm.new s).1 := by
  unfold delF at h ⊢
  exact (whr_ok h).2 ⟨fun h => (by cases h), new_ok.ex, new_ok.wh, new_ok.len⟩
theorem col_ok {ws : List Wd} {M : Sm} {s : PS} (k : SmOk M) : SmOk (colF ws M s).1 ∧ (colF ws M s).1.k = M.k := by
  unfold colF
  split
  · exact ⟨k, rfl⟩
  split
  · exact ⟨⟨k.v, k.ex, k.wh, k.len⟩, rfl⟩
  · have hl := comF_len ws (pathF ws) 33 [] s
    simp only [List.length_nil] at hl
    exact ⟨⟨k.v, k.ex, k.wh, k.len.1, k.len.2.1, by show (comF ws (pathF ws) 33 [] s).1.length ≤ 40; omega⟩, rfl⟩
theorem src_ok {ws : List Wd} {M : Sm} {s : PS} (k : SmOk M) : SmOk (srcF ws M s).1 := by
  unfold srcF
  split
  · exact ⟨k.v, k.ex, k.wh, k.len⟩
  · exact ⟨k.v, k.ex, k.wh, k.len⟩
theorem ord_ok {ws : List Wd} {M : Sm} {s : PS} (h : (ordF ws M s).2.er = 0) : s.er = 0 ∧ (SmOk M → SmOk (ordF ws M s).1) := by
  unfold ordF at h ⊢
  split at h
  · rename_i h1
    rw [if_pos h1]
    refine ⟨?_, fun k => ⟨k.v, k.ex, k.wh, k.len⟩⟩
    have h2 : (pathF ws (mustQ ws (takeP s) 2 [66, 89])).2.er = 0 := by
      dsimp only at h
      split at h
      · exact h
      · exact h
    exact (mustQ_er (pathF_ep h2).1).1
  · rename_i h1
    rw [if_neg h1]
    exact ⟨h, fun k => k⟩
theorem num_er {ws : List Wd} {s : PS} (h : (numF ws s).2.er = 0) : s.er = 0 := by
  unfold numF at h
  split at h
  · split at h
    · exact h
    · exact absurd h (failP_er (by decide))
  · exact absurd h (failP_er (by decide))
theorem sld_ok {ws : List Wd} {s : PS} (h : (slD ws Sm.new s).2.er = 0) : SmOk (slD ws Sm.new s).1 := by
  unfold slD at h ⊢
  obtain ⟨h1, h2⟩ := ord_ok h
  refine h2 ?_
  unfold slW at h1 ⊢
  obtain ⟨h3, h4⟩ := whr_ok h1
  refine h4 ?_
  unfold slO
  refine src_ok ?_
  unfold slC
  exact (col_ok (M := { Sm.new with k := 6 }) ⟨fun h => (by cases h), new_ok.ex, new_ok.wh, new_ok.len⟩).1
theorem sel_ok {ws : List Wd} {s : PS} (h : (selF ws Sm.new s).2.er = 0) : SmOk (selF ws Sm.new s).1 := by
  unfold selF at h ⊢
  split at h
  · rename_i h1
    rw [if_pos h1]
    have h0 : (numF ws (takeP (slD ws Sm.new s).2)).2.er = 0 := h
    have h9 := num_er h0
    have k := sld_ok (ws := ws) (s := s) h9
    exact ⟨k.v, k.ex, k.wh, k.len⟩
  · rename_i h1
    rw [if_neg h1]
    exact sld_ok h
theorem stm_ok {ws : List Wd} {s : PS} (h : (stmF ws s).2.er = 0) : SmOk (stmF ws s).1 := by
  unfold stmF at h ⊢
  split at h
  · rename_i h1; rw [if_pos h1]; exact cre_ok
  rename_i h1; rw [if_neg h1]
  split at h
  · rename_i h2; rw [if_pos h2]; exact ins_ok h
  rename_i h2; rw [if_neg h2]
  split at h
  · rename_i h3; rw [if_pos h3]; exact upd_ok h
  rename_i h3; rw [if_neg h3]
  split at h
  · rename_i h4; rw [if_pos h4]; exact del_ok h
  rename_i h4; rw [if_neg h4]
  split at h
  · rename_i h5; rw [if_pos h5]; exact sel_ok h
  · exact absurd h (failP_er (by decide))
theorem end_er {ws : List Wd} {s : PS} (h : (endP ws s).er = 0) : s.er = 0 := by
  unfold endP at h
  split at h
  · exact h
  · exact absurd h (failP_er (by decide))
/- Of a text that is a statement: which it is. -/
theorem par_stm {l : List UInt8} (h : (parF l).2.2 = 0) : (wordsR l).2.2 = 0 ∧ (stmF (wordsR l).1 ps0).2.er = 0 ∧ (parF l).1 = (stmF (wordsR l).1 ps0).1 := by
  unfold parF at h ⊢
  split at h
  · rename_i h1; exact absurd h h1
  rename_i h1
  rw [if_neg h1]
  split at h
  · rename_i h2; exact absurd h h2
  rename_i h2
  rw [if_neg h2]
  exact ⟨Classical.not_not.1 h1, end_er (Classical.not_not.1 h2), rfl⟩
theorem par_ok {l : List UInt8} (h : (parF l).2.2 = 0) : SmOk (parF l).1 := by
  obtain ⟨-, h2, h3⟩ := par_stm h
  rw [h3]
  exact stm_ok h2
/- A text that begins as the laws write it. -/
def preL : List UInt8 := [68, 69, 76, 69, 84, 69, 32, 70, 82, 79, 77, 32, 116, 32, 87, 72, 69, 82, 69, 32]
theorem words_pre (l : List UInt8) : wdsL (preL ++ l) 0 = ((⟨2, [68, 69, 76, 69, 84, 69], 0⟩ : Wd) :: ⟨2, [70, 82, 79, 77], 7⟩ :: ⟨1, [116], 12⟩ :: ⟨2, [87, 72, 69, 82, 69], 14⟩ :: (wdsL l 20).1, (wdsL l 20).2) := by
  have e1 := wdsL_some (c := 68) (r := [69, 76, 69, 84, 69, 32, 70, 82, 79, 77, 32, 116, 32, 87, 72, 69, 82, 69, 32] ++ l) (k := 2) (n := 6) (t := [68, 69, 76, 69, 84, 69]) 0 (by decide) (by kernel_rfl)
  have e2 := wdsL_blank (c := 32) ([70, 82, 79, 77, 32, 116, 32, 87, 72, 69, 82, 69, 32] ++ l) 6 (by decide)
  have e3 := wdsL_some (c := 70) (r := [82, 79, 77, 32, 116, 32, 87, 72, 69, 82, 69, 32] ++ l) (k := 2) (n := 4) (t := [70, 82, 79, 77]) 7 (by decide) (by kernel_rfl)
  have e4 := wdsL_blank (c := 32) ([116, 32, 87, 72, 69, 82, 69, 32] ++ l) 11 (by decide)
  have e5 := wdsL_some (c := 116) (r := [32, 87, 72, 69, 82, 69, 32] ++ l) (k := 1) (n := 1) (t := [116]) 12 (by decide) (by kernel_rfl)
  have e6 := wdsL_blank (c := 32) ([87, 72, 69, 82, 69, 32] ++ l) 13 (by decide)
  have e7 := wdsL_some (c := 87) (r := [72, 69, 82, 69, 32] ++ l) (k := 2) (n := 5) (t := [87, 72, 69, 82, 69]) 14 (by decide) (by kernel_rfl)
  have e8 := wdsL_blank (c := 32) l 19 (by decide)
  simp only [List.cons_append, List.nil_append, List.drop_succ_cons, List.drop_zero, Nat.reduceAdd] at e1 e2 e3 e4 e5 e6 e7 e8
  show wdsL (68 :: 69 :: 76 :: 69 :: 84 :: 69 :: 32 :: 70 :: 82 :: 79 :: 77 :: 32 :: 116 :: 32 :: 87 :: 72 :: 69 :: 82 :: 69 :: 32 :: l) 0 = _
  rw [e1, e2, e3, e4, e5, e6, e7, e8]
theorem par_pre {l : List UInt8} (h : (parF (preL ++ l)).2.2 = 0) : Gt (parF (preL ++ l)).1.wh := by
  obtain ⟨h1, h2, h3⟩ := par_stm h
  rw [h3]
  obtain ⟨-, hw, -⟩ := wordsR_form h1
  rw [words_pre] at hw
  rw [hw] at h2 ⊢
  have e : ∀ ws : List Wd, stmF ((⟨2, [68, 69, 76, 69, 84, 69], 0⟩ : Wd) :: ⟨2, [70, 82, 79, 77], 7⟩ :: ⟨1, [116], 12⟩ :: ⟨2, [87, 72, 69, 82, 69], 14⟩ :: ws) ps0 = ({ Sm.new with k := 5, t := ⟨#[116]⟩, wh := (exprF ((⟨2, [68, 69, 76, 69, 84, 69], 0⟩ : Wd) :: ⟨2, [70, 82, 79, 77], 7⟩ :: ⟨1, [116], 12⟩ :: ⟨2, [87, 72, 69, 82, 69], 14⟩ :: ws) ⟨4, 0, 0, 0, 0⟩).1 }, (exprF ((⟨2, [68, 69, 76, 69, 84, 69], 0⟩ : Wd) :: ⟨2, [70, 82, 79, 77], 7⟩ :: ⟨1, [116], 12⟩ :: ⟨2, [87, 72, 69, 82, 69], 14⟩ :: ws) ⟨4, 0, 0, 0, 0⟩).2) := fun ws => by kernel_rfl
  simp only [List.cons_append] at h2 ⊢
  rw [e] at h2 ⊢
  exact (expr_gt _ _ h2).2
end Go.Proofs.YtcniebkehekliaaGreatDoor
