/- A look that is there already is added to a set (Set.Add). A look at a part, which is not there yet, is added to a set (Set.Add). A look at all of a table, which is not there yet, is added to a set (Set.Add). A look is added to a set (Set.Add): of any look. Sets of looks: all of them, and a set of its own (Set.All, Set.Clone). -/
import Derived.Test.YtfcenidepkjdcaaDoorXda
namespace Go.Proofs.YtfcenidepkjdcaaDoor
open Go.RowKit Go.Shelf
attribute [local go_sem] Oper.semAt_some
set_option maxRecDepth 100000 in
set_option maxHeartbeats 8000000 in
theorem add_no {w : World} {base bs : Nat} {v : Value} {l : List Rd} (r q : Rd) (hS : St w base bs v l) (_ : base ≤ w.heap.size) (_ : l.length ≤ 30) (hK : l.any (fun x => x.eq q || x.eq (whR q)) = true)
    (kpl : ∀ W, Calls Tryd.prog 26 #[.agg #[.string r.tb, .string r.fl, .string r.lo, .string r.hi]] W fun e w' => e = .returned (.agg #[.string q.tb, .string q.fl, .string q.lo, .string q.hi]) ∧ Below W.heap.size W w') :
    Calls Tryd.prog 11 #[.pointer (some ⟨bs, 0, none⟩), .agg #[.string r.tb, .string r.fl, .string r.lo, .string r.hi]] w fun e w' => e = .returned (.bool false) ∧ Below w.heap.size w w' := by
  have kwh : ∀ W, Calls Tryd.prog 20 #[.string q.tb] W fun e w' => e = .returned (.agg #[.string q.tb, .string ⟨#[]⟩, .string ⟨#[]⟩, .string ⟨#[]⟩]) ∧ Below W.heap.size W w' := fun W => whole_any q.tb W
  have ksm : ∀ (x : Rd) W zr zs, At4 W zr 0 q → At4 W zs 0 (whR q) → Calls Tryd.prog 28 #[.agg #[.string x.tb, .string x.fl, .string x.lo, .string x.hi], .pointer (some ⟨zr, 0, none⟩), .pointer (some ⟨zs, 0, none⟩)] W fun e w' => e = .returned (.bool (x.eq q || x.eq (whR q))) ∧ Below W.heap.size W w' := fun x W zr zs h1 h2 => same_any x q (whR q) zr zs W h1 h2
  obtain ⟨pv, cv, hv, hLk, hmx⟩ := own_lk hS.own
  have hlt := lt_of_row hS.row
  obtain ⟨w1, hw1⟩ : ∃ w1, w.alloc (.cells #[.string r.tb, .string r.fl, .string r.lo, .string r.hi] 25) = w1 := ⟨_, rfl⟩
  have hb1 : Below w.heap.size w w1 := by rw [← hw1]; exact (Below.refl _ w).alloc (Nat.le_refl _) _
  have hs1 : w1.heap.size = w.heap.size + 1 := by rw [← hw1]; simp
  have r1 : w1.heap[w.heap.size]? = some (.cells #[.string r.tb, .string r.fl, .string r.lo, .string r.hi] 25 (0, 0)) := by rw [← hw1]; exact heap_alloc_new _ _
  have a0 := cell_of_row w1 _ 0 _ _ _ r1
  have a1 := cell_of_row w1 _ 1 _ _ _ r1
  have a2 := cell_of_row w1 _ 2 _ _ _ r1
  have a3 := cell_of_row w1 _ 3 _ _ _ r1
  have HS : Hid (St w base bs v l ∧ Lk w l pv ∧ l.length ≤ maxLen ∧ v = .slice pv l.length cv) := ⟨hS, hLk, hmx, hv⟩
  have HK : Hid (l.any (fun x => x.eq q || x.eq (whR q)) = true) := hK
  clear hS hLk hmx hK hv
  go_enter Tryd.func11, Tryd.ntmps11
  go_wp2_with fail
  refine (kpl _).mono ?_
  rintro e W2 ⟨rfl, hb2⟩
  have r2 := (hb2.block _ (lt_of_row r1)).trans r1
  have hB2 : Below w.heap.size w W2 := hb1.trans (hb2.mono (by omega))
  obtain ⟨W3, hW3⟩ : ∃ W3, put W2 w.heap.size #[.string q.tb, .string q.fl, .string q.lo, .string q.hi] = W3 := ⟨_, rfl⟩
  have r3 : W3.heap[w.heap.size]? = some (.cells #[.string q.tb, .string q.fl, .string q.lo, .string q.hi] 25 (0, 0)) := by rw [← hW3]; exact put_row _ r2 rfl
  have hB3 : Below w.heap.size w W3 := by rw [← hW3]; exact put_below hB2 _ (Nat.le_refl _) _
  have HW3 : Hid (put W2 w.heap.size #[.string q.tb, .string q.fl, .string q.lo, .string q.hi] = W3 ∧ W2.heap[w.heap.size]? = some (.cells #[.string r.tb, .string r.fl, .string r.lo, .string r.hi] 25 (0, 0))) := ⟨hW3, r2⟩
  have b0 := cell_of_row W3 _ 0 _ _ _ r3
  clear hb1 hb2 hB2 hW3 r2 r1 a0 a1 a2 a3 kpl hs1 hw1
  go_wp2_with (refine wpList_put rfl 25 (.tmp 3) (.tmp 9) rfl rfl rfl rfl HW3.out.2 rfl info25 (one_rd q) ?_; rw [HW3.out.1])
  refine (kwh _).mono ?_
  rintro e W4 ⟨rfl, hb4⟩
  have r4 := (hb4.block _ (lt_of_row r3)).trans r3
  have hB4 : Below w.heap.size w W4 := hB3.trans (hb4.mono hB3.size)
  obtain ⟨W5, hW5⟩ : ∃ W5, W4.alloc (.cells #[.string q.tb, .string ⟨#[]⟩, .string ⟨#[]⟩, .string ⟨#[]⟩] 25) = W5 := ⟨_, rfl⟩
  have hb5 : Below W4.heap.size W4 W5 := by rw [← hW5]; exact (Below.refl _ W4).alloc (Nat.le_refl _) _
  have r5 := (hb5.block _ (lt_of_row r4)).trans r4
  have t5 : W5.heap[W4.heap.size]? = some (.cells #[.string q.tb, .string ⟨#[]⟩, .string ⟨#[]⟩, .string ⟨#[]⟩] 25 (0, 0)) := by rw [← hW5]; exact heap_alloc_new _ _
  have hB5 : Below w.heap.size w W5 := hB4.trans (hb5.mono hB4.size)
  have s5 := HS.out.1.later hB5
  have c0 := cell_of_row W5 _ 0 _ _ _ s5.row
  rw [HS.out.2.2.2] at c0
  have hz5g : w.heap.size < W4.heap.size := lt_of_row r4
  have khs := has_same (w := W5) (l := l) (pa := pv) (c := cv) (zr := w.heap.size) (zs := W4.heap.size) (fun x => x.eq q || x.eq (whR q)) (HS.out.2.1.later hB5) HS.out.2.2.1 (fun x W _ hbW => ksm x W _ _ (at4_row ((hbW.block _ (lt_of_row r5)).trans r5)) (at4_row (r := whR q) ((hbW.block _ (lt_of_row t5)).trans t5)))
  rw [HK.out] at khs
  have HW5 : Hid (W4.alloc (.cells #[.string q.tb, .string ⟨#[]⟩, .string ⟨#[]⟩, .string ⟨#[]⟩] 25) = W5) := hW5
  rw [← hW5] at c0
  clear hb5 hb4 hB3 hB4 r3 r4 b0 s5 HW3 hW5
  go_wp2_with fail
  rw [HW5.out]
  refine khs.mono ?_
  rintro e W6 ⟨rfl, hb6⟩
  have hB6 : Below w.heap.size w W6 := hB5.trans (hb6.mono hB5.size)
  have r6 := (hb6.block _ (lt_of_row r5)).trans r5
  have t6 := (hb6.block _ (lt_of_row t5)).trans t5
  have s6 := HS.out.1.later hB6
  clear hb6 hB5 r5 t5 khs c0 ksm kwh HW5
  go_wp2
  go_ret
  exact ⟨rfl, hB6⟩
end Go.Proofs.YtfcenidepkjdcaaDoor
namespace Go.Proofs.YtfcenidepkjdcaaDoor
open Go.RowKit Go.Shelf
attribute [local go_sem] Oper.semAt_some
attribute [local go_sem] eql25
set_option maxRecDepth 100000 in
set_option maxHeartbeats 8000000 in
theorem add_part {w : World} {base bs : Nat} {v : Value} {l : List Rd} (r q : Rd) (hS : St w base bs v l) (hbs : base ≤ w.heap.size) (h30 : l.length ≤ 30) (hK : l.any (fun x => x.eq q || x.eq (whR q)) = false) (hE : q.eq (whR q) = false)
    (kpl : ∀ W, Calls Tryd.prog 26 #[.agg #[.string r.tb, .string r.fl, .string r.lo, .string r.hi]] W fun e w' => e = .returned (.agg #[.string q.tb, .string q.fl, .string q.lo, .string q.hi]) ∧ Below W.heap.size W w') :
    Calls Tryd.prog 11 #[.pointer (some ⟨bs, 0, none⟩), .agg #[.string r.tb, .string r.fl, .string r.lo, .string r.hi]] w fun e w' => ∃ v', e = .returned (.bool true) ∧ St w' base bs v' (l ++ [q]) ∧ Ch w w' bs v v' := by
  have kwh : ∀ W, Calls Tryd.prog 20 #[.string q.tb] W fun e w' => e = .returned (.agg #[.string q.tb, .string ⟨#[]⟩, .string ⟨#[]⟩, .string ⟨#[]⟩]) ∧ Below W.heap.size W w' := fun W => whole_any q.tb W
  have ksm : ∀ (x : Rd) W zr zs, At4 W zr 0 q → At4 W zs 0 (whR q) → Calls Tryd.prog 28 #[.agg #[.string x.tb, .string x.fl, .string x.lo, .string x.hi], .pointer (some ⟨zr, 0, none⟩), .pointer (some ⟨zs, 0, none⟩)] W fun e w' => e = .returned (.bool (x.eq q || x.eq (whR q))) ∧ Below W.heap.size W w' := fun x W zr zs h1 h2 => same_any x q (whR q) zr zs W h1 h2
  obtain ⟨pv, cv, hv, hLk, hmx⟩ := own_lk hS.own
  have hlt := lt_of_row hS.row
  obtain ⟨w1, hw1⟩ : ∃ w1, w.alloc (.cells #[.string r.tb, .string r.fl, .string r.lo, .string r.hi] 25) = w1 := ⟨_, rfl⟩
  have hb1 : Below w.heap.size w w1 := by rw [← hw1]; exact (Below.refl _ w).alloc (Nat.le_refl _) _
  have hs1 : w1.heap.size = w.heap.size + 1 := by rw [← hw1]; simp
  have r1 : w1.heap[w.heap.size]? = some (.cells #[.string r.tb, .string r.fl, .string r.lo, .string r.hi] 25 (0, 0)) := by rw [← hw1]; exact heap_alloc_new _ _
  have a0 := cell_of_row w1 _ 0 _ _ _ r1
  have a1 := cell_of_row w1 _ 1 _ _ _ r1
  have a2 := cell_of_row w1 _ 2 _ _ _ r1
  have a3 := cell_of_row w1 _ 3 _ _ _ r1
  have HS : Hid (St w base bs v l ∧ Lk w l pv ∧ l.length ≤ maxLen ∧ v = .slice pv l.length cv) := ⟨hS, hLk, hmx, hv⟩
  have HK : Hid (l.any (fun x => x.eq q || x.eq (whR q)) = false) := hK
  clear hS hLk hmx hK hv
  go_enter Tryd.func11, Tryd.ntmps11
  go_wp2_with fail
  refine (kpl _).mono ?_
  rintro e W2 ⟨rfl, hb2⟩
  have r2 := (hb2.block _ (lt_of_row r1)).trans r1
  have hB2 : Below w.heap.size w W2 := hb1.trans (hb2.mono (by omega))
  obtain ⟨W3, hW3⟩ : ∃ W3, put W2 w.heap.size #[.string q.tb, .string q.fl, .string q.lo, .string q.hi] = W3 := ⟨_, rfl⟩
  have r3 : W3.heap[w.heap.size]? = some (.cells #[.string q.tb, .string q.fl, .string q.lo, .string q.hi] 25 (0, 0)) := by rw [← hW3]; exact put_row _ r2 rfl
  have hB3 : Below w.heap.size w W3 := by rw [← hW3]; exact put_below hB2 _ (Nat.le_refl _) _
  have HW3 : Hid (put W2 w.heap.size #[.string q.tb, .string q.fl, .string q.lo, .string q.hi] = W3 ∧ W2.heap[w.heap.size]? = some (.cells #[.string r.tb, .string r.fl, .string r.lo, .string r.hi] 25 (0, 0))) := ⟨hW3, r2⟩
  have b0 := cell_of_row W3 _ 0 _ _ _ r3
  clear hb1 hb2 hB2 hW3 r2 r1 a0 a1 a2 a3 kpl hs1 hw1
  go_wp2_with (refine wpList_put rfl 25 (.tmp 3) (.tmp 9) rfl rfl rfl rfl HW3.out.2 rfl info25 (one_rd q) ?_; rw [HW3.out.1])
  refine (kwh _).mono ?_
  rintro e W4 ⟨rfl, hb4⟩
  have r4 := (hb4.block _ (lt_of_row r3)).trans r3
  have hB4 : Below w.heap.size w W4 := hB3.trans (hb4.mono hB3.size)
  obtain ⟨W5, hW5⟩ : ∃ W5, W4.alloc (.cells #[.string q.tb, .string ⟨#[]⟩, .string ⟨#[]⟩, .string ⟨#[]⟩] 25) = W5 := ⟨_, rfl⟩
  have hb5 : Below W4.heap.size W4 W5 := by rw [← hW5]; exact (Below.refl _ W4).alloc (Nat.le_refl _) _
  have r5 := (hb5.block _ (lt_of_row r4)).trans r4
  have t5 : W5.heap[W4.heap.size]? = some (.cells #[.string q.tb, .string ⟨#[]⟩, .string ⟨#[]⟩, .string ⟨#[]⟩] 25 (0, 0)) := by rw [← hW5]; exact heap_alloc_new _ _
  have hB5 : Below w.heap.size w W5 := hB4.trans (hb5.mono hB4.size)
  have s5 := HS.out.1.later hB5
  have c0 := cell_of_row W5 _ 0 _ _ _ s5.row
  rw [HS.out.2.2.2] at c0
  have hz5g : w.heap.size < W4.heap.size := lt_of_row r4
  have khs := has_same (w := W5) (l := l) (pa := pv) (c := cv) (zr := w.heap.size) (zs := W4.heap.size) (fun x => x.eq q || x.eq (whR q)) (HS.out.2.1.later hB5) HS.out.2.2.1 (fun x W _ hbW => ksm x W _ _ (at4_row ((hbW.block _ (lt_of_row r5)).trans r5)) (at4_row (r := whR q) ((hbW.block _ (lt_of_row t5)).trans t5)))
  rw [HK.out] at khs
  have HW5 : Hid (W4.alloc (.cells #[.string q.tb, .string ⟨#[]⟩, .string ⟨#[]⟩, .string ⟨#[]⟩] 25) = W5) := hW5
  rw [← hW5] at c0
  clear hb5 hb4 hB3 hB4 r3 r4 b0 s5 HW3 hW5
  go_wp2_with fail
  rw [HW5.out]
  refine khs.mono ?_
  rintro e W6 ⟨rfl, hb6⟩
  have hB6 : Below w.heap.size w W6 := hB5.trans (hb6.mono hB5.size)
  have r6 := (hb6.block _ (lt_of_row r5)).trans r5
  have t6 := (hb6.block _ (lt_of_row t5)).trans t5
  have s6 := HS.out.1.later hB6
  clear hb6 hB5 r5 t5 khs c0 ksm kwh HW5
  have hE1 : ((q.tb.toList == q.tb.toList) && ((q.fl.toList == (⟨#[]⟩ : ByteArray).toList) && ((q.lo.toList == (⟨#[]⟩ : ByteArray).toList) && (q.hi.toList == (⟨#[]⟩ : ByteArray).toList)))) = false := hE
  have heq := fun w => eql25 q.tb q.fl q.lo q.hi q.tb ⟨#[]⟩ ⟨#[]⟩ ⟨#[]⟩ w
  rw [hE1] at heq
  have d0 := cell_of_row W6 _ 0 _ _ _ r6
  have d1 := cell_of_row W6 _ 1 _ _ _ r6
  have d2 := cell_of_row W6 _ 2 _ _ _ r6
  have d3 := cell_of_row W6 _ 3 _ _ _ r6
  have f0 := cell_of_row W6 _ 0 _ _ _ t6
  have f1 := cell_of_row W6 _ 1 _ _ _ t6
  have f2 := cell_of_row W6 _ 2 _ _ _ t6
  have f3 := cell_of_row W6 _ 3 _ _ _ t6
  obtain ⟨i0, hi, hz0, hz1, hz2⟩ := info_parts info25c
  have own6 := s6.own
  have ne6 := s6.ne
  have row6 := s6.row
  rw [HS.out.2.2.2] at own6 ne6 row6
  have e0 := cell_of_row W6 _ 0 _ _ _ row6
  have e1 : ∀ o, (W6.alloc o).cell? ⟨bs, 0, none⟩ = some (.slice pv l.length cv) := fun o => (World.cell?_of_block (a := ⟨bs, 0, none⟩) (Below.heap_alloc W6 o bs (lt_of_row row6))).trans e0
  have hq1 : ∀ u ∈ q.cs, u.oneCell' = true := rows_one [q]
  have h6s : base ≤ W6.heap.size := Nat.le_trans hbs hB6.size
  have hm1 : l.length + 1 ≤ maxLen := by unfold maxLen; omega
  have hm2 : (l.length + 1) * 64 ≤ 140737488355328 := by omega
  have H6 : Hid (Below w.heap.size w W6 ∧ St W6 base bs v l) := ⟨hB6, s6⟩
  clear hE1 hE hB6 s6
  go_wp2_with fail
  go_region_law (refine step_append_lies _ (by rfl) (.tmp 35) (.tmp 37) 36 (by rfl) base 25 i0 _ 4 64 Tryd.underlying36 hi hz0 hz1 hz2 (by rfl) (by decide) (.slice pv l.length cv) l.length _ (by rfl) (own6.alloc _) ⟨W6.heap.size, 0, none⟩ 1 1 q.cs (by rfl) (by rfl) (World.news_of_block (heap_alloc_new W6 _)) hq1 (by decide) hm1 hm2 (by simp; omega) (W6.heap.size + 1) (by simp) ?_; intro g1 cap1 w2 hown2 hgr2 hat2 hlt2; have e2 : w2.cell? ⟨bs, 0, none⟩ = some (.slice pv l.length cv) := (hgr2.cell_far ⟨bs, 0, none⟩ (by simp; exact Nat.lt_succ_of_lt (lt_of_row row6)) (fun e => ne6 e.symm)).trans (e1 _); have f2 : w2.frozen? ⟨bs, 0, none⟩ = false := (hgr2.frozen_far ⟨bs, 0, none⟩ (by simp; exact Nat.lt_succ_of_lt (lt_of_row row6)) (fun e => ne6 e.symm)).trans (frozen_of_row _ _ 0 _ _ ((Below.heap_alloc W6 _ bs (lt_of_row row6)).trans row6)))
  all_goals
    have hfin := H6.out.2.app q (by rw [HS.out.2.2.2]; exact hgr2) hown2 (by rw [HS.out.2.2.2]; exact hat2)
    clear hown2 hgr2 hat2 hlt2 e2 f2 e0 e1
    obtain ⟨W9, hW9⟩ : ∃ W9, w2.setCell ⟨bs, 0, none⟩ (.slice (some ⟨g1, 0, none⟩) (l.length + 1) cap1) = W9 := ⟨_, rfl⟩
    rw [hW9] at hfin ⊢
    have HFI : Hid (St W9 base bs (.slice (some ⟨g1, 0, none⟩) (l.length + 1) cap1) (l ++ [q]) ∧ Ch W6 W9 bs v (.slice (some ⟨g1, 0, none⟩) (l.length + 1) cap1)) := hfin
    clear hfin hW9
    go_wp2
    go_ret
    exact ⟨_, rfl, HFI.out.1, Ch.below H6.out.1 HFI.out.2⟩
end Go.Proofs.YtfcenidepkjdcaaDoor
namespace Go.Proofs.YtfcenidepkjdcaaDoor
open Go.RowKit Go.Shelf
attribute [local go_sem] Oper.semAt_some
attribute [local go_sem] eql25
set_option maxRecDepth 100000 in
set_option maxHeartbeats 8000000 in
theorem add_whole {w : World} {base bs : Nat} {v : Value} {l : List Rd} (r q : Rd) (hS : St w base bs v l) (hbs : base ≤ w.heap.size) (h30 : l.length ≤ 30) (hK : l.any (fun x => x.eq q || x.eq (whR q)) = false) (hE : q.eq (whR q) = true)
    (kpl : ∀ W, Calls Tryd.prog 26 #[.agg #[.string r.tb, .string r.fl, .string r.lo, .string r.hi]] W fun e w' => e = .returned (.agg #[.string q.tb, .string q.fl, .string q.lo, .string q.hi]) ∧ Below W.heap.size W w') :
    Calls Tryd.prog 11 #[.pointer (some ⟨bs, 0, none⟩), .agg #[.string r.tb, .string r.fl, .string r.lo, .string r.hi]] w fun e w' => ∃ v', e = .returned (.bool true) ∧ St w' base bs v' ((l.filter (fun x => !(x.tb.toList == q.tb.toList))) ++ [q]) ∧ Ch w w' bs v v' := by
  have kwh : ∀ W, Calls Tryd.prog 20 #[.string q.tb] W fun e w' => e = .returned (.agg #[.string q.tb, .string ⟨#[]⟩, .string ⟨#[]⟩, .string ⟨#[]⟩]) ∧ Below W.heap.size W w' := fun W => whole_any q.tb W
  have ksm : ∀ (x : Rd) W zr zs, At4 W zr 0 q → At4 W zs 0 (whR q) → Calls Tryd.prog 28 #[.agg #[.string x.tb, .string x.fl, .string x.lo, .string x.hi], .pointer (some ⟨zr, 0, none⟩), .pointer (some ⟨zs, 0, none⟩)] W fun e w' => e = .returned (.bool (x.eq q || x.eq (whR q))) ∧ Below W.heap.size W w' := fun x W zr zs h1 h2 => same_any x q (whR q) zr zs W h1 h2
  obtain ⟨pv, cv, hv, hLk, hmx⟩ := own_lk hS.own
  have hlt := lt_of_row hS.row
  obtain ⟨w1, hw1⟩ : ∃ w1, w.alloc (.cells #[.string r.tb, .string r.fl, .string r.lo, .string r.hi] 25) = w1 := ⟨_, rfl⟩
  have hb1 : Below w.heap.size w w1 := by rw [← hw1]; exact (Below.refl _ w).alloc (Nat.le_refl _) _
  have hs1 : w1.heap.size = w.heap.size + 1 := by rw [← hw1]; simp
  have r1 : w1.heap[w.heap.size]? = some (.cells #[.string r.tb, .string r.fl, .string r.lo, .string r.hi] 25 (0, 0)) := by rw [← hw1]; exact heap_alloc_new _ _
  have a0 := cell_of_row w1 _ 0 _ _ _ r1
  have a1 := cell_of_row w1 _ 1 _ _ _ r1
  have a2 := cell_of_row w1 _ 2 _ _ _ r1
  have a3 := cell_of_row w1 _ 3 _ _ _ r1
  have HS : Hid (St w base bs v l ∧ Lk w l pv ∧ l.length ≤ maxLen ∧ v = .slice pv l.length cv) := ⟨hS, hLk, hmx, hv⟩
  have HK : Hid (l.any (fun x => x.eq q || x.eq (whR q)) = false) := hK
  clear hS hLk hmx hK hv
  go_enter Tryd.func11, Tryd.ntmps11
  go_wp2_with fail
  refine (kpl _).mono ?_
  rintro e W2 ⟨rfl, hb2⟩
  have r2 := (hb2.block _ (lt_of_row r1)).trans r1
  have hB2 : Below w.heap.size w W2 := hb1.trans (hb2.mono (by omega))
  obtain ⟨W3, hW3⟩ : ∃ W3, put W2 w.heap.size #[.string q.tb, .string q.fl, .string q.lo, .string q.hi] = W3 := ⟨_, rfl⟩
  have r3 : W3.heap[w.heap.size]? = some (.cells #[.string q.tb, .string q.fl, .string q.lo, .string q.hi] 25 (0, 0)) := by rw [← hW3]; exact put_row _ r2 rfl
  have hB3 : Below w.heap.size w W3 := by rw [← hW3]; exact put_below hB2 _ (Nat.le_refl _) _
  have HW3 : Hid (put W2 w.heap.size #[.string q.tb, .string q.fl, .string q.lo, .string q.hi] = W3 ∧ W2.heap[w.heap.size]? = some (.cells #[.string r.tb, .string r.fl, .string r.lo, .string r.hi] 25 (0, 0))) := ⟨hW3, r2⟩
  have b0 := cell_of_row W3 _ 0 _ _ _ r3
  clear hb1 hb2 hB2 hW3 r2 r1 a0 a1 a2 a3 kpl hs1 hw1
  go_wp2_with (refine wpList_put rfl 25 (.tmp 3) (.tmp 9) rfl rfl rfl rfl HW3.out.2 rfl info25 (one_rd q) ?_; rw [HW3.out.1])
  refine (kwh _).mono ?_
  rintro e W4 ⟨rfl, hb4⟩
  have r4 := (hb4.block _ (lt_of_row r3)).trans r3
  have hB4 : Below w.heap.size w W4 := hB3.trans (hb4.mono hB3.size)
  obtain ⟨W5, hW5⟩ : ∃ W5, W4.alloc (.cells #[.string q.tb, .string ⟨#[]⟩, .string ⟨#[]⟩, .string ⟨#[]⟩] 25) = W5 := ⟨_, rfl⟩
  have hb5 : Below W4.heap.size W4 W5 := by rw [← hW5]; exact (Below.refl _ W4).alloc (Nat.le_refl _) _
  have r5 := (hb5.block _ (lt_of_row r4)).trans r4
  have t5 : W5.heap[W4.heap.size]? = some (.cells #[.string q.tb, .string ⟨#[]⟩, .string ⟨#[]⟩, .string ⟨#[]⟩] 25 (0, 0)) := by rw [← hW5]; exact heap_alloc_new _ _
  have hB5 : Below w.heap.size w W5 := hB4.trans (hb5.mono hB4.size)
  have s5 := HS.out.1.later hB5
  have c0 := cell_of_row W5 _ 0 _ _ _ s5.row
  rw [HS.out.2.2.2] at c0
  have hz5g : w.heap.size < W4.heap.size := lt_of_row r4
  have khs := has_same (w := W5) (l := l) (pa := pv) (c := cv) (zr := w.heap.size) (zs := W4.heap.size) (fun x => x.eq q || x.eq (whR q)) (HS.out.2.1.later hB5) HS.out.2.2.1 (fun x W _ hbW => ksm x W _ _ (at4_row ((hbW.block _ (lt_of_row r5)).trans r5)) (at4_row (r := whR q) ((hbW.block _ (lt_of_row t5)).trans t5)))
  rw [HK.out] at khs
  have HW5 : Hid (W4.alloc (.cells #[.string q.tb, .string ⟨#[]⟩, .string ⟨#[]⟩, .string ⟨#[]⟩] 25) = W5) := hW5
  rw [← hW5] at c0
  clear hb5 hb4 hB3 hB4 r3 r4 b0 s5 HW3 hW5
  go_wp2_with fail
  rw [HW5.out]
  refine khs.mono ?_
  rintro e W6 ⟨rfl, hb6⟩
  have hB6 : Below w.heap.size w W6 := hB5.trans (hb6.mono hB5.size)
  have r6 := (hb6.block _ (lt_of_row r5)).trans r5
  have t6 := (hb6.block _ (lt_of_row t5)).trans t5
  have s6 := HS.out.1.later hB6
  clear hb6 hB5 r5 t5 khs c0 ksm kwh HW5
  have hE1 : ((q.tb.toList == q.tb.toList) && ((q.fl.toList == (⟨#[]⟩ : ByteArray).toList) && ((q.lo.toList == (⟨#[]⟩ : ByteArray).toList) && (q.hi.toList == (⟨#[]⟩ : ByteArray).toList)))) = true := hE
  have heq := fun w => eql25 q.tb q.fl q.lo q.hi q.tb ⟨#[]⟩ ⟨#[]⟩ ⟨#[]⟩ w
  rw [hE1] at heq
  have d0 := cell_of_row W6 _ 0 _ _ _ r6
  have d1 := cell_of_row W6 _ 1 _ _ _ r6
  have d2 := cell_of_row W6 _ 2 _ _ _ r6
  have d3 := cell_of_row W6 _ 3 _ _ _ r6
  have f0 := cell_of_row W6 _ 0 _ _ _ t6
  have f1 := cell_of_row W6 _ 1 _ _ _ t6
  have f2 := cell_of_row W6 _ 2 _ _ _ t6
  have f3 := cell_of_row W6 _ 3 _ _ _ t6
  have e0 := cell_of_row W6 _ 0 _ _ _ s6.row
  have hvz : v.ownBlock ≠ some w.heap.size := fun e => by have := (HS.out.1.own.lt _ e).2; omega
  have kdl := del_any q (at4_row r6) hvz s6.own
  rw [HS.out.2.2.2] at e0 kdl
  have H6 : Hid (Below w.heap.size w W6 ∧ St W6 base bs v l ∧ W6.heap[w.heap.size]? = some (.cells #[.string q.tb, .string q.fl, .string q.lo, .string q.hi] 25 (0, 0)) ∧ v.ownBlock ≠ some w.heap.size) := ⟨hB6, s6, r6, hvz⟩
  clear hE1 hE hB6 s6 t6 r6 hvz
  go_wp2_with fail
  refine kdl.mono ?_
  rintro e W7 ⟨v7, rfl, hown7, hgr7, hat7⟩
  rw [← HS.out.2.2.2] at hgr7 hat7
  obtain ⟨p7, c7, rfl⟩ := own_len7 hown7
  obtain ⟨k7, hk7⟩ : ∃ k7, (l.filter (fun x => !(x.tb.toList == q.tb.toList))) = k7 := ⟨_, rfl⟩
  rw [hk7] at hown7 ⊢
  rw [hk7] at hat7
  have hkl : k7.length ≤ 30 := by rw [← hk7]; exact Nat.le_trans (List.length_filter_le _ _) h30
  have row7 := (hgr7.block bs (lt_of_row H6.out.2.1.row) (fun e => H6.out.2.1.ne e.symm)).trans H6.out.2.1.row
  have r7 := (hgr7.block w.heap.size (lt_of_row H6.out.2.2.1) (fun e => H6.out.2.2.2 e.symm)).trans H6.out.2.2.1
  have u0 := cell_of_row W7 _ 0 _ _ _ row7
  have u1 := frozen_of_row W7 _ 0 _ _ row7
  obtain ⟨W8, hW8⟩ : ∃ W8, W7.setCell ⟨bs, 0, none⟩ (.slice p7 k7.length c7) = W8 := ⟨_, rfl⟩
  have hst : St W8 base bs (.slice p7 k7.length c7) k7 ∧ Ch W6 W8 bs v (.slice p7 k7.length c7) := by
    rw [← hW8]
    exact St.store H6.out.2.1 hown7 hgr7 hat7
  have r8 : W8.heap[w.heap.size]? = some (.cells #[.string q.tb, .string q.fl, .string q.lo, .string q.hi] 25 (0, 0)) := by rw [← hW8]; exact (Below.heap_setCell _ _ _ _ (by show w.heap.size ≠ bs; omega)).trans r7
  have row6 := hst.1.row
  have own6 := hst.1.own
  have ne6 := hst.1.ne
  have e0 := cell_of_row W8 _ 0 _ _ _ row6
  have g0 := cell_of_row W8 _ 0 _ _ _ r8
  have g1 := cell_of_row W8 _ 1 _ _ _ r8
  have g2 := cell_of_row W8 _ 2 _ _ _ r8
  have g3 := cell_of_row W8 _ 3 _ _ _ r8
  have e1 : ∀ o, (W8.alloc o).cell? ⟨bs, 0, none⟩ = some (.slice p7 k7.length c7) := fun o => (World.cell?_of_block (a := ⟨bs, 0, none⟩) (Below.heap_alloc W8 o bs (lt_of_row row6))).trans e0
  have hq1 : ∀ u ∈ q.cs, u.oneCell' = true := rows_one [q]
  have h6s : base ≤ W8.heap.size := Nat.le_trans (Nat.le_trans hbs H6.out.1.size) hst.2.size
  have hm1 : k7.length + 1 ≤ maxLen := by unfold maxLen; omega
  have hm2 : (k7.length + 1) * 64 ≤ 140737488355328 := by omega
  have HK7 : Hid ((l.filter (fun x => !(x.tb.toList == q.tb.toList))) = k7) := hk7
  have H8 : Hid (St W8 base bs (.slice p7 k7.length c7) k7 ∧ Ch W6 W8 bs v (.slice p7 k7.length c7)) := hst
  obtain ⟨i0, hi, hz0, hz1, hz2⟩ := info_parts info25c
  clear hst r7 r8 hown7 hgr7 hat7 hk7 kdl d0 d1 d2 d3 f0 f1 f2 f3 heq row7
  go_wp2_with fail
  go_region_law (refine step_append_lies _ (by rfl) (.tmp 35) (.tmp 37) 36 (by rfl) base 25 i0 _ 4 64 Tryd.underlying36 hi hz0 hz1 hz2 (by rfl) (by decide) (.slice p7 k7.length c7) k7.length _ (by rfl) (own6.alloc _) ⟨W8.heap.size, 0, none⟩ 1 1 q.cs (by rfl) (by rfl) (World.news_of_block (heap_alloc_new W8 _)) hq1 (by decide) hm1 hm2 (by simp; omega) (W8.heap.size + 1) (by simp) ?_; intro g1 cap1 w2 hown2 hgr2 hat2 hlt2; have e2 : w2.cell? ⟨bs, 0, none⟩ = some (.slice p7 k7.length c7) := (hgr2.cell_far ⟨bs, 0, none⟩ (by simp; exact Nat.lt_succ_of_lt (lt_of_row row6)) (fun e => ne6 e.symm)).trans (e1 _); have f2 : w2.frozen? ⟨bs, 0, none⟩ = false := (hgr2.frozen_far ⟨bs, 0, none⟩ (by simp; exact Nat.lt_succ_of_lt (lt_of_row row6)) (fun e => ne6 e.symm)).trans (frozen_of_row _ _ 0 _ _ ((Below.heap_alloc W8 _ bs (lt_of_row row6)).trans row6)))
  all_goals
    have hfin := H8.out.1.app q hgr2 hown2 hat2
    clear hown2 hgr2 hat2 hlt2 e2 f2 e0 e1
    obtain ⟨W9, hW9⟩ : ∃ W9, w2.setCell ⟨bs, 0, none⟩ (.slice (some ⟨g1, 0, none⟩) (k7.length + 1) cap1) = W9 := ⟨_, rfl⟩
    rw [hW9] at hfin ⊢
    have HFI : Hid (St W9 base bs (.slice (some ⟨g1, 0, none⟩) (k7.length + 1) cap1) (k7 ++ [q]) ∧ Ch W8 W9 bs (.slice p7 k7.length c7) (.slice (some ⟨g1, 0, none⟩) (k7.length + 1) cap1)) := hfin
    clear hfin hW9
    go_wp2
    go_ret
    exact ⟨_, rfl, by rw [HK7.out]; exact HFI.out.1, Ch.below H6.out.1 (H8.out.2.trans HFI.out.2)⟩
end Go.Proofs.YtfcenidepkjdcaaDoor
namespace Go.Proofs.YtfcenidepkjdcaaDoor
open Go.RowKit Go.Shelf
attribute [local go_sem] Oper.semAt_some
theorem add_any {w : World} {base bs : Nat} {v : Value} {l : List Rd} (r : Rd) (hS : St w base bs v l) (hbs : base ≤ w.heap.size) (h30 : l.length ≤ 30) :
    Calls Tryd.prog 11 #[.pointer (some ⟨bs, 0, none⟩), .agg #[.string r.tb, .string r.fl, .string r.lo, .string r.hi]] w fun e w' => ∃ v', e = .returned (.bool (!knows l r)) ∧ St w' base bs v' (if knows l r = true then l else addL l r) ∧ Ch w w' bs v v' := by
  have kpl : ∀ W, Calls Tryd.prog 26 #[.agg #[.string r.tb, .string r.fl, .string r.lo, .string r.hi]] W fun e w' => e = .returned (.agg #[.string (plR r).tb, .string (plR r).fl, .string (plR r).lo, .string (plR r).hi]) ∧ Below W.heap.size W w' := fun W => by
    have := plain_any r.tb r.fl r.lo r.hi W
    rw [plR_A] at this
    exact this
  have hw : whR (plR r) = whR r := by unfold whR; rw [plR_tb]
  have ht := plR_tb r
  cases hk : knows l r with
  | true =>
    refine (add_no r (plR r) hS hbs h30 (by rw [hw]; exact hk) kpl).mono ?_
    rintro e w' ⟨rfl, hb⟩
    exact ⟨v, rfl, hS.later hb, Ch.of _ _ hb⟩
  | false =>
    rw [if_neg Bool.false_ne_true]
    unfold addL
    cases he : (plR r).eq (whR r) with
    | false =>
      rw [if_neg Bool.false_ne_true]
      exact add_part r (plR r) hS hbs h30 (by rw [hw]; exact hk) (by rw [hw]; exact he) kpl
    | true =>
      rw [if_pos rfl]
      have := add_whole r (plR r) hS hbs h30 (by rw [hw]; exact hk) (by rw [hw]; exact he) kpl
      rw [ht] at this
      exact this
end Go.Proofs.YtfcenidepkjdcaaDoor
namespace Go.Proofs.YtfcenidepkjdcaaDoor
open Go.RowKit Go.Shelf
attribute [local go_sem] Oper.semAt_some
theorem eql_slice36 (w : World) (a : Option Addr) (l c : Nat) : (binOp .eql 36 (.slice a l c) (.slice none 0 0)).run Tryd.prog w = .ok (.bool a.isNone) w := by
  simp [binOp, run_equal_slice_nil w 36 25 a l c Tryd.underlying36, Result.andThen]
set_option maxRecDepth 100000 in
set_option maxHeartbeats 4000000 in
theorem lclone_any {w : World} {base : Nat} {v : Value} {l : List Rd} (hown : w.ownsRow base 25 4 v l.length (rows l)) (h30 : l.length ≤ 40) :
    Calls Tryd.prog 31 #[v] w fun e w' => ∃ v', e = .returned v' ∧ w'.ownsRow w.heap.size 25 4 v' l.length (rows l) ∧ Below w.heap.size w w' := by
  rcases hown.2 with ⟨hv, hn⟩ | ⟨g, cap, cur, hv, hb, hg, h1, h2, h3, h4⟩
  · obtain rfl : l = [] := List.eq_nil_of_length_eq_zero hn
    subst hv
    clear hown
    have heq := eql_slice36 w none 0 0
    go_enter Tryd.func31, Tryd.ntmps31
    go_wp2
    go_ret
    exact ⟨_, rfl, World.ownsRow_nil _ _ _ _, Below.refl _ _⟩
  · subst hv
    have hnews : ∀ j u, (rows l)[j]? = some u → w.cell? ((⟨g, 0, none⟩ : Addr).add j) = some u := hown.cells (g := g) rfl
    have hnews2 : ∀ j u, (rows l)[j]? = some u → (w.alloc (.cells #[] 25)).cell? ((⟨g, 0, none⟩ : Addr).add j) = some u := fun j u hu => by
      have e := hnews j u hu
      rw [Addr.add_mid] at e ⊢
      exact (World.cell?_of_block (a := ⟨g, 0 + j, none⟩) (Below.heap_alloc w _ g (lt_of_row hg))).trans e
    have hown0 : (w.alloc (.cells #[] 25)).ownsRow w.heap.size 25 4 (.slice (some ⟨w.heap.size, 0, none⟩) 0 0) 0 [] := World.ownsRow_made w #[] 0 (Nat.le_refl _) (Nat.zero_le _) rfl
    obtain ⟨n, hn⟩ : ∃ n, l.length = n := ⟨_, rfl⟩
    have hrl : (rows l).length = n * 4 := by rw [rows_len, hn]
    have H0 : Hid (l.length = n) := hn
    have hm1 : 0 + n ≤ maxLen := by unfold maxLen; omega
    have hm2 : (0 + n) * 64 ≤ 140737488355328 := by omega
    have hr1 := rows_one l
    rw [hn] at h1 ⊢
    obtain ⟨i0, hi, hz0, hz1, hz2⟩ := info_parts info25c
    have heq := eql_slice36 w (some ⟨g, 0, none⟩) n cap
    clear hown hnews hn h30 h4
    go_enter Tryd.func31, Tryd.ntmps31
    go_wp2_with (at_builtin; refine wpList_append_own_at _ rfl _ _ 36 rfl w.heap.size 25 i0 _ 4 64 Tryd.underlying36 hi hz0 hz1 hz2 rfl (by decide) _ _ _ rfl hown0 ⟨g, 0, none⟩ n cap (rows l) rfl hrl hnews2 hr1 hm1 hm2 (by simp) ?_)
    intro v' w5 hown5 hgr5 _ hat5
    have H5 : Hid (w5.ownsRow w.heap.size 25 4 v' n (rows l) ∧ Below w.heap.size w w5) := by
      have hown6 : w5.ownsRow w.heap.size 25 4 v' n (rows l) := by simpa using hown5
      refine ⟨hown6, ⟨hgr5.os, hgr5.tape, hgr5.output, Nat.le_trans (by simp) hgr5.size, fun k hk => (hgr5.block k (by simp; omega) (fun e => ?_)).trans (Below.heap_alloc w _ k hk)⟩⟩
      injection e with e
      exact absurd e (by show k ≠ w.heap.size; omega)
    obtain ⟨p5, c5, rfl⟩ := own_len7 hown5
    clear hown5 hgr5 hat5
    go_wp2
    go_ret
    exact ⟨_, rfl, H5.out.1, H5.out.2⟩
set_option maxRecDepth 100000 in
set_option maxHeartbeats 4000000 in
theorem all_any {w : World} {base bs : Nat} {v : Value} {l : List Rd} (hS : St w base bs v l) (h30 : l.length ≤ 40) :
    Calls Tryd.prog 13 #[.pointer (some ⟨bs, 0, none⟩)] w fun e w' => ∃ v', e = .returned v' ∧ w'.ownsRow w.heap.size 25 4 v' l.length (rows l) ∧ Below w.heap.size w w' := by
  have kc := lclone_any hS.own h30
  have c0 := cell_of_row w _ 0 _ _ _ hS.row
  obtain ⟨p, c, rfl⟩ := own_len7 hS.own
  clear hS
  go_enter Tryd.func13, Tryd.ntmps13
  go_wp2_with fail
  refine kc.mono ?_
  rintro e w' ⟨v', rfl, h1, h2⟩
  have H5 : Hid (w'.ownsRow w.heap.size 25 4 v' l.length (rows l) ∧ Below w.heap.size w w') := ⟨h1, h2⟩
  obtain ⟨p5, c5, rfl⟩ := own_len7 h1
  clear h1 h2 kc
  go_wp2
  go_ret
  exact ⟨_, rfl, H5.out.1, H5.out.2⟩
set_option maxRecDepth 100000 in
set_option maxHeartbeats 4000000 in
theorem sclone_any {w : World} {base bs : Nat} {v : Value} {l : List Rd} (hS : St w base bs v l) (h30 : l.length ≤ 40) :
    Calls Tryd.prog 12 #[.pointer (some ⟨bs, 0, none⟩)] w fun e w' => ∃ b v', e = .returned (.pointer (some ⟨b, 0, none⟩)) ∧ St w' w.heap.size b v' l ∧ Below w.heap.size w w' := by
  have kc := lclone_any hS.own h30
  have c0 := cell_of_row w _ 0 _ _ _ hS.row
  obtain ⟨p, c, rfl⟩ := own_len7 hS.own
  clear hS
  go_enter Tryd.func12, Tryd.ntmps12
  go_wp2_with fail
  refine kc.mono ?_
  rintro e w' ⟨v', rfl, h1, h2⟩
  have H5 : Hid (w'.ownsRow w.heap.size 25 4 v' l.length (rows l) ∧ Below w.heap.size w w') := ⟨h1, h2⟩
  obtain ⟨p5, c5, rfl⟩ := own_len7 h1
  clear h1 h2 kc
  go_wp2
  go_ret
  refine ⟨w'.heap.size, _, rfl, ⟨heap_alloc_new w' _, own_later H5.out.1 (fun k hk => Below.heap_alloc w' _ k (H5.out.1.lt k hk).2), fun e => ?_⟩, H5.out.2.alloc H5.out.2.size _⟩
  have := (H5.out.1.lt _ e).2
  omega
end Go.Proofs.YtfcenidepkjdcaaDoor
