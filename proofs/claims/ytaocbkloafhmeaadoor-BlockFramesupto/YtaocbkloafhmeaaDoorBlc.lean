/- The laws' Block, called: the block cut at 66 revisions, and the same as the document has it. -/
import Derived.Test.YtaocbkloafhmeaaDoorBlk
import Derived.Deep.RegionLaw
namespace Go.Proofs.YtaocbkloafhmeaaDoor
open Go.RowKit
theorem four_b (w : World) (o o1 o2 o3 : Obj) : Below w.heap.size w ((((w.alloc o).alloc o1).alloc o2).alloc o3) := ((((Below.refl _ w).alloc (Nat.le_refl _) _).alloc (by simp) _).alloc (by simp; omega) _).alloc (by simp; omega) _
theorem four_0 (w : World) (o o1 o2 o3 : Obj) : ((((w.alloc o).alloc o1).alloc o2).alloc o3).heap[w.heap.size]? = some o :=
  (Below.heap_alloc _ _ _ (by simp; omega)).trans ((Below.heap_alloc _ _ _ (by simp; omega)).trans ((Below.heap_alloc _ _ _ (by simp)).trans (heap_alloc_new _ _)))
theorem four_1 (w : World) (o o1 o2 o3 : Obj) : ((((w.alloc o).alloc o1).alloc o2).alloc o3).heap[w.heap.size + 1]? = some o1 :=
  (Below.heap_alloc _ _ _ (by first | (simp; done) | (simp; omega))).trans ((Below.heap_alloc _ _ _ (by simp)).trans (two_new _ _ _))
theorem four_2 (w : World) (o o1 o2 o3 : Obj) : ((((w.alloc o).alloc o1).alloc o2).alloc o3).heap[w.heap.size + 1 + 1]? = some o2 := by
  have h := two_new (w.alloc o) o1 o2
  rw [World.size_alloc] at h
  exact (Below.heap_alloc _ _ _ (by simp)).trans h
theorem four_3 (w : World) (o o1 o2 o3 : Obj) : ((((w.alloc o).alloc o1).alloc o2).alloc o3).heap[w.heap.size + 1 + 1 + 1]? = some o3 := by
  have h := two_new ((w.alloc o).alloc o1) o2 o3
  rw [World.size_alloc, World.size_alloc] at h
  exact h
theorem results_row_row {P : Program} {fn : Func} {p q : Tmp} {ty ty' : TypeId} (h : fn.results = #[.cell p ty, .cell q ty']) (tmps : Array Value) (w : World) {g : Nat} {t : TypeId} {cs : Array Value} {fr : Nat × Nat} {d : TypeDesc}
    (hp : tmps.getD p undef = .pointer (some ⟨g, 0, none⟩)) (hg : w.heap[g]? = some (.cells cs t fr))
    (hu : P.underlying ty = some d) (hd : (match d with | .struct _ | .array _ _ => true | _ => false) = true) (hi : (P.info? ty).map (·.size) = some cs.size)
    {g' : Nat} {t' : TypeId} {cs' : Array Value} {fr' : Nat × Nat} {d' : TypeDesc}
    (hp' : tmps.getD q undef = .pointer (some ⟨g', 0, none⟩)) (hg' : w.heap[g']? = some (.cells cs' t' fr'))
    (hu' : P.underlying ty' = some d') (hd' : (match d' with | .struct _ | .array _ _ => true | _ => false) = true) (hi' : (P.info? ty').map (·.size) = some cs'.size) :
    (results fn tmps).run P w = .ok (.tuple #[.agg cs, .agg cs']) w := by
  have h1 : tmps[p]?.getD undef = .pointer (some ⟨g, 0, none⟩) := by simpa using hp
  have h2 : tmps[q]?.getD undef = .pointer (some ⟨g', 0, none⟩) := by simpa using hp'
  simp [results, h, h1, h2, asAddr, run_loadVar_row w g t ty cs fr d hg hu hd hi, run_loadVar_row w g' t' ty' cs' fr' d' hg' hu' hd' hi']
set_option maxRecDepth 100000 in
set_option maxHeartbeats 4000000 in
theorem block_any (x : Bk) (p : Option Addr) (c : Nat) (w : World) (hX : Revs w p x.n c x.R) :
    Calls Tryd.prog 17 #[x.val p c] w fun e w' => ∃ q d, e = .returned (.tuple #[(cutB x).val p c, (cutB x).val q d]) ∧ Revs w' q (cutB x).n d x.R ∧ Below w.heap.size w w' := by
  have hv : ∀ q d, (cutB x).val q d = .agg #[.int .u64 (x.seq : Int), .string x.prev, .int .u64 (x.tx : Int), .slice q (min x.n 66) d] := fun _ _ => rfl
  have hcn : (cutB x).n = min x.n 66 := rfl
  simp only [hv]
  rw [hcn]
  clear hv hcn
  obtain ⟨seq, prev, tx, n, R⟩ := x
  simp only at hX ⊢
  rw [show (Bk.mk seq prev tx n R).val p c = .agg #[.int .u64 (seq : Int), .string prev, .int .u64 (tx : Int), .slice p n c] from rfl]
  have hcap := hX.cap
  have hm : maxLen = 9223372036854775807 := rfl
  have hfit := hX.fit
  obtain ⟨i30, hi30, hz0, hz1, hz2⟩ := info_parts info30r
  obtain ⟨Po, hPo⟩ : ∃ Po : Ending → World → Prop, Po = fun e w' => ∃ q d, e = .returned (.tuple #[.agg #[.int .u64 (seq : Int), .string prev, .int .u64 (tx : Int), .slice p (min n 66) c], .agg #[.int .u64 (seq : Int), .string prev, .int .u64 (tx : Int), .slice q (min n 66) d]]) ∧ Revs w' q (min n 66) d R ∧ Below w.heap.size w w' := ⟨_, rfl⟩
  rw [← hPo]
  have HPo : Hid (Po = fun e w' => ∃ q d, e = .returned (.tuple #[.agg #[.int .u64 (seq : Int), .string prev, .int .u64 (tx : Int), .slice p (min n 66) c], .agg #[.int .u64 (seq : Int), .string prev, .int .u64 (tx : Int), .slice q (min n 66) d]]) ∧ Revs w' q (min n 66) d R ∧ Below w.heap.size w w') := hPo
  clear hPo
  by_cases h66 : 66 < n
  · have h66' : (66 : Int) < (n : Int) := by omega
    have hc66 : (66 : Int) ≤ (c : Int) := by omega
    go_enter Tryd.func17, Tryd.ntmps17
    go_wp2_with fail
    have hstart : BI w ((((w.alloc (.cells #[.int .u64 (seq : Int), .string prev, .int .u64 (tx : Int), .slice p 66 c] 38)).alloc (.cells #[.int .u64 0, .string ⟨#[]⟩, .int .u64 0, .slice none 0 0] 38)).alloc (.cells #[.int .u64 0, .string ⟨#[]⟩, .int .u64 0, .slice none 0 0] 41)).alloc (.cells #[.int .u64 (seq : Int), .string prev, .int .u64 (tx : Int), .slice none 0 0] 41)) seq prev tx p 66 c R 0 (.slice none 0 0) :=
      ⟨four_0 _ _ _ _ _, four_1 _ _ _ _ _, four_2 _ _ _ _ _, four_3 _ _ _ _ _, ⟨rfl, Or.inl ⟨rfl, rfl⟩⟩, four_b _ _ _ _ _⟩
    go_loopw [5] (fun vi wr => ∃ (i : Nat) (va : Value), i ≤ 66 ∧ vi = .int .i64 (i : Int) ∧ BI w wr seq prev tx p 66 c R i va) (fun vi _ => 66 - (intOf vi).toNat)
    case atStart => exact ⟨0, .slice none 0 0, Nat.zero_le _, rfl, hstart⟩
    case round =>
      clear hstart
      obtain ⟨i, va, hin, rfl, hI⟩ := hrel
      have a0 := cell_of_row wr _ 0 _ _ _ hI.r0
      have a1 := cell_of_row wr _ 1 _ _ _ hI.r0
      have a2 := cell_of_row wr _ 2 _ _ _ hI.r0
      have a3 := cell_of_row wr _ 3 _ _ _ hI.r0
      have t0 := cell_of_row wr _ 0 _ _ _ hI.r3
      have t1 := cell_of_row wr _ 1 _ _ _ hI.r3
      have t2 := cell_of_row wr _ 2 _ _ _ hI.r3
      have t3 := cell_of_row wr _ 3 _ _ _ hI.r3
      have hsz := hI.bel.size
      have hl3 := lt_of_row hI.r3
      by_cases him : i < 66
      · have him' : (i : Int) < (66 : Int) := by omega
        obtain ⟨pb, po, rfl, hpb, hat⟩ := hX.at' (by omega)
        have h8 := (hat i (by omega)).kept (hI.bel.block pb hpb)
        have d0 := h8.c0
        have d1 := h8.c1
        have d2 := h8.c2
        have d3 := h8.c3
        have d4 := h8.c4
        have d5 := h8.c5
        have d6 := h8.c6
        have d7 := h8.c7
        have hcall := fun W => ref_any (R i) W
        have hone : ∀ u ∈ (R i).cs.toList, u.oneCell' = true := fun u hu => revC_one R (i + 1) u (by rw [revC_succ]; exact List.mem_append_right _ hu)
        rw [show (R i).val = .agg #[.int .i64 (R i).op, .string (R i).t, .string (R i).f, .int .u64 ((R i).d : Int), .int .u64 ((R i).v : Int), .string (R i).h, .string (R i).b, .bool (R i).g] from rfl] at hcall
        go_wp2_with fail
        go_region_law ((first | (go_simp; go_at_call 13; refine (hcall _).mono ?_; rintro e w1 ⟨rfl, hb1⟩; have hI1 := hI.later (((Below.refl _ wr).drew).trans hb1); have t31 := cell_of_row w1 _ 3 _ _ _ hI1.r3; have t3a : ∀ o, (w1.alloc o).cell? ⟨w.heap.size + 1 + 1 + 1, 3, none⟩ = some va := fun o => cell_kept t31 (Below.heap_alloc w1 o _ (lt_of_row hI1.r3)); dsimp only) | (refine step_append_lies _ (by rfl) (.tmp 29) (.tmp 36) 39 (by rfl) (w.heap.size + 4) 30 i30 _ 8 96 Tryd.underlying39 hi30 hz0 hz1 hz2 (by rfl) (by decide) va i _ (by rfl) (hI1.own.alloc _) ⟨w1.heap.size, 0, none⟩ 1 1 ((R i).cs.toList) (by rfl) (by rfl) (World.news_of_block (heap_alloc_new w1 _)) hone (by decide) (by unfold maxLen; omega) (by omega) (by have := lt_of_row hI1.r3; simp; omega) (w1.heap.size + 1) (by simp) ?_; intro g1 cap1 w2 hown2 hgr2 hat2 hlt2; have hI2 := (hI1.later ((Below.refl _ w1).alloc (Nat.le_refl _) _)).app hgr2 hown2 rfl; have rr3 := far_row hgr2 (fun j hj => (hI1.own.lt j hj).1) (hI1.later ((Below.refl _ w1).alloc (Nat.le_refl _) (.cells #[.int .i64 (R i).op, .string (R i).t, .string (R i).f, .int .u64 ((R i).d : Int), .int .u64 ((R i).v : Int), .string (R i).h, .string (R i).b, .bool (R i).g] 30))).r3 (by omega) (by have := lt_of_row hI1.r3; simp; omega); have f33 := frozen_of_row w2 _ 3 _ _ rr3; have t33 := cell_of_row w2 _ 3 _ _ _ rr3)))
        all_goals
          go_wp2
          go_roundw
          case rel => exact ⟨i + 1, _, by omega, by go_num, hI2⟩
          case measure => simp [intOf]; omega
      · obtain rfl : i = 66 := by omega
        have hmin : min n 66 = 66 := by omega
        obtain ⟨q, d, rfl, hS⟩ := own_revs hI.own (fun j hj => hfit j (by omega))
        have fin : ∀ Y1 Y2, set4 wr (w.heap.size + 1) (.int .u64 (seq : Int)) (.string prev) (.int .u64 (tx : Int)) (.slice p 66 c) = Y1 → set4 Y1 (w.heap.size + 1 + 1) (.int .u64 (seq : Int)) (.string prev) (.int .u64 (tx : Int)) (.slice q 66 d) = Y2 → ∀ a : Act, a.defers = [] → a.tmps.getD 2 undef = .pointer (some ⟨w.heap.size + 1, 0, none⟩) → a.tmps.getD 3 undef = .pointer (some ⟨w.heap.size + 1 + 1, 0, none⟩) → bodyPost Tryd.prog Tryd.f17 Po Exit.ret a Y2.drew := by
          intro Y1 Y2 hY1 hY2 a h5 h6 h7
          have g1 := set4_row hI.r1 (.int .u64 (seq : Int)) (.string prev) (.int .u64 (tx : Int)) (.slice p 66 c)
          have g2 := (set4_block wr (w.heap.size + 1) (.int .u64 (seq : Int)) (.string prev) (.int .u64 (tx : Int)) (.slice p 66 c) (w.heap.size + 1 + 1) (by omega)).trans hI.r2
          have gb := set4_below hI.bel (w.heap.size + 1) (by omega) (.int .u64 (seq : Int)) (.string prev) (.int .u64 (tx : Int)) (.slice p 66 c)
          have gk := fun k h => set4_block wr (w.heap.size + 1) (.int .u64 (seq : Int)) (.string prev) (.int .u64 (tx : Int)) (.slice p 66 c) k h
          have gs := set4_size wr (w.heap.size + 1) (.int .u64 (seq : Int)) (.string prev) (.int .u64 (tx : Int)) (.slice p 66 c)
          rw [hY1] at g1 g2 gb gs
          simp only [hY1] at gk
          have j2 := set4_row g2 (.int .u64 (seq : Int)) (.string prev) (.int .u64 (tx : Int)) (.slice q 66 d)
          have j1 := (set4_block Y1 (w.heap.size + 1 + 1) (.int .u64 (seq : Int)) (.string prev) (.int .u64 (tx : Int)) (.slice q 66 d) (w.heap.size + 1) (by omega)).trans g1
          have jb := set4_below gb (w.heap.size + 1 + 1) (by omega) (.int .u64 (seq : Int)) (.string prev) (.int .u64 (tx : Int)) (.slice q 66 d)
          have jk := fun k h => set4_block Y1 (w.heap.size + 1 + 1) (.int .u64 (seq : Int)) (.string prev) (.int .u64 (tx : Int)) (.slice q 66 d) k h
          have js := set4_size Y1 (w.heap.size + 1 + 1) (.int .u64 (seq : Int)) (.string prev) (.int .u64 (tx : Int)) (.slice q 66 d)
          rw [hY2] at j1 j2 jb js
          simp only [hY2] at jk
          clear hY1 hY2
          have hr := results_row_row (P := Tryd.prog) Tryd.results17 a.tmps Y2.drew h6 j1 Tryd.underlying38 rfl (by kernel_rfl) h7 j2 Tryd.underlying41 rfl (by kernel_rfl)
          refine bodyPost_ret hr h5 ?_
          rw [HPo.out]
          refine ⟨q, d, by rw [hmin], ?_, jb.drew⟩
          rw [hmin]
          refine hS.kept (w' := Y2.drew) (by show _ ≤ Y2.heap.size; omega) (fun b hb => ?_)
          have hb4 : w.heap.size + 4 ≤ b := (hI.own.lt b (by cases q with | none => cases hb | some a => exact hb)).1
          exact (jk b (by omega)).trans (gk b (by omega))
        have e10 := frozen_of_row wr _ 0 _ _ hI.r1
        have e11 := frozen_of_row wr _ 1 _ _ hI.r1
        have e12 := frozen_of_row wr _ 2 _ _ hI.r1
        have e13 := frozen_of_row wr _ 3 _ _ hI.r1
        have e20 := frozen_of_row wr _ 0 _ _ hI.r2
        have e21 := frozen_of_row wr _ 1 _ _ hI.r2
        have e22 := frozen_of_row wr _ 2 _ _ hI.r2
        have e23 := frozen_of_row wr _ 3 _ _ hI.r2
        have m10 := cell_of_row wr _ 0 _ _ _ hI.r1
        have m11 := cell_of_row wr _ 1 _ _ _ hI.r1
        have m12 := cell_of_row wr _ 2 _ _ _ hI.r1
        have m13 := cell_of_row wr _ 3 _ _ _ hI.r1
        have m20 := cell_of_row wr _ 0 _ _ _ hI.r2
        have m21 := cell_of_row wr _ 1 _ _ _ hI.r2
        have m22 := cell_of_row wr _ 2 _ _ _ hI.r2
        have m23 := cell_of_row wr _ 3 _ _ _ hI.r2
        go_wp2_with fail
        go_region
        all_goals
          go_wp2
          exact fin _ _ (by unfold set4; rfl) (by unfold set4; rfl) _ rfl rfl rfl
  · have h66' : ¬ (66 : Int) < (n : Int) := by omega
    go_enter Tryd.func17, Tryd.ntmps17
    go_wp2_with fail
    have hstart : BI w ((((w.alloc (.cells #[.int .u64 (seq : Int), .string prev, .int .u64 (tx : Int), .slice p n c] 38)).alloc (.cells #[.int .u64 0, .string ⟨#[]⟩, .int .u64 0, .slice none 0 0] 38)).alloc (.cells #[.int .u64 0, .string ⟨#[]⟩, .int .u64 0, .slice none 0 0] 41)).alloc (.cells #[.int .u64 (seq : Int), .string prev, .int .u64 (tx : Int), .slice none 0 0] 41)) seq prev tx p n c R 0 (.slice none 0 0) := by
      have hs : ∀ (k : Nat) (o o1 o2 o3 : Obj), ((((w.alloc o).alloc o1).alloc o2).alloc o3).heap.size = w.heap.size + 1 + 1 + 1 + 1 := fun _ _ _ _ _ => by simp
      exact ⟨four_0 _ _ _ _ _, four_1 _ _ _ _ _, four_2 _ _ _ _ _, four_3 _ _ _ _ _, ⟨rfl, Or.inl ⟨rfl, rfl⟩⟩, four_b _ _ _ _ _⟩
    go_loopw [5] (fun vi wr => ∃ (i : Nat) (va : Value), i ≤ n ∧ vi = .int .i64 (i : Int) ∧ BI w wr seq prev tx p n c R i va) (fun vi _ => n - (intOf vi).toNat)
    case atStart => exact ⟨0, .slice none 0 0, Nat.zero_le _, rfl, hstart⟩
    case round =>
      clear hstart
      obtain ⟨i, va, hin, rfl, hI⟩ := hrel
      have a0 := cell_of_row wr _ 0 _ _ _ hI.r0
      have a1 := cell_of_row wr _ 1 _ _ _ hI.r0
      have a2 := cell_of_row wr _ 2 _ _ _ hI.r0
      have a3 := cell_of_row wr _ 3 _ _ _ hI.r0
      have t0 := cell_of_row wr _ 0 _ _ _ hI.r3
      have t1 := cell_of_row wr _ 1 _ _ _ hI.r3
      have t2 := cell_of_row wr _ 2 _ _ _ hI.r3
      have t3 := cell_of_row wr _ 3 _ _ _ hI.r3
      have hsz := hI.bel.size
      have hl3 := lt_of_row hI.r3
      by_cases him : i < n
      · have him' : (i : Int) < (n : Int) := by omega
        obtain ⟨pb, po, rfl, hpb, hat⟩ := hX.at' (by omega)
        have h8 := (hat i (by omega)).kept (hI.bel.block pb hpb)
        have d0 := h8.c0
        have d1 := h8.c1
        have d2 := h8.c2
        have d3 := h8.c3
        have d4 := h8.c4
        have d5 := h8.c5
        have d6 := h8.c6
        have d7 := h8.c7
        have hcall := fun W => ref_any (R i) W
        have hone : ∀ u ∈ (R i).cs.toList, u.oneCell' = true := fun u hu => revC_one R (i + 1) u (by rw [revC_succ]; exact List.mem_append_right _ hu)
        rw [show (R i).val = .agg #[.int .i64 (R i).op, .string (R i).t, .string (R i).f, .int .u64 ((R i).d : Int), .int .u64 ((R i).v : Int), .string (R i).h, .string (R i).b, .bool (R i).g] from rfl] at hcall
        go_wp2_with fail
        go_region_law ((first | (go_simp; go_at_call 13; refine (hcall _).mono ?_; rintro e w1 ⟨rfl, hb1⟩; have hI1 := hI.later (((Below.refl _ wr).drew).trans hb1); have t31 := cell_of_row w1 _ 3 _ _ _ hI1.r3; have t3a : ∀ o, (w1.alloc o).cell? ⟨w.heap.size + 1 + 1 + 1, 3, none⟩ = some va := fun o => cell_kept t31 (Below.heap_alloc w1 o _ (lt_of_row hI1.r3)); dsimp only) | (refine step_append_lies _ (by rfl) (.tmp 29) (.tmp 36) 39 (by rfl) (w.heap.size + 4) 30 i30 _ 8 96 Tryd.underlying39 hi30 hz0 hz1 hz2 (by rfl) (by decide) va i _ (by rfl) (hI1.own.alloc _) ⟨w1.heap.size, 0, none⟩ 1 1 ((R i).cs.toList) (by rfl) (by rfl) (World.news_of_block (heap_alloc_new w1 _)) hone (by decide) (by unfold maxLen; omega) (by omega) (by have := lt_of_row hI1.r3; simp; omega) (w1.heap.size + 1) (by simp) ?_; intro g1 cap1 w2 hown2 hgr2 hat2 hlt2; have hI2 := (hI1.later ((Below.refl _ w1).alloc (Nat.le_refl _) _)).app hgr2 hown2 rfl; have rr3 := far_row hgr2 (fun j hj => (hI1.own.lt j hj).1) (hI1.later ((Below.refl _ w1).alloc (Nat.le_refl _) (.cells #[.int .i64 (R i).op, .string (R i).t, .string (R i).f, .int .u64 ((R i).d : Int), .int .u64 ((R i).v : Int), .string (R i).h, .string (R i).b, .bool (R i).g] 30))).r3 (by omega) (by have := lt_of_row hI1.r3; simp; omega); have f33 := frozen_of_row w2 _ 3 _ _ rr3; have t33 := cell_of_row w2 _ 3 _ _ _ rr3)))
        all_goals
          go_wp2
          go_roundw
          case rel => exact ⟨i + 1, _, by omega, by go_num, hI2⟩
          case measure => simp [intOf]; omega
      · obtain rfl : n = i := by omega
        have hmin : min n 66 = n := by omega
        obtain ⟨q, d, rfl, hS⟩ := own_revs hI.own (fun j hj => hfit j (by omega))
        have fin : ∀ Y1 Y2, set4 wr (w.heap.size + 1) (.int .u64 (seq : Int)) (.string prev) (.int .u64 (tx : Int)) (.slice p n c) = Y1 → set4 Y1 (w.heap.size + 1 + 1) (.int .u64 (seq : Int)) (.string prev) (.int .u64 (tx : Int)) (.slice q n d) = Y2 → ∀ a : Act, a.defers = [] → a.tmps.getD 2 undef = .pointer (some ⟨w.heap.size + 1, 0, none⟩) → a.tmps.getD 3 undef = .pointer (some ⟨w.heap.size + 1 + 1, 0, none⟩) → bodyPost Tryd.prog Tryd.f17 Po Exit.ret a Y2.drew := by
          intro Y1 Y2 hY1 hY2 a h5 h6 h7
          have g1 := set4_row hI.r1 (.int .u64 (seq : Int)) (.string prev) (.int .u64 (tx : Int)) (.slice p n c)
          have g2 := (set4_block wr (w.heap.size + 1) (.int .u64 (seq : Int)) (.string prev) (.int .u64 (tx : Int)) (.slice p n c) (w.heap.size + 1 + 1) (by omega)).trans hI.r2
          have gb := set4_below hI.bel (w.heap.size + 1) (by omega) (.int .u64 (seq : Int)) (.string prev) (.int .u64 (tx : Int)) (.slice p n c)
          have gk := fun k h => set4_block wr (w.heap.size + 1) (.int .u64 (seq : Int)) (.string prev) (.int .u64 (tx : Int)) (.slice p n c) k h
          have gs := set4_size wr (w.heap.size + 1) (.int .u64 (seq : Int)) (.string prev) (.int .u64 (tx : Int)) (.slice p n c)
          rw [hY1] at g1 g2 gb gs
          simp only [hY1] at gk
          have j2 := set4_row g2 (.int .u64 (seq : Int)) (.string prev) (.int .u64 (tx : Int)) (.slice q n d)
          have j1 := (set4_block Y1 (w.heap.size + 1 + 1) (.int .u64 (seq : Int)) (.string prev) (.int .u64 (tx : Int)) (.slice q n d) (w.heap.size + 1) (by omega)).trans g1
          have jb := set4_below gb (w.heap.size + 1 + 1) (by omega) (.int .u64 (seq : Int)) (.string prev) (.int .u64 (tx : Int)) (.slice q n d)
          have jk := fun k h => set4_block Y1 (w.heap.size + 1 + 1) (.int .u64 (seq : Int)) (.string prev) (.int .u64 (tx : Int)) (.slice q n d) k h
          have js := set4_size Y1 (w.heap.size + 1 + 1) (.int .u64 (seq : Int)) (.string prev) (.int .u64 (tx : Int)) (.slice q n d)
          rw [hY2] at j1 j2 jb js
          simp only [hY2] at jk
          clear hY1 hY2
          have hr := results_row_row (P := Tryd.prog) Tryd.results17 a.tmps Y2.drew h6 j1 Tryd.underlying38 rfl (by kernel_rfl) h7 j2 Tryd.underlying41 rfl (by kernel_rfl)
          refine bodyPost_ret hr h5 ?_
          rw [HPo.out]
          refine ⟨q, d, by rw [hmin], ?_, jb.drew⟩
          rw [hmin]
          refine hS.kept (w' := Y2.drew) (by show _ ≤ Y2.heap.size; omega) (fun b hb => ?_)
          have hb4 : w.heap.size + 4 ≤ b := (hI.own.lt b (by cases q with | none => cases hb | some a => exact hb)).1
          exact (jk b (by omega)).trans (gk b (by omega))
        have e10 := frozen_of_row wr _ 0 _ _ hI.r1
        have e11 := frozen_of_row wr _ 1 _ _ hI.r1
        have e12 := frozen_of_row wr _ 2 _ _ hI.r1
        have e13 := frozen_of_row wr _ 3 _ _ hI.r1
        have e20 := frozen_of_row wr _ 0 _ _ hI.r2
        have e21 := frozen_of_row wr _ 1 _ _ hI.r2
        have e22 := frozen_of_row wr _ 2 _ _ hI.r2
        have e23 := frozen_of_row wr _ 3 _ _ hI.r2
        have m10 := cell_of_row wr _ 0 _ _ _ hI.r1
        have m11 := cell_of_row wr _ 1 _ _ _ hI.r1
        have m12 := cell_of_row wr _ 2 _ _ _ hI.r1
        have m13 := cell_of_row wr _ 3 _ _ _ hI.r1
        have m20 := cell_of_row wr _ 0 _ _ _ hI.r2
        have m21 := cell_of_row wr _ 1 _ _ _ hI.r2
        have m22 := cell_of_row wr _ 2 _ _ _ hI.r2
        have m23 := cell_of_row wr _ 3 _ _ _ hI.r2
        go_wp2_with fail
        go_region
        all_goals
          go_wp2
          exact fin _ _ (by unfold set4; rfl) (by unfold set4; rfl) _ rfl rfl rfl
end Go.Proofs.YtaocbkloafhmeaaDoor
