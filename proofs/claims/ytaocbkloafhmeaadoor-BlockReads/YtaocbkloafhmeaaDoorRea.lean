/- Read, called: of any bytes the block that they are, or the first error. -/
import Derived.Test.YtaocbkloafhmeaaDoorRdb
import Derived.Test.YtaocbkloafhmeaaDoorWou
import Derived.Deep.RegionLaw
import Derived.Deep.Cut
namespace Go.Proofs.YtaocbkloafhmeaaDoor
open Go.RowKit
theorem end_any {w : World} {b : Nat} {s : ByteArray} {o : Nat} {er : Int} (hcu : Cur w b s (o : Int) er) : Calls Tryd.prog 59 #[.pointer (some ⟨b, 0, none⟩)] w fun e w' => e = .returned (.int .i64 (if er ≠ 0 then er else if o < s.size then 5 else 0)) ∧ Only b w w' := by
  by_cases h : er = 0
  · subst h
    rw [if_neg (by simp)]
    exact end_ok hcu
  · rw [if_pos h]
    refine (end_err hcu h).mono ?_
    rintro e w' ⟨rfl, n, rfl⟩
    exact ⟨rfl, (Only.refl b w).drewN n⟩
theorem own_only {w w' : World} {base b : Nat} {e : TypeId} {z : Nat} {v : Value} {n : Nat} {xs : List Value} (h : w.ownsRow base e z v n xs) (hq : Only b w w') (hb : b < base) : w'.ownsRow base e z v n xs := by
  refine ⟨h.1, ?_⟩
  rcases h.2 with h1 | ⟨g, cap, cur, h1, h2, h3, h4⟩
  · exact Or.inl h1
  · exact Or.inr ⟨g, cap, cur, h1, h2, only_row hq h3 (by omega), h4⟩
set_option maxRecDepth 100000 in
set_option maxHeartbeats 8000000 in
theorem read_any (s : ByteArray) (hs : s.size ≤ 1125899906842624) (w : World) (hG : GL w) :
    Calls Tryd.prog 29 #[.string s] w fun e w' => ∃ (X : Bk) (q : Option Addr) (d : Nat), e = .returned (.tuple #[X.val q d, .int .i64 (readE s)]) ∧ (readE s = 0 → X = readX s ∧ Revs w' q X.n d X.R) ∧ (readE s ≠ 0 → X = ⟨0, ⟨#[]⟩, 0, 0, rrv s⟩ ∧ q = none ∧ d = 0) ∧ Below w.heap.size w w' := by
  have hs' : s.size ≤ 72057594037927936 := by omega
  have k0 := fun W b (h : Cur W b s ((0 : Nat) : Int) 0) => uint_at h (Nat.zero_le _) hs'
  have k1 := fun W b (h : Cur W b s ((hd0 s).o : Int) (hd0 s).e) => text_at h (uintA_o (Nat.zero_le _)) hs' 32
  have k2 := fun W b (h : Cur W b s ((hd1 s).o : Int) (hd1 s).e) => uint_at h (textA_o (uintA_o (Nat.zero_le _))) hs'
  have k3 := fun W b (h : Cur W b s ((hd2 s).o : Int) (hd2 s).e) => cou_at h (uintA_o (textA_o (uintA_o (Nat.zero_le _)))) hs' 64 (by omega)
  have kt := fun i W b (h : Cur W b s ((rst s i).o : Int) (rst s i).e) => takem_any h (rst_o s i) hs'
  have hfit := rrv_fit hs
  have hn64 : (hd3 s).v ≤ 64 := countA_v
  have hal := fun p c W hG hX => all_any (hd3 s).v c hn64 (rrv s) p W hG hX
  have hrs : ∀ i, rst s (i + 1) = ⟨(takeR s (rst s i).o (rst s i).e).o, (takeR s (rst s i).o (rst s i).e).e⟩ := fun _ => rfl
  have hr0 : rst s 0 = ⟨(hd3 s).o, (hd3 s).e⟩ := rfl
  have hrr : ∀ i, (takeR s (rst s i).o (rst s i).e).r.val = (rrv s i).val := fun _ => rfl
  have hEE : endE s = if (rst s (hd3 s).v).e ≠ 0 then (rst s (hd3 s).v).e else if (rst s (hd3 s).v).o < s.size then 5 else 0 := rfl
  have hRE : readE s = if endE s ≠ 0 then endE s else fe (rrv s) (hd3 s).v := rfl
  have hRX : readX s = ⟨(hd0 s).v, (hd1 s).v, (hd2 s).v, (hd3 s).v, rrv s⟩ := rfl
  simp only [hrr] at kt
  change ∀ W b, Cur W b s ((0 : Nat) : Int) 0 → Calls Tryd.prog 55 #[.pointer (some ⟨b, 0, none⟩)] W fun e w' => e = .returned (.int .u64 ((hd0 s).v : Int)) ∧ Cur w' b s ((hd0 s).o : Int) (hd0 s).e ∧ Only b W w' at k0
  change ∀ W b, Cur W b s ((hd0 s).o : Int) (hd0 s).e → Calls Tryd.prog 56 #[.pointer (some ⟨b, 0, none⟩), .int .i64 32] W fun e w' => e = .returned (.string (hd1 s).v) ∧ Cur w' b s ((hd1 s).o : Int) (hd1 s).e ∧ Only b W w' at k1
  change ∀ W b, Cur W b s ((hd1 s).o : Int) (hd1 s).e → Calls Tryd.prog 55 #[.pointer (some ⟨b, 0, none⟩)] W fun e w' => e = .returned (.int .u64 ((hd2 s).v : Int)) ∧ Cur w' b s ((hd2 s).o : Int) (hd2 s).e ∧ Only b W w' at k2
  change ∀ W b, Cur W b s ((hd2 s).o : Int) (hd2 s).e → Calls Tryd.prog 57 #[.pointer (some ⟨b, 0, none⟩), .int .i64 64] W fun e w' => e = .returned (.int .i64 ((hd3 s).v : Int)) ∧ Cur w' b s ((hd3 s).o : Int) (hd3 s).e ∧ Only b W w' at k3
  obtain ⟨seq, q0⟩ : ∃ v, (hd0 s).v = v := ⟨_, rfl⟩
  obtain ⟨prev, q1⟩ : ∃ v, (hd1 s).v = v := ⟨_, rfl⟩
  obtain ⟨tx, q2⟩ : ∃ v, (hd2 s).v = v := ⟨_, rfl⟩
  obtain ⟨n, q3⟩ : ∃ v, (hd3 s).v = v := ⟨_, rfl⟩
  obtain ⟨R, qR⟩ : ∃ R, rrv s = R := ⟨_, rfl⟩
  obtain ⟨st, qS⟩ : ∃ st, rst s = st := ⟨_, rfl⟩
  obtain ⟨E, qE⟩ : ∃ E, readE s = E := ⟨_, rfl⟩
  obtain ⟨F, qF⟩ : ∃ F, endE s = F := ⟨_, rfl⟩
  rw [q0] at k0 hRX
  rw [q1] at k1 hRX
  rw [q2] at k2 hRX
  rw [q3] at k3 hn64 hal hEE hRE hRX
  rw [qR] at hfit hal hRE hRX
  rw [qF] at hEE hRE
  rw [qE] at hRE
  simp only [qS, qR] at kt hrs
  rw [qS] at hr0 hEE
  rw [qE, qR, hRX]
  clear q0 q1 q2 q3 qR qS qE qF hrr hRX
  obtain ⟨Po, hPo⟩ : ∃ Po : Ending → World → Prop, Po = fun e w' => ∃ (X : Bk) (q : Option Addr) (d : Nat), e = .returned (.tuple #[X.val q d, .int .i64 E]) ∧ (E = 0 → X = ⟨seq, prev, tx, n, R⟩ ∧ Revs w' q X.n d X.R) ∧ (E ≠ 0 → X = ⟨0, ⟨#[]⟩, 0, 0, R⟩ ∧ q = none ∧ d = 0) ∧ Below w.heap.size w w' := ⟨_, rfl⟩
  rw [← hPo]
  have HPo : Hid (Po = fun e w' => ∃ (X : Bk) (q : Option Addr) (d : Nat), e = .returned (.tuple #[X.val q d, .int .i64 E]) ∧ (E = 0 → X = ⟨seq, prev, tx, n, R⟩ ∧ Revs w' q X.n d X.R) ∧ (E ≠ 0 → X = ⟨0, ⟨#[]⟩, 0, 0, R⟩ ∧ q = none ∧ d = 0) ∧ Below w.heap.size w w') := hPo
  have HEE : Hid (F = if (st n).e ≠ 0 then (st n).e else if (st n).o < s.size then 5 else 0) := hEE
  have HRE : Hid (E = if F ≠ 0 then F else fe R n) := hRE
  have HR0 : Hid (st 0 = ⟨(hd3 s).o, (hd3 s).e⟩) := hr0
  have HRS : Hid (∀ i, st (i + 1) = ⟨(takeR s (st i).o (st i).e).o, (takeR s (st i).o (st i).e).e⟩) := hrs
  clear hPo hEE hRE hr0 hrs
  obtain ⟨i24, hi24, hz0, hz1, hz2⟩ := info_parts info24r
  go_enter Tryd.func29, Tryd.ntmps29
  go_wp2_with fail
  refine (at_any s _).mono ?_
  rintro e w1 ⟨rfl, rfl⟩
  have bA : ∀ o o', Below w.heap.size w ((w.alloc o).alloc o') := fun o o' => ((Below.refl _ w).alloc (Nat.le_refl _) _).alloc (by simp) _
  have hc1 : ∀ o, Cur ((w.alloc o).alloc (.cells #[.string s, .int .i64 0, .int .i64 0] 117)) (w.heap.size + 1) s ((0 : Nat) : Int) 0 := fun o => two_new w o _
  rw [World.size_alloc]
  go_wp2_with fail
  refine (k0 _ _ (hc1 _)).mono ?_
  rintro e w2 ⟨rfl, hc2, hq2⟩
  go_wp2_with fail
  refine (k1 _ _ hc2).mono ?_
  rintro e w3 ⟨rfl, hc3, hq3⟩
  go_wp2_with fail
  refine (k2 _ _ hc3).mono ?_
  rintro e w4 ⟨rfl, hc4, hq4⟩
  have hz4 : w4.heap[w.heap.size]? = some (.cells #[.int .u64 0, .string ⟨#[]⟩, .int .u64 0, .slice none 0 0] 38 (0, 0)) := only_row hq4 (only_row hq3 (only_row hq2 ((Below.heap_alloc _ _ _ (by simp)).trans (heap_alloc_new _ _)) (by omega)) (by omega)) (by omega)
  have b4 : Below w.heap.size w w4 := (bA _ _).trans (((hq2.trans hq3).trans hq4).below (by omega) (by simp; omega))
  have hs4 := b4.size
  go_upto_region 3 with fail
  obtain ⟨w5, hw5⟩ : ∃ w5, w4.alloc (.cells #[.int .u64 (seq : Int), .string prev, .int .u64 (tx : Int), .slice none 0 0] 38) = w5 := ⟨_, rfl⟩
  have b45 : Below w4.heap.size w4 w5 := by rw [← hw5]; exact (Below.refl _ _).alloc (Nat.le_refl _) _
  have hsz4 : w.heap.size + 1 + 1 ≤ w4.heap.size := by
    have h1 := hq2.size
    have h2 := hq3.size
    have h3 := hq4.size
    simp only [World.size_alloc] at h1
    omega
  have hr5 : w5.heap[w4.heap.size]? = some (.cells #[.int .u64 (seq : Int), .string prev, .int .u64 (tx : Int), .slice none 0 0] 38 (0, 0)) := by rw [← hw5]; exact heap_alloc_new _ _
  rw [hw5]
  have hc5 := cell_later4 b45 hc4
  have hz5 := cell_later4 b45 hz4
  have b5 := b4.trans (b45.mono hs4)
  have hs5 := b5.size
  have hsz5 := b45.size
  obtain ⟨V, hV⟩ : ∃ V, w4.heap.size = V := ⟨_, rfl⟩
  rw [hV] at hr5 ⊢
  have hV2 : w.heap.size + 1 + 1 ≤ V := by omega
  have hV5 : V < w5.heap.size := lt_of_row hr5
  clear hw5 b45 hc4 hz4 b4 hs4 hV hsz5 hc1 hc2 hc3 hq2 hq3 hq4 k0 k1 k2 hsz4
  go_wp2_with fail
  refine (k3 _ _ hc5).mono ?_
  rintro e w6 ⟨rfl, hc6, hq6⟩
  have hI0 : RJ w w6 V s (hd3 s).o (hd3 s).e seq prev tx R 0 (.slice none 0 0) := ⟨hc6, only_row hq6 hz5 (by omega), only_row hq6 hr5 (by omega), ⟨rfl, Or.inl ⟨rfl, rfl⟩⟩, b5.trans (hq6.below (by omega) hs5), hV2⟩
  clear hc5 hz5 hr5 b5 hs5 hq6 hc6 k3 bA
  go_wp2_with fail
  go_loopw [19] (fun vi wr => ∃ (i : Nat) (va : Value), i ≤ n ∧ vi = .int .i64 (i : Int) ∧ RJ w wr V s (st i).o (st i).e seq prev tx R i va) (fun vi _ => n - (intOf vi).toNat)
  case atStart => exact ⟨0, .slice none 0 0, Nat.zero_le _, rfl, by rw [HR0.out]; exact hI0⟩
  case round =>
    clear hI0
    obtain ⟨i, va, hin, rfl, hI⟩ := hrel
    have t0 := cell_of_row wr _ 0 _ _ _ hI.r2
    have t1 := cell_of_row wr _ 1 _ _ _ hI.r2
    have t2 := cell_of_row wr _ 2 _ _ _ hI.r2
    have t3 := cell_of_row wr _ 3 _ _ _ hI.r2
    by_cases him : i < n
    · have him' : (i : Int) < (n : Int) := by omega
      have hcall := fun W h => kt i W (w.heap.size + 1) h
      have hone : ∀ u ∈ (R i).cs.toList, u.oneCell' = true := fun u hu => revC_one R (i + 1) u (by rw [revC_succ]; exact List.mem_append_right _ hu)
      rw [show (R i).val = .agg #[.int .i64 (R i).op, .string (R i).t, .string (R i).f, .int .u64 ((R i).d : Int), .int .u64 ((R i).v : Int), .string (R i).h, .string (R i).b, .bool (R i).g] from rfl] at hcall
      have HN : Hid (st (i + 1) = ⟨(takeR s (st i).o (st i).e).o, (takeR s (st i).o (st i).e).e⟩) := HRS.out i
      obtain ⟨o', ho'⟩ : ∃ o', (takeR s (st i).o (st i).e).o = o' := ⟨_, rfl⟩
      obtain ⟨e', he'⟩ : ∃ e', (takeR s (st i).o (st i).e).e = e' := ⟨_, rfl⟩
      rw [ho', he'] at hcall HN
      clear ho' he'
      have hId : RJ w wr.drew V s (st i).o (st i).e seq prev tx R i va := hI.later (Below.refl _ wr).drew
      go_wp2_with fail
      go_region_law ((first | (go_simp; go_at_call 58; refine (hcall _ hId.cur).mono ?_; rintro e w1 ⟨rfl, hcc1, hqq1⟩; have hI1 := hId.took hcc1 hqq1; have t31 := cell_of_row w1 _ 3 _ _ _ hI1.r2; have t3a : ∀ o, (w1.alloc o).cell? ⟨V, 3, none⟩ = some va := fun o => cell_kept t31 (Below.heap_alloc w1 o _ (lt_of_row hI1.r2)); dsimp only) | (refine step_append_lies _ (by rfl) (.tmp 22) (.tmp 25) 36 (by rfl) (V + 1) 24 i24 _ 8 96 Tryd.underlying36 hi24 hz0 hz1 hz2 (by rfl) (by decide) va i _ (by rfl) (hI1.own.alloc _) ⟨w1.heap.size, 0, none⟩ 1 1 ((R i).cs.toList) (by rfl) (by rfl) (World.news_of_block (heap_alloc_new w1 _)) hone (by decide) (by unfold maxLen; omega) (by omega) (by have := lt_of_row hI1.r2; simp; omega) (w1.heap.size + 1) (by simp) ?_; intro g1 cap1 w2 hown2 hgr2 hat2 hlt2; have hI2 := (hI1.later ((Below.refl _ w1).alloc (Nat.le_refl _) _)).app hgr2 hown2 rfl; have rr3 := far_row hgr2 (fun j hj => (hI1.own.lt j hj).1) (hI1.later ((Below.refl _ w1).alloc (Nat.le_refl _) (.cells #[.int .i64 (R i).op, .string (R i).t, .string (R i).f, .int .u64 ((R i).d : Int), .int .u64 ((R i).v : Int), .string (R i).h, .string (R i).b, .bool (R i).g] 24))).r2 (by omega) (by have := lt_of_row hI1.r2; simp; omega); have f33 := frozen_of_row w2 _ 3 _ _ rr3; have t33 := cell_of_row w2 _ 3 _ _ _ rr3)))
      all_goals
        go_wp2
        go_roundw
        case rel => exact ⟨i + 1, _, by omega, by go_num, by rw [HN.out]; exact hI2⟩
        case measure => simp [intOf]; omega
    · obtain rfl : i = n := by omega
      obtain ⟨q, d, rfl, hS⟩ := own_revs hI.own (fun j _ => hfit j)
      have ke := end_any hI.cur
      rw [← HEE.out] at ke
      have hv := hI.hv
      go_wp2_with fail
      refine ke.mono ?_
      rintro e w7 ⟨rfl, hq7⟩
      have r07 := only_row hq7 hI.r0 (by omega)
      have r27 := only_row hq7 hI.r2 (by omega)
      have own7 := own_only hI.own hq7 (by omega)
      have bel7 := hI.bel.trans (hq7.below (by omega) hI.bel.size)
      have hs7 := bel7.size
      have a0 := cell_of_row w7 _ 0 _ _ _ r07
      have a1 := cell_of_row w7 _ 1 _ _ _ r07
      have a2 := cell_of_row w7 _ 2 _ _ _ r07
      have a3 := cell_of_row w7 _ 3 _ _ _ r07
      have fa0 := frozen_of_row w7 _ 0 _ _ r07
      have fa1 := frozen_of_row w7 _ 1 _ _ r07
      have fa2 := frozen_of_row w7 _ 2 _ _ r07
      have fa3 := frozen_of_row w7 _ 3 _ _ r07
      have t0 := cell_of_row w7 _ 0 _ _ _ r27
      have t1 := cell_of_row w7 _ 1 _ _ _ r27
      have t2 := cell_of_row w7 _ 2 _ _ _ r27
      have t3 := cell_of_row w7 _ 3 _ _ _ r27
      by_cases hF : F = 0
      · subst hF
        obtain ⟨q', d', hqd, hS7⟩ := own_revs own7 (fun j _ => hfit j)
        injection hqd with hq' _ hd'
        subst hq' hd'
        have hal7 := hal q d w7 (hG.later bel7) hS7
        obtain ⟨y, hy⟩ : ∃ y, fe R i = y := ⟨_, rfl⟩
        rw [hy] at hal7
        have hEy : E = y := by rw [HRE.out, if_neg (by simp), hy]
        clear hy
        go_wp2_with fail
        refine hal7.mono ?_
        rintro e w8 ⟨rfl, hb8⟩
        have r08 := cell_later4 hb8 r07
        have r28 := cell_later4 hb8 r27
        have bel8 := bel7.trans (hb8.mono hs7)
        have hS8 := hS7.later hb8
        have b0 := cell_of_row w8 _ 0 _ _ _ r08
        have b1 := cell_of_row w8 _ 1 _ _ _ r08
        have b2 := cell_of_row w8 _ 2 _ _ _ r08
        have b3 := cell_of_row w8 _ 3 _ _ _ r08
        have fb0 := frozen_of_row w8 _ 0 _ _ r08
        have fb1 := frozen_of_row w8 _ 1 _ _ r08
        have fb2 := frozen_of_row w8 _ 2 _ _ r08
        have fb3 := frozen_of_row w8 _ 3 _ _ r08
        have u0 := cell_of_row w8 _ 0 _ _ _ r28
        have u1 := cell_of_row w8 _ 1 _ _ _ r28
        have u2 := cell_of_row w8 _ 2 _ _ _ r28
        have u3 := cell_of_row w8 _ 3 _ _ _ r28
        by_cases hy0 : y = 0
        · subst hy0
          go_wp2
          refine bodyPost_ret (v := .tuple #[.agg #[.int .u64 (seq : Int), .string prev, .int .u64 (tx : Int), .slice q i d], .int .i64 0]) (results_row_tmp Tryd.results29 _ _ w.heap.size 38 _ (0, 0) _ rfl (set4_row r08 _ _ _ _) Tryd.underlying38 rfl (by kernel_rfl)) rfl ?_
          rw [HPo.out, hEy]
          refine ⟨⟨seq, prev, tx, i, R⟩, q, d, rfl, fun _ => ⟨rfl, ?_⟩, fun h => absurd rfl h, set4_below bel8 w.heap.size (Nat.le_refl _) _ _ _ _⟩
          refine hS8.kept (w' := set4 w8 w.heap.size _ _ _ _) (by rw [set4_size]; omega) (fun g hg => set4_block _ _ _ _ _ _ _ ?_)
          have hown8 := own_laterN own7 hb8
          have : V + 1 ≤ g := (hown8.lt g (by cases q with | none => cases hg | some a => exact hg)).1
          omega
        · have hy1 : (y != 0) = true := by simpa using hy0
          have hEF := hEy
          go_wp2
          refine bodyPost_ret (v := .tuple #[.agg #[.int .u64 0, .string ⟨#[]⟩, .int .u64 0, .slice none 0 0], .int .i64 y]) (results_row_tmp Tryd.results29 _ _ w.heap.size 38 _ (0, 0) _ rfl (set4_row r08 _ _ _ _) Tryd.underlying38 rfl (by kernel_rfl)) rfl ?_
          rw [HPo.out, hEF]
          exact ⟨⟨0, ⟨#[]⟩, 0, 0, R⟩, none, 0, rfl, fun h => absurd h hy0, fun _ => ⟨rfl, rfl, rfl⟩, set4_below bel8 w.heap.size (Nat.le_refl _) _ _ _ _⟩
      · have hF1 : (F != 0) = true := by simpa using hF
        have hEF : E = F := by rw [HRE.out, if_pos hF]
        go_wp2
        refine bodyPost_ret (v := .tuple #[.agg #[.int .u64 0, .string ⟨#[]⟩, .int .u64 0, .slice none 0 0], .int .i64 F]) (results_row_tmp Tryd.results29 _ _ w.heap.size 38 _ (0, 0) _ rfl (set4_row r07 _ _ _ _) Tryd.underlying38 rfl (by kernel_rfl)) rfl ?_
        rw [HPo.out, hEF]
        exact ⟨⟨0, ⟨#[]⟩, 0, 0, R⟩, none, 0, rfl, fun h => absurd h hF, fun _ => ⟨rfl, rfl, rfl⟩, set4_below bel7 w.heap.size (Nat.le_refl _) _ _ _ _⟩
end Go.Proofs.YtaocbkloafhmeaaDoor
