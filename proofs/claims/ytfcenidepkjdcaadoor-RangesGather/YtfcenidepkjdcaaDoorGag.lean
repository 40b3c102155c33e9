/- RangesGather, called. -/
import Derived.Test.YtfcenidepkjdcaaDoorGta
namespace Go.Proofs.YtfcenidepkjdcaaDoor
open Go.RowKit Go.Shelf
attribute [local go_sem] Oper.semAt_some eql25 eql23
set_option maxRecDepth 100000 in
set_option maxHeartbeats 16000000 in
theorem gather_g (w : World) (l : List Rd) (pl : Option Addr) (cl : Nat) (lt : List Tc) (pt : Option Addr) (ct : Nat) (hg : V.Gm w) (hL : Lk w l pl) (hln : l.length ≤ maxLen) (hT : Tl w lt pt) (htn : lt.length ≤ maxLen) (h30 : 30 < l.length) :
    Calls Tryd.prog 4 #[.slice pl l.length cl, .slice pt lt.length ct] w fun e w' => e = .returned (.bool true) ∧ Below w.heap.size w w' := by
  obtain ⟨n, hn⟩ : ∃ n, l.length = n := ⟨_, rfl⟩
  have hnmax : (n : Int) ≤ 9223372036854775807 := by rw [← hn]; unfold maxLen at hln; omega
  have HL : Hid (Lk w l pl ∧ l.length = n) := ⟨hL, hn⟩
  rw [hn] at h30
  obtain ⟨nt, hnt⟩ : ∃ nt, lt.length = nt := ⟨_, rfl⟩
  have hntmax : (nt : Int) ≤ 9223372036854775807 := by rw [← hnt]; unfold maxLen at htn; omega
  have HT : Hid (Tl w lt pt ∧ lt.length = nt ∧ V.Gm w) := ⟨hT, hnt, hg⟩
  rw [hn, hnt]
  obtain ⟨w2, hw2⟩ : ∃ w2, (w.alloc (.cells #[.slice none 0 0] 40)).alloc (.cells #[] 25) = w2 := ⟨_, rfl⟩
  have hm0 : Sm w w2 w.heap.size (.slice none 0 0) (w.heap.size + 1) 0 [] := by
    rw [← hw2]
    refine ⟨⟨(Below.heap_alloc _ _ _ (by simp)).trans (heap_alloc_new w _), World.ownsRow_nil _ _ _ _, fun e => (by cases e)⟩, ?_, fun e => (by cases e), by omega, ((Below.refl _ w).alloc (Nat.le_refl _) _).alloc (by simp) _, Nat.le_refl _, fun x hx => (by cases hx)⟩
    have := World.ownsRow_made (base := w.heap.size) (e := 25) (size := 4) (w.alloc (.cells #[.slice none 0 0] 40)) #[] 0 (by simp) (Nat.zero_le _) rfl
    simpa [rows] using this
  have HM0 : Hid (Sm w w2 w.heap.size (.slice none 0 0) (w.heap.size + 1) 0 [] ∧ (w.alloc (.cells #[.slice none 0 0] 40)).alloc (.cells #[] 25) = w2) := ⟨hm0, hw2⟩
  clear hL hln hT htn hn hnt hg hm0 hw2
  go_enter Tryd.func4, Tryd.ntmps4
  go_wp2_with fail
  rename_i Q1 K1 a1
  obtain ⟨cT, hcT⟩ : ∃ c, cutA Tryd.f4.body = some c := ⟨_, rfl⟩
  have a3 : ∀ a w, Code.wp Tryd.prog cT Q1 a w → K1 a w := fun a w h => a1 a w (by have e := Option.some.inj (hcT.symm.trans (show cutA Tryd.f4.body = some _ from rfl)); rw [← e]; exact h)
  clear a1
  go_loopw [6, 7] (fun c6 c7 wr => ∃ (i : Nat) (M : List Rd) (v : Value) (gm cm : Nat), (i ≤ n ∧ i ≤ 30 ∧ M.length ≤ i) ∧ c6 = .slice (some ⟨gm, 0, none⟩) M.length cm ∧ c7 = .int .i64 (i : Int) ∧ Hid (Sm w wr w.heap.size v gm cm M)) (fun _ c7 _ => 30 - (intOf c7).toNat)
  case atStart =>
    refine ⟨0, [], .slice none 0 0, w.heap.size + 1, 0, ⟨Nat.zero_le _, by omega, Nat.le_refl _⟩, by simp, rfl, ?_⟩
    rw [HM0.out.2]
    exact HM0.out.1
  case round =>
    clear HM0
    obtain ⟨wo, rfl⟩ : ∃ wo, wo = wr := ⟨_, rfl⟩
    obtain ⟨i, M, v, gm, cm, ⟨hin, hi30, hMi⟩, rfl, rfl, hM⟩ := hrel
    by_cases hiN : i < n ∧ i < 30
    · obtain ⟨hi1, hi2⟩ := hiN
      have hi1' : (i : Int) < (n : Int) := by omega
      have hi2' : (i : Int) < 30 := by omega
      obtain ⟨r, hr⟩ : ∃ r, l[i]? = some r := ⟨_, List.getElem?_eq_getElem (by rw [HL.out.2]; exact hi1)⟩
      obtain ⟨b, o, rfl, hlt, hcs⟩ := HL.out.1 (by rw [HL.out.2]; omega)
      obtain ⟨a0, a1, a2, a3⟩ := (hcs i r hr).kept (hM.out.bel.block b hlt)
      obtain ⟨w1, hw1⟩ : ∃ w1, wo.alloc (.cells #[.string r.tb, .string r.fl, .string r.lo, .string r.hi] 25) = w1 := ⟨_, rfl⟩
      have hb1 : Below wo.heap.size wo w1 := by rw [← hw1]; exact (Below.refl _ wo).alloc (Nat.le_refl _) _
      have r1 : w1.heap[wo.heap.size]? = some (.cells #[.string r.tb, .string r.fl, .string r.lo, .string r.hi] 25 (0, 0)) := by rw [← hw1]; exact heap_alloc_new _ _
      have M1 := hM.out.later hb1
      have hzr : w.heap.size < wo.heap.size := lt_of_row hM.out.st.row
      have hvz : v.ownBlock ≠ some wo.heap.size := fun e => by have := (hM.out.st.own.lt _ e).2; omega
      have hgz : gm < wo.heap.size := (hM.out.lst.lt gm rfl).2
      have HM : Hid (Sm w w1 w.heap.size v gm cm M ∧ w1.heap[wo.heap.size]? = some (.cells #[.string r.tb, .string r.fl, .string r.lo, .string r.hi] 25 (0, 0)) ∧ w.heap.size < wo.heap.size ∧ v.ownBlock ≠ some wo.heap.size ∧ gm < wo.heap.size) := ⟨M1, r1, hzr, hvz, hgz⟩
      have c0 := cell_of_row w1 _ 0 _ _ _ r1
      have c1 := cell_of_row w1 _ 1 _ _ _ r1
      have c2 := cell_of_row w1 _ 2 _ _ _ r1
      have c3 := cell_of_row w1 _ 3 _ _ _ r1
      have hMmax : (M.length : Int) ≤ 30 := by omega
      clear hr hcs hlt hb1 r1 M1 hM hzr hvz hgz
      go_wp2_with fail
      go_loopw [9, 10] (fun c9 c10 wq => ∃ k : Nat, k ≤ M.length ∧ c9 = .bool ((M.take k).any (lwf r)) ∧ c10 = .int .i64 (k : Int) ∧ Hid (Below w1.heap.size w1 wq)) (fun _ c10 _ => M.length - (intOf c10).toNat)
      case atStart => exact ⟨0, Nat.zero_le _, by simp, rfl, Below.refl _ _⟩
      case round =>
        obtain ⟨k, hk, rfl, rfl, hbq⟩ := hrel
        have Mq := HM.out.1.later hbq.out
        have rq := (hbq.out.block _ (lt_of_row HM.out.2.1)).trans HM.out.2.1
        have c0 := cell_of_row wr _ 0 _ _ _ rq
        have c1 := cell_of_row wr _ 1 _ _ _ rq
        have c2 := cell_of_row wr _ 2 _ _ _ rq
        have c3 := cell_of_row wr _ 3 _ _ _ rq
        have HQ : Hid (Sm w wr w.heap.size v gm cm M ∧ wr.heap[wo.heap.size]? = some (.cells #[.string r.tb, .string r.fl, .string r.lo, .string r.hi] 25 (0, 0)) ∧ Below w1.heap.size w1 wr) := ⟨Mq, rq, hbq.out⟩
        clear Mq rq hbq
        by_cases hkM : k < M.length
        · obtain ⟨x, hx⟩ : ∃ x, M[k]? = some x := ⟨_, List.getElem?_eq_getElem hkM⟩
          have hkM' : (k : Int) < (M.length : Int) := by omega
          obtain ⟨a0, a1, a2, a3⟩ := HQ.out.1.at hx
          have hstep : (M.take (k + 1)).any (lwf r) = ((M.take k).any (lwf r) || (x.eq r || lw1 x r)) := by
            rw [List.take_add_one, hx, List.any_append]
            simp [lwf]
          have HS2 : Hid ((M.take (k + 1)).any (lwf r) = ((M.take k).any (lwf r) || (x.eq r || lw1 x r))) := hstep
          clear hstep hx
          obtain ⟨kn, hkn⟩ : ∃ kn, (M.take k).any (lwf r) = kn := ⟨_, rfl⟩
          have HKN : Hid ((M.take k).any (lwf r) = kn) := hkn
          rw [hkn]
          clear hkn
          have he := fun w => eql25 x.tb x.fl x.lo x.hi r.tb r.fl r.lo r.hi w
          have he2 := fun w => eql23 x.lo x.hi ⟨#[]⟩ ⟨#[]⟩ w
          cases kn with
          | true =>
            clear he he2
            go_wp2_with fail
            go_quiet (fail)
            go_wp2
            go_roundw
            case rel => exact ⟨k + 1, by omega, by rw [HS2.out, HKN.out]; rfl, by go_num, below_drewN HQ.out.2.2 _⟩
            case measure => simp [intOf]; omega
          | false =>
            cases h1 : x.eq r with
            | true =>
              have h1' : ((x.tb.toList == r.tb.toList) && ((x.fl.toList == r.fl.toList) && ((x.lo.toList == r.lo.toList) && (x.hi.toList == r.hi.toList)))) = true := h1
              rw [h1'] at he
              clear he2 h1'
              go_wp2_with fail
              go_quiet (fail)
              go_wp2
              go_roundw
              case rel => exact ⟨k + 1, by omega, by rw [HS2.out, HKN.out, h1]; rfl, by go_num, below_drewN HQ.out.2.2 _⟩
              case measure => simp [intOf]; omega
            | false =>
              have h1' : ((x.tb.toList == r.tb.toList) && ((x.fl.toList == r.fl.toList) && ((x.lo.toList == r.lo.toList) && (x.hi.toList == r.hi.toList)))) = false := h1
              rw [h1'] at he
              clear h1'
              cases h2 : (x.tb.toList == r.tb.toList) with
              | false =>
                clear he2
                have h2' : ¬ x.tb.toList = r.tb.toList := by simpa using h2
                have hl : lw1 x r = false := by unfold lw1; rw [h2]; rfl
                have HL1 : Hid (lw1 x r = false) := hl
                clear hl
                go_wp2_with fail
                go_quiet (fail)
                go_wp2
                go_roundw
                case rel => exact ⟨k + 1, by omega, by rw [HS2.out, HKN.out, h1, HL1.out]; rfl, by go_num, below_drewN HQ.out.2.2 _⟩
                case measure => simp [intOf]; omega
              | true =>
                have h2' : x.tb.toList = r.tb.toList := by simpa using h2
                cases h3 : x.fl.toList.isEmpty with
                | false =>
                  clear he2
                  have hl : lw1 x r = false := by rw [lw1_alt, h2, h3]; rfl
                  have HL1 : Hid (lw1 x r = false) := hl
                  clear hl
                  go_wp2_with fail
                  go_quiet (fail)
                  go_wp2
                  go_roundw
                  case rel => exact ⟨k + 1, by omega, by rw [HS2.out, HKN.out, h1, HL1.out]; rfl, by go_num, below_drewN HQ.out.2.2 _⟩
                  case measure => simp [intOf]; omega
                | true =>
                  have hl : lw1 x r = ((x.lo.toList == (⟨#[]⟩ : ByteArray).toList) && (x.hi.toList == (⟨#[]⟩ : ByteArray).toList)) := by rw [lw1_alt, h2, h3]; rfl
                  obtain ⟨q, hq⟩ : ∃ q, ((x.lo.toList == (⟨#[]⟩ : ByteArray).toList) && (x.hi.toList == (⟨#[]⟩ : ByteArray).toList)) = q := ⟨_, rfl⟩
                  rw [hq] at hl he2
                  have HL1 : Hid (lw1 x r = q) := hl
                  clear hl hq
                  go_wp2_with fail
                  go_quiet (fail)
                  go_wp2
                  go_roundw
                  case rel => exact ⟨k + 1, by omega, by rw [HS2.out, HKN.out, h1, HL1.out]; rfl, by go_num, below_drewN HQ.out.2.2 _⟩
                  case measure => simp [intOf]; omega
        · obtain rfl : k = M.length := by omega
          have hkn : M.any (lwf r) = knows M r := (knows_law HM.out.1.pl r).symm
          rw [List.take_length, hkn]
          clear hkn
          have kad := add_any r HQ.out.1.st HQ.out.1.bel.size (by omega)
          cases hK : knows M r with
          | true =>
            rw [hK, if_pos rfl] at kad
            go_wp2_with fail
            refine kad.mono ?_
            rintro e W4 ⟨v4, rfl, hst4, hch4⟩
            have hk4 := HQ.out.1.keep hch4
            have H4 : Hid (Sm w W4 w.heap.size v4 gm cm M) := ⟨hst4, hk4.1, hk4.2.1, HQ.out.1.ne2, hk4.2.2, HQ.out.1.old, HQ.out.1.pl⟩
            clear hst4 hch4 hk4 kad c0 c1 c2 c3
            go_wp2
            go_roundw
            case rel => exact ⟨i + 1, M, v4, gm, cm, ⟨by omega, by omega, by omega⟩, rfl, by go_num, H4⟩
            case measure => simp [intOf]; omega
          | false =>
            rw [hK, if_neg Bool.false_ne_true] at kad
            have hzl0 : wo.heap.size < wr.heap.size := lt_of_row HQ.out.2.1
            go_wp2_with fail
            refine kad.mono ?_
            rintro e W4 ⟨v4, rfl, hst4, hch4⟩
            have hk4 := HQ.out.1.keep hch4
            have r4 : W4.heap[wo.heap.size]? = some (.cells #[.string r.tb, .string r.fl, .string r.lo, .string r.hi] 25 (0, 0)) := (hch4.block wo.heap.size hzl0 (by have := HM.out.2.2.1; omega) HM.out.2.2.2.1).trans HQ.out.2.1
            have d0 := cell_of_row W4 _ 0 _ _ _ r4
            have d1 := cell_of_row W4 _ 1 _ _ _ r4
            have d2 := cell_of_row W4 _ 2 _ _ _ r4
            have d3 := cell_of_row W4 _ 3 _ _ _ r4
            have hzl : wo.heap.size < W4.heap.size := lt_of_row r4
            have own4 := hk4.1
            have hvz4 : v4.ownBlock ≠ some wo.heap.size := by
              rcases hch4.at' with e | ⟨g, e, hg⟩
              · rw [e]; exact HM.out.2.2.2.1
              · rw [e]; intro e2; injection e2 with e2; omega
            have H4 : Hid (St W4 w.heap.size w.heap.size v4 (addL M r) ∧ Below w.heap.size w W4 ∧ W4.heap[wo.heap.size]? = some (.cells #[.string r.tb, .string r.fl, .string r.lo, .string r.hi] 25 (0, 0)) ∧ (∀ x ∈ addL M r, plain x) ∧ v4.ownBlock ≠ some gm ∧ gm ≠ w.heap.size ∧ v4.ownBlock ≠ some wo.heap.size) := ⟨hst4, hk4.2.2, r4, plain_add HQ.out.1.pl r, hk4.2.1, HQ.out.1.ne2, hvz4⟩
            clear hst4 hch4 hk4 kad c0 c1 c2 c3 r4 hvz4
            cases hf : r.fl.toList.isEmpty with
            | false =>
              have hnw : ∀ j u, (rows M)[j]? = some u → W4.cell? ((⟨gm, 0, none⟩ : Addr).add j) = some u := (own4).cells (g := gm) rfl
              have hgl : gm < W4.heap.size := ((own4).lt gm rfl).2
              have hrl : (rows M).length = M.length * 4 := rows_len M
              have hr1 := rows_one M
              have hq1 : ∀ u ∈ r.cs, u.oneCell' = true := rows_one [r]
              have hm1 : 0 + M.length ≤ maxLen := by unfold maxLen; omega
              have hm2 : (0 + M.length) * 64 ≤ 140737488355328 := by omega
              have hm3 : M.length + 1 ≤ maxLen := by unfold maxLen; omega
              have hm4 : (M.length + 1) * 64 ≤ 140737488355328 := by omega

              obtain ⟨i0, hi, hz0, hz1, hz2⟩ := info_parts info25c
              go_wp2_with fail
              go_region_law (first | (refine step_append_at _ (by rfl) (.tmp 114) (.tmp 115) 36 (by rfl) W4.heap.size 25 i0 _ 4 64 Tryd.underlying36 hi hz0 hz1 hz2 (by rfl) (by decide) (.slice (some ⟨W4.heap.size, 0, none⟩) 0 0) 0 [] (by rfl) (own_a W4) ⟨gm, 0, none⟩ M.length cm (rows M) (by rfl) hrl (news_alloc hgl hnw _) hr1 hm1 hm2 (by simp) ?_; intro p5 c5 w5 hown5 hgr5; replace hgr5 : World.grownBy _ w5 (some (W4.heap.size)) := hgr5; have hb5 := below_grown (below_oned W4 _) hgr5 (by simp) (fun k hk => by injection hk with hk; omega); simp only [Nat.zero_add, List.nil_append] at hown5 ⊢; have e5 := fun o => (World.cell?_of_block (a := ⟨wo.heap.size, 0, none⟩) ((Below.heap_alloc w5 o _ (Nat.lt_of_lt_of_le hzl hb5.size)).trans (hb5.block _ hzl))); have k0 := (World.cell?_of_block (a := ⟨wo.heap.size, 0, none⟩) (hb5.block _ hzl)).trans d0; have k1 := (World.cell?_of_block (a := ⟨wo.heap.size, 1, none⟩) (hb5.block _ hzl)).trans d1; have k2 := (World.cell?_of_block (a := ⟨wo.heap.size, 2, none⟩) (hb5.block _ hzl)).trans d2; have k3 := (World.cell?_of_block (a := ⟨wo.heap.size, 3, none⟩) (hb5.block _ hzl)).trans d3; clear e5 hgr5) | (refine step_append_at _ (by rfl) (.tmp 114) (.tmp 115) 36 (by rfl) W4.heap.size 25 i0 _ 4 64 Tryd.underlying36 hi hz0 hz1 hz2 (by rfl) (by decide) (.slice (some ⟨W4.heap.size, 0, none⟩) 0 0) 0 [] (by rfl) ((own_a W4).alloc _) ⟨gm, 0, none⟩ M.length cm (rows M) (by rfl) hrl (news_alloc (Nat.lt_of_lt_of_le hgl (by simp)) (news_alloc hgl hnw _) _) hr1 hm1 hm2 (by simp; omega) ?_; intro p5 c5 w5 hown5 hgr5; replace hgr5 : World.grownBy _ w5 (some (W4.heap.size)) := hgr5; have hgq := (hgr5.block (W4.heap.size + 1) (by simp) (fun e => by injection e with e; omega)).trans (new_b W4 _ _); have hb5 := below_grown (below_twod W4 _ _) hgr5 (by simp; omega) (fun k hk => by injection hk with hk; omega); simp only [Nat.zero_add, List.nil_append] at hown5 ⊢; clear hgr5) | (refine step_append_at _ (by rfl) (.tmp 114) (.tmp 115) 36 (by rfl) W4.heap.size 25 i0 _ 4 64 Tryd.underlying36 hi hz0 hz1 hz2 (by rfl) (by decide) (.slice (some ⟨W4.heap.size + 1, 0, none⟩) 0 0) 0 [] (by rfl) (own_c W4 _) ⟨gm, 0, none⟩ M.length cm (rows M) (by rfl) hrl (news_alloc (Nat.lt_of_lt_of_le hgl (by simp)) (news_alloc hgl hnw _) _) hr1 hm1 hm2 (by simp; omega) ?_; intro p5 c5 w5 hown5 hgr5; replace hgr5 : World.grownBy _ w5 (some (W4.heap.size + 1)) := hgr5; have hgq := (hgr5.block W4.heap.size (by simp; omega) (fun e => by injection e with e; omega)).trans (new_c W4 _ _); have hb5 := below_grown (below_twod W4 _ _) hgr5 (by simp; omega) (fun k hk => by injection hk with hk; omega); simp only [Nat.zero_add, List.nil_append] at hown5 ⊢; clear hgr5) | (refine step_append_at _ (by rfl) (.tmp 116) (.tmp 118) 36 (by rfl) W4.heap.size 25 i0 _ 4 64 Tryd.underlying36 hi hz0 hz1 hz2 (by rfl) (by decide) (.slice p5 M.length c5) M.length (rows M) (by rfl) (hown5.alloc _) ⟨w5.heap.size, 0, none⟩ 1 1 r.cs (by rfl) (by rfl) (World.news_of_block (heap_alloc_new w5 _)) hq1 hm3 hm4 (by have := hb5.size; simp; omega) ?_; intro p6 c6 w6 hown6 hgr6; have hb6 := below_grown (hb5.alloc hb5.size _) hgr6 (by have := hb5.size; simp; omega) (fun k hk => (hown5.lt k hk).1); clear hgr6 hown5 hb5) | (refine step_append_at _ (by rfl) (.tmp 116) (.tmp 118) 36 (by rfl) W4.heap.size 25 i0 _ 4 64 Tryd.underlying36 hi hz0 hz1 hz2 (by rfl) (by decide) (.slice p5 M.length c5) M.length (rows M) (by rfl) (hown5) ⟨W4.heap.size + 1, 0, none⟩ 1 1 r.cs (by rfl) (by rfl) (World.news_of_block hgq) hq1 hm3 hm4 (hb5.size) ?_; intro p6 c6 w6 hown6 hgr6; have hb6 := below_grown (hb5) hgr6 (hb5.size) (fun k hk => (hown5.lt k hk).1); clear hgr6 hown5 hb5) | (refine step_append_at _ (by rfl) (.tmp 116) (.tmp 118) 36 (by rfl) W4.heap.size 25 i0 _ 4 64 Tryd.underlying36 hi hz0 hz1 hz2 (by rfl) (by decide) (.slice p5 M.length c5) M.length (rows M) (by rfl) (hown5) ⟨W4.heap.size, 0, none⟩ 1 1 r.cs (by rfl) (by rfl) (World.news_of_block hgq) hq1 hm3 hm4 (hb5.size) ?_; intro p6 c6 w6 hown6 hgr6; have hb6 := below_grown (hb5) hgr6 (hb5.size) (fun k hk => (hown5.lt k hk).1); clear hgr6 hown5 hb5))
              all_goals
                obtain ⟨gm2, e9, -, hs9⟩ := Sm.fresh (M := addL M r) H4.out.1 (Nat.le_refl _) H4.out.2.1 hb6 (by rw [add_some hf, List.length_append, rows_app]; simpa [rows] using hown6) (by rw [add_some hf]; simp) H4.out.2.2.2.1
                subst e9
                have H9 : Hid (Sm w w6 w.heap.size v4 gm2 c6 (addL M r)) := hs9
                have hl9 : (addL M r).length = M.length + 1 := by rw [add_some hf]; simp
                have HL9 : Hid ((addL M r).length = M.length + 1) := hl9
                clear hs9 hl9 hown6 hb6
                go_wp2
                go_roundw
                case rel => exact ⟨i + 1, addL M r, v4, gm2, c6, ⟨by omega, by omega, by rw [HL9.out]; omega⟩, by rw [HL9.out], by go_num, H9⟩
                case measure => simp [intOf]; omega
            | true =>
              obtain ⟨wi, rfl⟩ : ∃ wi, wi = wr := ⟨_, rfl⟩
              have hre : r.fl = ⟨#[]⟩ := empty_of hf
              obtain ⟨W5, hW5⟩ : ∃ W5, W4.setCells wo.heap.size 2 [.string ⟨#[]⟩, .string ⟨#[]⟩] = W5 := ⟨_, rfl⟩
              have r5 : W5.heap[wo.heap.size]? = some (.cells #[.string r.tb, .string ⟨#[]⟩, .string ⟨#[]⟩, .string ⟨#[]⟩] 25 (0, 0)) := by
                have h := heap_setCells_cut wo.heap.size 25 [.string ⟨#[]⟩, .string ⟨#[]⟩] 2 W4 _ H4.out.2.2.1 (by show 4 ≤ 4; omega)
                rw [hre] at h
                rw [← hW5]
                exact h
              have o5 : ∀ k, k ≠ wo.heap.size → W5.heap[k]? = W4.heap[k]? := fun k hk => by rw [← hW5]; exact heap_setCells_else _ k hk _ _ _
              have hs5 : W5.heap.size = W4.heap.size := by rw [← hW5]; exact size_setCells _ _ _ _
              have hzw : w.heap.size < wo.heap.size := HM.out.2.2.1
              have b5 : Below w.heap.size w W5 := by rw [← hW5]; exact below_setCells' (Nat.le_of_lt hzw) _ _ _ H4.out.2.1
              have st5 : St W5 w.heap.size w.heap.size v4 (addL M r) := ⟨(o5 _ (by omega)).trans H4.out.1.row, own_later H4.out.1.own (fun k hk => o5 k (fun e => H4.out.2.2.2.2.2.2 (by rw [hk, e]))), H4.out.1.ne⟩
              have own5 := own_later own4 (w' := W5) (fun k hk => o5 k (by have e : gm = k := by injection hk
                                                                           have := HM.out.2.2.2.2; omega))
              have ht : W4.there wo.heap.size 2 2 := by
                intro j hj
                refine ⟨?_, frozen_of_row W4 _ _ _ _ H4.out.2.2.1⟩
                rw [cell_of_row W4 wo.heap.size (2 + j) _ 25 _ H4.out.2.2.1]
                simp
                omega
              have hone : (#[.string ⟨#[]⟩, .string ⟨#[]⟩] : Array Value).all (·.oneCell') = true := by decide +kernel
              have H5 : Hid (St W5 w.heap.size w.heap.size v4 (addL M r) ∧ Below w.heap.size w W5 ∧ W5.heap[wo.heap.size]? = some (.cells #[.string r.tb, .string ⟨#[]⟩, .string ⟨#[]⟩, .string ⟨#[]⟩] 25 (0, 0)) ∧ (∀ x ∈ addL M r, plain x) ∧ W5.ownsRow w.heap.size 25 4 (.slice (some ⟨gm, 0, none⟩) M.length cm) M.length (rows M) ∧ w.heap.size < wo.heap.size) := ⟨st5, b5, r5, H4.out.2.2.2.1, own5, hzw⟩
              have HW5 : Hid (W4.setCells wo.heap.size 2 [.string ⟨#[]⟩, .string ⟨#[]⟩] = W5) := hW5
              obtain ⟨p, hp⟩ : ∃ p : Rd → Bool, (fun x : Rd => x.tb.toList == r.tb.toList) = p := ⟨_, rfl⟩
              have hpx : ∀ x : Rd, (x.tb.toList == r.tb.toList) = p x := fun x => by rw [← hp]
              have HA : Hid (addL M r = M.filter (fun x => !p x) ++ [whR r]) := by
                have := add_all (M := M) hf
                rw [show (fun x : Rd => !(x.tb.toList == r.tb.toList)) = (fun x => !p x) from by funext x; rw [hpx x]] at this
                exact this
              have HP : Hid (∀ x : Rd, (x.tb.toList == r.tb.toList) = p x) := hpx
              clear hW5 r5 o5 hs5 b5 st5 own5 own4 hzw hp hpx hre
              obtain ⟨i0, hi, hz0, hz1, hz2⟩ := info_parts info25c
              go_wp2_with (refine wpList_store_mid rfl 23 (.tmp 90) (.tmp 89) rfl wo.heap.size 2 #[.string ⟨#[]⟩, .string ⟨#[]⟩] rfl rfl ht info23 hone ?_; refine (show wpList _ _ _ _ _ (W4.setCells wo.heap.size 2 [.string ⟨#[]⟩, .string ⟨#[]⟩]) from ?_); rw [HW5.out])
              clear d0 d1 d2 d3 ht
              go_loopw [11, 12] (fun c11 c12 wq => ∃ (k gr cr : Nat), k ≤ M.length ∧ c11 = .slice (some ⟨gr, 0, none⟩) ((M.take k).filter (fun x => !p x)).length cr ∧ c12 = .int .i64 (k : Int) ∧ Hid (wq.ownsRow W5.heap.size 25 4 (.slice (some ⟨gr, 0, none⟩) ((M.take k).filter (fun x => !p x)).length cr) ((M.take k).filter (fun x => !p x)).length (rows ((M.take k).filter (fun x => !p x))) ∧ Below W5.heap.size W5 wq)) (fun _ c12 _ => M.length - (intOf c12).toNat)
              case atStart =>
                refine ⟨0, W5.heap.size, 0, Nat.zero_le _, by simp, rfl, ?_⟩
                have hh : (W5.alloc (.cells #[] 25)).ownsRow W5.heap.size 25 4 (.slice (some ⟨W5.heap.size, 0, none⟩) 0 0) 0 [] ∧ Below W5.heap.size W5 (W5.alloc (.cells #[] 25)) := ⟨own_a W5, below_one W5 _⟩
                exact hh
              case round =>
                obtain ⟨k, gr, cr, hk, rfl, rfl, hh⟩ := hrel
                have mr := own_later H5.out.2.2.2.2.1 (w' := wr) (fun k hk => hh.out.2.block k (H5.out.2.2.2.2.1.lt k hk).2)
                have rr := (hh.out.2.block _ (lt_of_row H5.out.2.2.1)).trans H5.out.2.2.1
                have d0 := cell_of_row wr _ 0 _ _ _ rr
                have d1 := cell_of_row wr _ 1 _ _ _ rr
                have d2 := cell_of_row wr _ 2 _ _ _ rr
                have d3 := cell_of_row wr _ 3 _ _ _ rr
                by_cases hkM : k < M.length
                · obtain ⟨x, hx⟩ : ∃ x, M[k]? = some x := ⟨_, List.getElem?_eq_getElem hkM⟩
                  have hkM' : (k : Int) < (M.length : Int) := by omega
                  obtain ⟨a0, a1, a2, a3⟩ := own_at4 mr hx
                  have hst := filter_step p M k x hx
                  have HH : Hid (wr.ownsRow W5.heap.size 25 4 (.slice (some ⟨gr, 0, none⟩) ((M.take k).filter (fun x => !p x)).length cr) ((M.take k).filter (fun x => !p x)).length (rows ((M.take k).filter (fun x => !p x))) ∧ Below W5.heap.size W5 wr ∧ (M.take (k + 1)).filter (fun x => !p x) = (M.take k).filter (fun x => !p x) ++ (if p x = true then [] else [x])) := ⟨hh.out.1, hh.out.2, hst⟩
                  have hlF : ((M.take k).filter (fun x => !p x)).length ≤ 30 := Nat.le_trans (List.length_filter_le _ _) (by rw [List.length_take]; omega)
                  obtain ⟨F, hF⟩ : ∃ F, (M.take k).filter (fun x => !p x) = F := ⟨_, rfl⟩
                  rw [hF] at HH hlF ⊢
                  clear hst hh mr rr hx hF
                  cases h2 : p x with
                  | true =>
                    have h2' : (x.tb.toList == r.tb.toList) = true := (HP.out x).trans h2
                    have h2'' : x.tb.toList = r.tb.toList := by simpa using h2'
                    go_wp2_with fail
                    go_quiet (fail)
                    go_wp2
                    go_roundw
                    case rel =>
                      have e9 : (M.take (k + 1)).filter (fun x => !p x) = F := by rw [HH.out.2.2, if_pos h2, List.append_nil]
                      refine ⟨k + 1, gr, cr, by omega, by rw [e9], by go_num, ?_⟩
                      rw [e9]
                      exact ⟨HH.out.1, below_drewN HH.out.2.1 _⟩
                    case measure => simp [intOf]; omega
                  | false =>
                    have h2' : (x.tb.toList == r.tb.toList) = false := (HP.out x).trans h2
                    have h2'' : ¬ x.tb.toList = r.tb.toList := by simpa using h2'
                    go_wp2_with fail
                    go_quiet (fail)
                    obtain ⟨wy, hwy⟩ : ∃ wy, wr.drewN nq = wy := ⟨_, rfl⟩
                    have owny : wy.ownsRow W5.heap.size 25 4 (.slice (some ⟨gr, 0, none⟩) F.length cr) F.length (rows F) := by rw [← hwy]; exact HH.out.1
                    have bely : Below W5.heap.size W5 wy := by rw [← hwy]; exact below_drewN HH.out.2.1 _
                    have a0y : wy.cell? ⟨gm, k * 4, none⟩ = some (.string x.tb) := by rw [← hwy]; exact a0
                    have a1y : wy.cell? ⟨gm, k * 4 + 1, none⟩ = some (.string x.fl) := by rw [← hwy]; exact a1
                    have a2y : wy.cell? ⟨gm, k * 4 + 2, none⟩ = some (.string x.lo) := by rw [← hwy]; exact a2
                    have a3y : wy.cell? ⟨gm, k * 4 + 3, none⟩ = some (.string x.hi) := by rw [← hwy]; exact a3
                    have hx1 : ∀ u ∈ x.cs, u.oneCell' = true := rows_one [x]
                    have hm5 : F.length + 1 ≤ maxLen := by unfold maxLen; omega
                    have hm6 : (F.length + 1) * 64 ≤ 140737488355328 := by omega
                    have hsz5 : W5.heap.size ≤ (wy.alloc (.cells #[.string x.tb, .string x.fl, .string x.lo, .string x.hi] 25)).heap.size := by have := bely.size; simp; omega
                    rw [hwy]
                    have HY : Hid (Below W5.heap.size W5 wy) := bely
                    clear hwy a0 a1 a2 a3 d0 d1 d2 d3 bely h2'' h2'
                    go_wp2_with (at_builtin; refine wpList_append_own_at _ rfl _ _ 36 rfl W5.heap.size 25 i0 _ 4 64 Tryd.underlying36 hi hz0 hz1 hz2 rfl (by decide) _ _ _ rfl (owny.alloc _) ⟨wy.heap.size, 0, none⟩ 1 1 x.cs rfl rfl (World.news_of_block (heap_alloc_new wy _)) hx1 hm5 hm6 hsz5 ?_)
                    intro v7 w7 hown7 hgr7 _ hat7
                    have e9 : (M.take (k + 1)).filter (fun x => !p x) = F ++ [x] := by rw [HH.out.2.2, if_neg (by rw [h2]; exact Bool.false_ne_true)]
                    have hl9 : (F ++ [x]).length = F.length + 1 := by simp
                    have hown8 : w7.ownsRow W5.heap.size 25 4 v7 (F ++ [x]).length (rows (F ++ [x])) := by rw [hl9, rows_app]; simpa [rows] using hown7
                    have bel8 := below_grown (HY.out.alloc HY.out.size _) hgr7 hsz5 (fun k hk => (owny.lt k hk).1)
                    obtain ⟨g8, c8, cur8, t8, rfl, -⟩ := own_row hown8 (by rw [hl9]; omega)
                    have H8 : Hid (w7.ownsRow W5.heap.size 25 4 (.slice (some ⟨g8, 0, none⟩) (F ++ [x]).length c8) (F ++ [x]).length (rows (F ++ [x])) ∧ Below W5.heap.size W5 w7 ∧ (M.take (k + 1)).filter (fun x => !p x) = F ++ [x]) := ⟨hown8, bel8, e9⟩
                    clear hown7 hgr7 hat7 hown8 bel8 e9 owny hl9 hsz5 a0y a1y a2y a3y
                    go_wp2
                    go_roundw
                    case rel =>
                      refine ⟨k + 1, g8, c8, by omega, by rw [H8.out.2.2], by go_num, ?_⟩
                      rw [H8.out.2.2]
                      exact ⟨H8.out.1, H8.out.2.1⟩
                    case measure => simp [intOf]; omega
                · obtain rfl : k = M.length := by omega
                  rw [List.take_length] at hh ⊢
                  obtain ⟨R, hR⟩ : ∃ R, M.filter (fun x => !p x) = R := ⟨_, rfl⟩
                  have hRl : R.length ≤ M.length := by rw [← hR]; exact List.length_filter_le _ _
                  have HR : Hid (addL M r = R ++ [whR r]) := by
                    have := HA.out
                    rw [hR] at this
                    exact this
                  rw [hR] at hh ⊢
                  have ownR := hh.out.1
                  have hzl : wo.heap.size < wr.heap.size := lt_of_row rr
                  have H6 : Hid (St wr w.heap.size w.heap.size v4 (addL M r) ∧ Below w.heap.size w wr) := ⟨H5.out.1.later hh.out.2, H5.out.2.1.trans (hh.out.2.mono H5.out.2.1.size)⟩
                  clear hR hh mr rr hkM
                  have hnw : ∀ j u, (rows R)[j]? = some u → wr.cell? ((⟨gr, 0, none⟩ : Addr).add j) = some u := (ownR).cells (g := gr) rfl
                  have hgl : gr < wr.heap.size := ((ownR).lt gr rfl).2
                  have hrl : (rows R).length = R.length * 4 := rows_len R
                  have hr1 := rows_one R
                  have hq1 : ∀ u ∈ (whR r).cs, u.oneCell' = true := rows_one [(whR r)]
                  have hm1 : 0 + R.length ≤ maxLen := by unfold maxLen; omega
                  have hm2 : (0 + R.length) * 64 ≤ 140737488355328 := by omega
                  have hm3 : R.length + 1 ≤ maxLen := by unfold maxLen; omega
                  have hm4 : (R.length + 1) * 64 ≤ 140737488355328 := by omega

                  go_wp2_with fail
                  go_region_law (first | (refine step_append_at _ (by rfl) (.tmp 114) (.tmp 115) 36 (by rfl) wr.heap.size 25 i0 _ 4 64 Tryd.underlying36 hi hz0 hz1 hz2 (by rfl) (by decide) (.slice (some ⟨wr.heap.size, 0, none⟩) 0 0) 0 [] (by rfl) (own_a wr) ⟨gr, 0, none⟩ R.length cr (rows R) (by rfl) hrl (news_alloc hgl hnw _) hr1 hm1 hm2 (by simp) ?_; intro p5 c5 w5 hown5 hgr5; replace hgr5 : World.grownBy _ w5 (some (wr.heap.size)) := hgr5; have hb5 := below_grown (below_oned wr _) hgr5 (by simp) (fun k hk => by injection hk with hk; omega); simp only [Nat.zero_add, List.nil_append] at hown5 ⊢; have e5 := fun o => (World.cell?_of_block (a := ⟨wo.heap.size, 0, none⟩) ((Below.heap_alloc w5 o _ (Nat.lt_of_lt_of_le hzl hb5.size)).trans (hb5.block _ hzl))); have k0 := (World.cell?_of_block (a := ⟨wo.heap.size, 0, none⟩) (hb5.block _ hzl)).trans d0; have k1 := (World.cell?_of_block (a := ⟨wo.heap.size, 1, none⟩) (hb5.block _ hzl)).trans d1; have k2 := (World.cell?_of_block (a := ⟨wo.heap.size, 2, none⟩) (hb5.block _ hzl)).trans d2; have k3 := (World.cell?_of_block (a := ⟨wo.heap.size, 3, none⟩) (hb5.block _ hzl)).trans d3; clear e5 hgr5) | (refine step_append_at _ (by rfl) (.tmp 114) (.tmp 115) 36 (by rfl) wr.heap.size 25 i0 _ 4 64 Tryd.underlying36 hi hz0 hz1 hz2 (by rfl) (by decide) (.slice (some ⟨wr.heap.size, 0, none⟩) 0 0) 0 [] (by rfl) ((own_a wr).alloc _) ⟨gr, 0, none⟩ R.length cr (rows R) (by rfl) hrl (news_alloc (Nat.lt_of_lt_of_le hgl (by simp)) (news_alloc hgl hnw _) _) hr1 hm1 hm2 (by simp; omega) ?_; intro p5 c5 w5 hown5 hgr5; replace hgr5 : World.grownBy _ w5 (some (wr.heap.size)) := hgr5; have hgq := (hgr5.block (wr.heap.size + 1) (by simp) (fun e => by injection e with e; omega)).trans (new_b wr _ _); have hb5 := below_grown (below_twod wr _ _) hgr5 (by simp; omega) (fun k hk => by injection hk with hk; omega); simp only [Nat.zero_add, List.nil_append] at hown5 ⊢; clear hgr5) | (refine step_append_at _ (by rfl) (.tmp 114) (.tmp 115) 36 (by rfl) wr.heap.size 25 i0 _ 4 64 Tryd.underlying36 hi hz0 hz1 hz2 (by rfl) (by decide) (.slice (some ⟨wr.heap.size + 1, 0, none⟩) 0 0) 0 [] (by rfl) (own_c wr _) ⟨gr, 0, none⟩ R.length cr (rows R) (by rfl) hrl (news_alloc (Nat.lt_of_lt_of_le hgl (by simp)) (news_alloc hgl hnw _) _) hr1 hm1 hm2 (by simp; omega) ?_; intro p5 c5 w5 hown5 hgr5; replace hgr5 : World.grownBy _ w5 (some (wr.heap.size + 1)) := hgr5; have hgq := (hgr5.block wr.heap.size (by simp; omega) (fun e => by injection e with e; omega)).trans (new_c wr _ _); have hb5 := below_grown (below_twod wr _ _) hgr5 (by simp; omega) (fun k hk => by injection hk with hk; omega); simp only [Nat.zero_add, List.nil_append] at hown5 ⊢; clear hgr5) | (refine step_append_at _ (by rfl) (.tmp 116) (.tmp 118) 36 (by rfl) wr.heap.size 25 i0 _ 4 64 Tryd.underlying36 hi hz0 hz1 hz2 (by rfl) (by decide) (.slice p5 R.length c5) R.length (rows R) (by rfl) (hown5.alloc _) ⟨w5.heap.size, 0, none⟩ 1 1 (whR r).cs (by rfl) (by rfl) (World.news_of_block (heap_alloc_new w5 _)) hq1 hm3 hm4 (by have := hb5.size; simp; omega) ?_; intro p6 c6 w6 hown6 hgr6; have hb6 := below_grown (hb5.alloc hb5.size _) hgr6 (by have := hb5.size; simp; omega) (fun k hk => (hown5.lt k hk).1); clear hgr6 hown5 hb5) | (refine step_append_at _ (by rfl) (.tmp 116) (.tmp 118) 36 (by rfl) wr.heap.size 25 i0 _ 4 64 Tryd.underlying36 hi hz0 hz1 hz2 (by rfl) (by decide) (.slice p5 R.length c5) R.length (rows R) (by rfl) (hown5) ⟨wr.heap.size + 1, 0, none⟩ 1 1 (whR r).cs (by rfl) (by rfl) (World.news_of_block hgq) hq1 hm3 hm4 (hb5.size) ?_; intro p6 c6 w6 hown6 hgr6; have hb6 := below_grown (hb5) hgr6 (hb5.size) (fun k hk => (hown5.lt k hk).1); clear hgr6 hown5 hb5) | (refine step_append_at _ (by rfl) (.tmp 116) (.tmp 118) 36 (by rfl) wr.heap.size 25 i0 _ 4 64 Tryd.underlying36 hi hz0 hz1 hz2 (by rfl) (by decide) (.slice p5 R.length c5) R.length (rows R) (by rfl) (hown5) ⟨wr.heap.size, 0, none⟩ 1 1 (whR r).cs (by rfl) (by rfl) (World.news_of_block hgq) hq1 hm3 hm4 (hb5.size) ?_; intro p6 c6 w6 hown6 hgr6; have hb6 := below_grown (hb5) hgr6 (hb5.size) (fun k hk => (hown5.lt k hk).1); clear hgr6 hown5 hb5))
                  all_goals
                    obtain ⟨gm2, e9, -, hs9⟩ := Sm.fresh (M := addL M r) H6.out.1 (Nat.le_refl _) H6.out.2 hb6 (by rw [HR.out, List.length_append, rows_app]; simpa [rows] using hown6) (by rw [HR.out]; simp) H5.out.2.2.2.1
                    subst e9
                    have H9 : Hid (Sm w w6 w.heap.size v4 gm2 c6 (addL M r)) := hs9
                    have HL9 : Hid ((addL M r).length = R.length + 1) := by
                      have : (addL M r).length = R.length + 1 := by rw [HR.out]; simp
                      exact this
                    clear hs9 hown6 hb6
                    go_wp2
                    go_roundw
                    case rel => exact ⟨i + 1, addL M r, v4, gm2, c6, ⟨by omega, by omega, by rw [HL9.out]; omega⟩, by rw [HL9.out], by go_num, H9⟩
                    case measure => simp [intOf]; omega
    · have hi1' : (i : Int) < (n : Int) := by omega
      obtain rfl : i = 30 := by omega
      have hM30 : M.length ≤ 30 := by omega
      go_wp2_with fail
      exact gtail w wo lt pt ct nt v gm cm M _ _ _ _ _ _ _ _ _ _ _ _ _ _ _ _ _ _ _ _ _ _ _ _ _ _ _ _ _ _ _ _ _ _ _ _ _ _ _ _ _ _ _ _ _ _ _ _ _ _ _ _ _ _ _ _ _ _ _ _ _ _ _ _ _ _ _ _ _ _ _ _ _ _ _ _ _ _ _ _ _ _ _ _ _ _ _ _ _ _ _ _ _ _ _ _ _ _ _ _ _ _ _ _ _ _ _ _ _ _ _ _ _ _ _ _ _ _ _ _ _ _ _ _ _ _ _ _ _ _ _ _ _ _ _ _ _ _ _ _ _ _ _ _ _ _ _ _ _ _ _ _ _ _ _ _ _ _ _ _ _ _ _ _ _ _ _ _ _ _ _ _ _ _ _ _ _ _ _ _ _ _ _ _ _ _ _ _ _ hntmax hM30 HT hM cT hcT
end Go.Proofs.YtfcenidepkjdcaaDoor
