/- ValueStructs' walk: the loop over parts; two lists grow side by side. -/
import Derived.Test.YtjmjlijmeahmfaaVsf
namespace Go.Proofs.Ytjmjlijmeahmfaa
open Go.RowKit Go.Lib
attribute [local go_sem] Oper.semAt_some
theorem one_cs (t : Tr) (x : Ad) : ∀ u ∈ (#[.int .i64 t.k, .bool t.b, .int .i64 t.n, .string t.s, .slice x.pa t.m x.pc, .slice x.na t.q x.nc] : Array Value).toList, u.oneCell' = true := fun u hu => cs_one' t x u hu
theorem own_other {W W' : World} {base E1 E2 s1 s2 n1 n2 : Nat} {v1 v2 : Value} {L1 L2 : List Value} (h : W.ownsRow base E1 s1 v1 n1 L1) (h2 : W.ownsRow base E2 s2 v2 n2 L2) (hne : E1 ≠ E2) (hg : W.grownBy W' v2.ownBlock) : W'.ownsRow base E1 s1 v1 n1 L1 :=
  own_kept h (fun k hk => hg.block k (h.lt k hk).2 (own_ne h h2 hne k hk))
theorem own_below {W W' : World} {base E s n : Nat} {v : Value} {L : List Value} (h : W.ownsRow base E s v n L) (hb : Below W.heap.size W W') : W'.ownsRow base E s v n L := own_kept h (fun k hk => hb.block k (h.lt k hk).2)
set_option maxRecDepth 100000 in
set_option maxHeartbeats 16000000 in
theorem tail1 (w wr : World) (m pc qn : Nat) (pa : Option Addr) (F T : Nat → Tr) (X A0 : Nat → Ad) (G : Nat → ByteArray) (ask : ByteArray) (v7 v8 v9 : Value) (y0 y3 y4 y5 y6 y10 y11 y12 y13 y14 y15 y16 y17 y18 y19 y20 y21 y22 y23 y24 y25 y26 y27 y28 y29 y30 y31 y32 y33 y34 y35 y36 y37 y38 y39 y40 y41 y42 y43 y44 y45 y46 y47 y48 y49 y50 y51 y52 y53 y54 y55 y56 y57 y58 y59 y60 y61 y62 y63 y64 y65 y66 y67 y68 y69 y70 y71 y72 y73 y74 y75 y76 y77 y78 y79 y80 y81 y82 y83 y84 y85 y86 y87 y88 y89 y90 y91 y92 y93 y94 y95 y96 y97 y98 y99 y100 y101 y102 y103 y104 y105 y106 y107 y108 y109 y110 y111 y112 y113 y114 y115 y116 y117 y118 y119 y120 y121 y122 y123 y124 y125 y126 y127 y128 y129 y130 y131 y132 y133 y134 y135 y136 y137 y138 y139 y140 y141 y142 y143 y144 y145 y146 y147 y148 y149 y150 y151 y152 y153 y154 y155 y156 y157 y158 y159 y160 y161 y162 y163 y164 y165 y166 y167 y168 y169 y170 y171 y172 y173 y174 y175 y176 y177 y178 y179 y180 y181 y182 y183 y184 y185 y186 y187 y188 y189 y190 y191 y192 : Value) (hask : ask.size ≤ maxLen) (hqn : qn ≤ 12) (hmn : (m : Int) ≤ 9223372036854775807) (HP : Hid (0 < m → ∃ b o, pa = some ⟨b, o, none⟩ ∧ b < w.heap.size ∧ ∀ i, i < m → At6 w b (o + i * 6) (F i) (X i))) (HR : Hid (∀ i, i < m → Lies w.heap.size w (F i) (X i))) (HT : Hid (∀ j, T j = cutT (F j) 2 3)) (HGS : Hid (∀ i, i < qn → (G i).size ≤ maxLen))
    (H0 : Hid (Two w.heap.size wr v8 v9 0 0 T A0 A0 ∧ wr.ownsRow w.heap.size 9 1 v7 qn ((List.range qn).flatMap (cN G)) ∧ Below w.heap.size w wr)) (cc : Code) (hcc : cutB Try.f7.body = some cc) :
    Code.wp Try.prog cc (bodyPost Try.prog Try.f7 fun e w' => e = .returned (.bool true) ∧ Below w.heap.size w w') ⟨List.toArray (y0 :: .slice pa m pc :: .string ask :: y3 :: y4 :: y5 :: y6 :: v7 :: v8 :: v9 :: y10 :: y11 :: y12 :: y13 :: y14 :: y15 :: y16 :: y17 :: y18 :: y19 :: y20 :: y21 :: y22 :: y23 :: y24 :: y25 :: y26 :: y27 :: y28 :: y29 :: y30 :: y31 :: y32 :: y33 :: y34 :: y35 :: y36 :: y37 :: y38 :: y39 :: y40 :: y41 :: y42 :: y43 :: y44 :: y45 :: y46 :: y47 :: y48 :: y49 :: y50 :: y51 :: y52 :: y53 :: y54 :: y55 :: y56 :: y57 :: y58 :: y59 :: y60 :: y61 :: y62 :: y63 :: y64 :: y65 :: y66 :: y67 :: y68 :: y69 :: y70 :: y71 :: y72 :: y73 :: y74 :: y75 :: y76 :: y77 :: y78 :: y79 :: y80 :: y81 :: y82 :: y83 :: y84 :: y85 :: y86 :: y87 :: y88 :: y89 :: y90 :: y91 :: y92 :: y93 :: y94 :: y95 :: y96 :: y97 :: y98 :: y99 :: y100 :: y101 :: y102 :: y103 :: y104 :: y105 :: y106 :: y107 :: y108 :: y109 :: y110 :: y111 :: y112 :: y113 :: y114 :: y115 :: y116 :: y117 :: y118 :: y119 :: y120 :: y121 :: y122 :: y123 :: y124 :: y125 :: y126 :: y127 :: y128 :: y129 :: y130 :: y131 :: y132 :: y133 :: y134 :: y135 :: y136 :: y137 :: y138 :: y139 :: y140 :: y141 :: y142 :: y143 :: y144 :: y145 :: y146 :: y147 :: y148 :: y149 :: y150 :: y151 :: y152 :: y153 :: y154 :: y155 :: y156 :: y157 :: y158 :: y159 :: y160 :: y161 :: y162 :: y163 :: y164 :: y165 :: y166 :: y167 :: y168 :: y169 :: y170 :: y171 :: y172 :: y173 :: y174 :: y175 :: y176 :: y177 :: y178 :: y179 :: y180 :: y181 :: y182 :: y183 :: y184 :: y185 :: y186 :: y187 :: y188 :: y189 :: y190 :: y191 :: y192 :: []), []⟩ wr := by
  obtain rfl := Option.some.inj ((show cutB Try.f7.body = some _ from rfl).symm.trans hcc)
  clear hcc
  go_wp2_with fail
  rename_i Q1 K1 a1
  obtain ⟨cT, hcT⟩ : ∃ c, cutS (cutB Try.f7.body) = some c := ⟨_, rfl⟩
  have a3 : ∀ a w, Code.wp Try.prog cT Q1 a w → K1 a w := fun a w h => a1 a w (by have e := Option.some.inj (hcT.symm.trans (show cutS (cutB Try.f7.body) = some _ from rfl)); rw [← e]; exact h)
  clear a1
  have HC : Hid (cutS (cutB Try.f7.body) = some cT) := hcT
  clear hcT
  go_loopw [8, 9, 11] (fun c8 c9 c11 wq => ∃ (i : Nat) (A A' : Nat → Ad), i ≤ m ∧ i ≤ 12 ∧ c11 = .int .i64 (i : Int) ∧ Hid (Two w.heap.size wq c8 c9 i i T A A' ∧ wq.ownsRow w.heap.size 9 1 v7 qn ((List.range qn).flatMap (cN G)) ∧ Below w.heap.size w wq)) (fun _ _ c11 _ => m - (intOf c11).toNat)
  case atStart => exact ⟨0, A0, A0, Nat.zero_le _, by omega, rfl, H0⟩
  case round =>
    clear H0
    obtain ⟨wo, rfl⟩ : ∃ wo, wo = wr := ⟨_, rfl⟩
    obtain ⟨i, A, A', hi, hi12, rfl, HW⟩ := hrel
    obtain ⟨c8, rfl⟩ : ∃ v, v = u8 := ⟨_, rfl⟩
    obtain ⟨c9, rfl⟩ : ∃ v, v = u9 := ⟨_, rfl⟩
    by_cases hlt : i < m ∧ i < 12
    · have h1 : (i : Int) < (m : Int) := by omega
      have h2 : (i : Int) < 12 := by omega
      obtain ⟨pb, po, rfl, hpb, hat⟩ := HP.out (by omega)
      have h6 := (hat i hlt.1).later hpb HW.out.2.2
      have hLi := (HR.out i hlt.1).later HW.out.2.2
      have hTi := HT.out i
      obtain ⟨u, hu⟩ : ∃ u, F i = u := ⟨_, rfl⟩
      obtain ⟨xu, hxu⟩ : ∃ x, X i = x := ⟨_, rfl⟩
      obtain ⟨t, ht⟩ : ∃ t, T i = t := ⟨_, rfl⟩
      rw [hu, hxu] at h6 hLi
      rw [hu, ht] at hTi
      have hslim : slim t := by rw [hTi]; exact slim_cut u 2 3 (by omega)
      have kcut : Calls Try.prog 9 #[.agg #[.int .i64 u.k, .bool u.b, .int .i64 u.n, .string u.s, .slice xu.pa u.m xu.pc, .slice xu.na u.q xu.nc], .int .i64 2, .int .i64 3] wo fun e w' => ∃ A1 : Ad, e = .returned (.agg #[.int .i64 t.k, .bool t.b, .int .i64 t.n, .string t.s, .slice A1.pa t.m A1.pc, .slice A1.na t.q A1.nc]) ∧ LiesS (fun k => k < w.heap.size ∨ (wo.heap.size ≤ k ∧ k < w'.heap.size)) w' t A1 ∧ Below wo.heap.size wo w' := by
        have k := cut_all u w.heap.size wo xu 2 3 hLi HW.out.2.2.size (by omega) (by omega)
        rw [← hTi] at k
        exact k
      have HTI : Hid (T i = t) := ht
      have d0 := h6.c0
      have d1 := h6.c1
      have d2 := h6.c2
      have d3 := h6.c3
      have d4 := h6.c4
      have d5 := h6.c5
      clear h6 hLi hTi hu hxu ht hat
      go_wp2_with fail
      refine kcut.mono ?_
      rintro e w2 ⟨A1, rfl, hl1, hb2⟩
      clear d0 d1 d2 d3 d4 d5 kcut
      have hz2 := hb2.size
      have hb23 : Below w2.heap.size w2 (w2.alloc (.cells #[.int .i64 t.k, .bool t.b, .int .i64 t.n, .string t.s, .slice A1.pa t.m A1.pc, .slice A1.na t.q A1.nc] 25)) := (Below.refl _ w2).alloc (Nat.le_refl _) _
      have hbo3 : Below wo.heap.size wo (w2.alloc (.cells #[.int .i64 t.k, .bool t.b, .int .i64 t.n, .string t.s, .slice A1.pa t.m A1.pc, .slice A1.na t.q A1.nc] 25)) := hb2.trans (hb23.mono hz2)
      have htw3 := HW.out.1.kept hbo3
      have hwo := HW.out.2.2.size
      obtain ⟨v', W', hrun, ho, hg, hbk⟩ := app22 htw3.own8 (by have := hbo3.size; omega) (slt_one w2 #[.int .i64 t.k, .bool t.b, .int .i64 t.n, .string t.s, .slice A1.pa t.m A1.pc, .slice A1.na t.q A1.nc] 25 6 rfl (one_cs t A1)) (by omega)
      have hlow : ∀ k, c8.ownBlock = some k → w.heap.size ≤ k ∧ k < wo.heap.size := HW.out.1.own8.lt
      have hlow9 : ∀ k, c9.ownBlock = some k → w.heap.size ≤ k ∧ k < wo.heap.size := HW.out.1.own9.lt
      have hT3 : LiesS (Sk (w2.alloc (.cells #[.int .i64 t.k, .bool t.b, .int .i64 t.n, .string t.s, .slice A1.pa t.m A1.pc, .slice A1.na t.q A1.nc] 25)) c8 c9) (w2.alloc (.cells #[.int .i64 t.k, .bool t.b, .int .i64 t.n, .string t.s, .slice A1.pa t.m A1.pc, .slice A1.na t.q A1.nc] 25)) (T i) A1 := by
        rw [HTI.out]
        refine (hl1.kept (fun k hk => hb23.block k (by rcases hk with hk | hk <;> omega))).up (fun k hk => ?_)
        have hz3 := hb23.size
        refine ⟨by rcases hk with hk | hk <;> omega, fun e => ?_, fun e => ?_⟩
        · have := hlow k e.symm; rcases hk with hk | hk <;> omega
        · have := hlow9 k e.symm; rcases hk with hk | hk <;> omega
      have htw4 : Two w.heap.size W' v' c9 (i + 1) i T (fun k => if k = i then A1 else A k) A' := Two.step8 htw3 hT3 (by rw [HTI.out]; exact ho) hg hbk
      have ho7 := own_other (own_below HW.out.2.1 hbo3) htw3.own8 (by decide) hg
      have hB4 : Below w.heap.size w W' := ((HW.out.2.2.trans (hbo3.mono hwo))).grown hg (by have := hbo3.size; omega) (fun k hk => (hlow k hk).1)
      obtain ⟨gb, cpb, rfl, hgB, hgl⟩ := ho.form (by omega)
      have hcat : ∀ j, j < 6 → W'.cell? ⟨gb, i * 6 + j, none⟩ = (t.cs A1)[j]? := fun j hj => by
        rw [ho.cellAt (i * 6 + j) (by omega)]
        have hfl := flat_len (F := fun k => (T k).cs (A k)) (fun k => cs_len _ _) i
        show (flat i (fun k => (T k).cs (A k)) ++ (t.cs A1))[i * 6 + j]? = _
        rw [List.getElem?_append_right (by omega), hfl]
        congr 1; omega
      have e0 : W'.cell? ⟨gb, i * 6, none⟩ = some (.int .i64 t.k) := hcat 0 (by omega)
      have e1 : W'.cell? ⟨gb, i * 6 + 1, none⟩ = some (.bool t.b) := hcat 1 (by omega)
      have e2 : W'.cell? ⟨gb, i * 6 + 2, none⟩ = some (.int .i64 t.n) := hcat 2 (by omega)
      have e3 : W'.cell? ⟨gb, i * 6 + 3, none⟩ = some (.string t.s) := hcat 3 (by omega)
      have e4 : W'.cell? ⟨gb, i * 6 + 4, none⟩ = some (.slice A1.pa t.m A1.pc) := hcat 4 (by omega)
      have e5 : W'.cell? ⟨gb, i * 6 + 5, none⟩ = some (.slice A1.na t.q A1.nc) := hcat 5 (by omega)
      have hl4 : LiesS (Sk W' (.slice (some ⟨gb, 0, none⟩) (i + 1) cpb) c9) W' t A1 := by
        have := htw4.lies8 i (by omega)
        rw [HTI.out] at this
        have h2 : (if i = i then A1 else A i) = A1 := if_pos rfl
        rwa [h2] at this
      have kref : Calls Try.prog 13 #[.agg #[.int .i64 t.k, .bool t.b, .int .i64 t.n, .string t.s, .slice A1.pa t.m A1.pc, .slice A1.na t.q A1.nc]] W' fun e w' => ∃ A4 : Ad, e = .returned (.agg #[.int .i64 t.k, .bool t.b, .int .i64 t.n, .string t.s, .slice A4.pa t.m A4.pc, .slice A4.na t.q A4.nc]) ∧ LiesS (fun k => Sk W' (.slice (some ⟨gb, 0, none⟩) (i + 1) cpb) c9 k ∨ (W'.heap.size ≤ k ∧ k < w'.heap.size)) w' t A4 ∧ Below W'.heap.size W' w' := refS_all t hslim _ W' A1 hl4 (fun k hk => hk.1)
      have H4 : Hid (Two w.heap.size W' (.slice (some ⟨gb, 0, none⟩) (i + 1) cpb) c9 (i + 1) i T (fun k => if k = i then A1 else A k) A' ∧ W'.ownsRow w.heap.size 9 1 v7 qn ((List.range qn).flatMap (cN G)) ∧ Below w.heap.size w W') := ⟨htw4, ho7, hB4⟩
      clear htw3 ho hg hbk hlow hlow9 hT3 htw4 ho7 hB4 hcat hl4 hb23 hbo3 hl1 hb2 hz2 hwo HW hslim hgB hgl
      have hii : (i : Int) < (i : Int) + 1 := by omega
      go_wp2_with (at_builtin; refine Lib.wpList_append_run _ rfl _ _ _ _ rfl _ _ rfl rfl _ _ hrun ?_)
      refine kref.mono ?_
      rintro e w5 ⟨A4, rfl, hl5, hb5⟩
      clear e0 e1 e2 e3 e4 e5 kref hrun
      have hz5 := hb5.size
      have hb56 : Below w5.heap.size w5 (w5.alloc (.cells #[.int .i64 t.k, .bool t.b, .int .i64 t.n, .string t.s, .slice A4.pa t.m A4.pc, .slice A4.na t.q A4.nc] 33)) := (Below.refl _ w5).alloc (Nat.le_refl _) _
      have hb46 : Below W'.heap.size W' (w5.alloc (.cells #[.int .i64 t.k, .bool t.b, .int .i64 t.n, .string t.s, .slice A4.pa t.m A4.pc, .slice A4.na t.q A4.nc] 33)) := hb5.trans (hb56.mono hz5)
      have htw6 := H4.out.1.kept hb46
      have hwo := H4.out.2.2.size
      obtain ⟨v'', W'', hrun2, ho2, hg2, hbk2⟩ := app31 htw6.own9 (by have := hb46.size; omega) (slt_one w5 #[.int .i64 t.k, .bool t.b, .int .i64 t.n, .string t.s, .slice A4.pa t.m A4.pc, .slice A4.na t.q A4.nc] 33 6 rfl (one_cs t A4)) (by omega)
      have hlow : ∀ k, (Value.slice (some ⟨gb, 0, none⟩) (i + 1) cpb).ownBlock = some k → w.heap.size ≤ k ∧ k < W'.heap.size := H4.out.1.own8.lt
      have hlow9 : ∀ k, c9.ownBlock = some k → w.heap.size ≤ k ∧ k < W'.heap.size := H4.out.1.own9.lt
      have hT6 : LiesS (Sk (w5.alloc (.cells #[.int .i64 t.k, .bool t.b, .int .i64 t.n, .string t.s, .slice A4.pa t.m A4.pc, .slice A4.na t.q A4.nc] 33)) (.slice (some ⟨gb, 0, none⟩) (i + 1) cpb) c9) (w5.alloc (.cells #[.int .i64 t.k, .bool t.b, .int .i64 t.n, .string t.s, .slice A4.pa t.m A4.pc, .slice A4.na t.q A4.nc] 33)) (T i) A4 := by
        rw [HTI.out]
        refine (hl5.kept (fun k hk => hb56.block k (by rcases hk with hk | hk; have := hk.1; omega; omega))).up (fun k hk => ?_)
        have hz6 := hb56.size
        refine ⟨by rcases hk with hk | hk; have := hk.1; omega; omega, fun e => ?_, fun e => ?_⟩
        · rcases hk with hk | hk
          · exact hk.2.1 e
          · have := hlow k e.symm; omega
        · rcases hk with hk | hk
          · exact hk.2.2 e
          · have := hlow9 k e.symm; omega
      have H7 : Hid (Two w.heap.size W'' (.slice (some ⟨gb, 0, none⟩) (i + 1) cpb) v'' (i + 1) (i + 1) T (fun k => if k = i then A1 else A k) (fun k => if k = i then A4 else A' k) ∧ W''.ownsRow w.heap.size 9 1 v7 qn ((List.range qn).flatMap (cN G)) ∧ Below w.heap.size w W'') :=
        ⟨Two.step9 htw6 hT6 (by rw [HTI.out]; exact ho2) hg2 hbk2, own_other (own_below H4.out.2.1 hb46) htw6.own9 (by decide) hg2, (H4.out.2.2.trans (hb46.mono hwo)).grown hg2 (by have := hb46.size; omega) (fun k hk => (hlow9 k hk).1)⟩
      clear htw6 ho2 hg2 hbk2 hlow hlow9 hT6 hb56 hb46 hl5 hb5 hz5 hwo H4
      go_wp2_with (at_builtin; refine Lib.wpList_append_run _ rfl _ _ _ _ rfl _ _ rfl rfl _ _ hrun2 ?_)
      go_roundw
      case rel => exact ⟨i + 1, _, _, by omega, by omega, by go_num, H7⟩
      case measure => simp [intOf]; omega
    · have hstop : ¬ ((i : Int) < (m : Int) ∧ (i : Int) < 12) := by omega
      have hr8 := HW.out.1.own8
      have hr9 := HW.out.1.own9
      have hr7 := HW.out.2.1
      have hones : ∀ (A : Nat → Ad), ∀ u ∈ flat i (fun k => (T k).cs (A k)), u.oneCell' = true := fun A u hu => by
        rw [flat_fm] at hu
        exact cP_one T A _ u hu
      obtain ⟨pn, cn, rfl, s7⟩ := SlT.of_own (S := fun k => k < wo.heap.size) hr7 (cN_one G _) (fun k hk => (hr7.lt k hk).2)
      obtain ⟨pp, cp, rfl, s8⟩ := SlT.of_own (S := fun k => k < wo.heap.size) hr8 (hones A) (fun k hk => (hr8.lt k hk).2)
      obtain ⟨pr, cr, rfl, s9⟩ := SlT.of_own (S := fun k => k < wo.heap.size) hr9 (hones A') (fun k hk => (hr9.lt k hk).2)
      rw [flat_fm] at s8 s9
      have hcr := s9.cap
      have hN : Names wo.heap.size wo qn G pn cn := ⟨s7.cap.1, s7.cap.2, HGS.out, fun h0 => by
        obtain ⟨b, o, h1, h2, h3⟩ := names_at s7 (by simp) h0
        exact ⟨b, o, h1, h2, fun j hj => by have := h3 j hj; rwa [range_getD hj] at this⟩⟩
      have hp8 : 0 < i → ∃ b o, pp = some ⟨b, o, none⟩ ∧ b < wo.heap.size ∧ ∀ j, j < i → At6 wo b (o + j * 6) (T j) (A j) := fun h0 => by
        obtain ⟨b, o, h1, h2, h3⟩ := parts_at s8 (by simp) h0
        exact ⟨b, o, h1, h2, fun j hj => by have := h3 j hj; rwa [range_getD hj] at this⟩
      have hp9 : 0 < i → ∃ b o, pr = some ⟨b, o, none⟩ ∧ b < wo.heap.size ∧ ∀ j, j < i → At6 wo b (o + j * 6) (T j) (A' j) := fun h0 => by
        obtain ⟨b, o, h1, h2, h3⟩ := parts_at s9 (by simp) h0
        exact ⟨b, o, h1, h2, fun j hj => by have := h3 j hj; rwa [range_getD hj] at this⟩
      have hl8 : ∀ j, j < i → Lies wo.heap.size wo (T j) (A j) := fun j hj => (HW.out.1.lies8 j hj).up (fun k hk => hk.1)
      have hl9 : ∀ j, j < i → Lies wo.heap.size wo (T j) (A' j) := fun j hj => (HW.out.1.lies9 j hj).up (fun k hk => hk.1)
      have hbel := HW.out.2.2
      have HSQ : Hid (∀ j, j < i → slimq (T j) ∧ slim (T j) ∧ small (T j)) := fun j _ => by
        rw [HT.out j]; exact ⟨slimq_cut _ 2 3 (by omega), slim_cut _ 2 3 (by omega), small_cut _ 2 3⟩
      have HN : Hid (Names wo.heap.size wo qn G pn cn) := hN
      have H8 : Hid ((0 < i → ∃ b o, pp = some ⟨b, o, none⟩ ∧ b < wo.heap.size ∧ ∀ j, j < i → At6 wo b (o + j * 6) (T j) (A j)) ∧ ∀ j, j < i → Lies wo.heap.size wo (T j) (A j)) := ⟨hp8, hl8⟩
      have H9 : Hid ((0 < i → ∃ b o, pr = some ⟨b, o, none⟩ ∧ b < wo.heap.size ∧ ∀ j, j < i → At6 wo b (o + j * 6) (T j) (A' j)) ∧ ∀ j, j < i → Lies wo.heap.size wo (T j) (A' j)) := ⟨hp9, hl9⟩
      have HB : Hid (Below w.heap.size w wo ∧ (i ≤ cr ∧ cr ≤ maxLen)) := ⟨hbel, hcr⟩
      clear hr7 hr8 hr9 hones s7 s8 s9 hcr hN hp8 hp9 hl8 hl9 hbel HW
      by_cases h1 : (i : Int) < (m : Int)
      · have h2 : ¬ (i : Int) < 12 := fun h => hstop ⟨h1, h⟩
        go_wp2_with fail
        exact tail2 w wo qn cn i cp cr pn pp pr A A' T G ask _ _ _ _ _ _ _ _ _ _ _ _ _ _ _ _ _ _ _ _ _ _ _ _ _ _ _ _ _ _ _ _ _ _ _ _ _ _ _ _ _ _ _ _ _ _ _ _ _ _ _ _ _ _ _ _ _ _ _ _ _ _ _ _ _ _ _ _ _ _ _ _ _ _ _ _ _ _ _ _ _ _ _ _ _ _ _ _ _ _ _ _ _ _ _ _ _ _ _ _ _ _ _ _ _ _ _ _ _ _ _ _ _ _ _ _ _ _ _ _ _ _ _ _ _ _ _ _ _ _ _ _ _ _ _ _ _ _ _ _ _ _ _ _ _ _ _ _ _ _ _ _ _ _ _ _ _ _ _ _ _ _ _ _ _ _ _ _ _ _ _ _ _ _ _ _ _ _ _ _ _ _ _ _ _ _ _ _ _ hask hqn hi12 HSQ HN.out H8.out.1 H8.out.2 H9.out.1 H9.out.2 HB.out.2 HB.out.1 cT HC.out
      · go_wp2_with fail
        exact tail2 w wo qn cn i cp cr pn pp pr A A' T G ask _ _ _ _ _ _ _ _ _ _ _ _ _ _ _ _ _ _ _ _ _ _ _ _ _ _ _ _ _ _ _ _ _ _ _ _ _ _ _ _ _ _ _ _ _ _ _ _ _ _ _ _ _ _ _ _ _ _ _ _ _ _ _ _ _ _ _ _ _ _ _ _ _ _ _ _ _ _ _ _ _ _ _ _ _ _ _ _ _ _ _ _ _ _ _ _ _ _ _ _ _ _ _ _ _ _ _ _ _ _ _ _ _ _ _ _ _ _ _ _ _ _ _ _ _ _ _ _ _ _ _ _ _ _ _ _ _ _ _ _ _ _ _ _ _ _ _ _ _ _ _ _ _ _ _ _ _ _ _ _ _ _ _ _ _ _ _ _ _ _ _ _ _ _ _ _ _ _ _ _ _ _ _ _ _ _ _ _ _ hask hqn hi12 HSQ HN.out H8.out.1 H8.out.2 H9.out.1 H9.out.2 HB.out.2 HB.out.1 cT HC.out
end Go.Proofs.Ytjmjlijmeahmfaa
