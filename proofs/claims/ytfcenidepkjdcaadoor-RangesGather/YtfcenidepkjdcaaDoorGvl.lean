/- RangesGather: whether the set is hit. -/
import Derived.Test.YtfcenidepkjdcaaDoorXdc
import Derived.Test.YtfcenidepkjdcaaDoorCus
import Derived.Test.YtfcenidepkjdcaaDoorXca
namespace Go.Proofs.YtfcenidepkjdcaaDoor
open Go.RowKit Go.Shelf
attribute [local go_sem] Oper.semAt_some eql25 eql23
set_option maxRecDepth 100000 in
set_option maxHeartbeats 16000000 in
theorem g5l (w wp : World) (lt : List Tc) (pt : Option Addr) (ct nt : Nat) (v : Value) (gm cm : Nat) (M : List Rd) (y0 y2 y3 y4 y7 y8 y9 y10 y11 y12 y13 y14 y15 y16 y17 y18 y19 y20 y21 y22 y23 y24 y25 y26 y27 y28 y29 y30 y31 y32 y33 y34 y35 y36 y37 y38 y39 y40 y41 y42 y43 y44 y45 y46 y47 y48 y49 y50 y51 y52 y53 y54 y55 y56 y57 y58 y59 y60 y61 y62 y63 y64 y65 y66 y67 y68 y69 y70 y71 y72 y73 y74 y75 y76 y77 y78 y79 y80 y81 y82 y83 y84 y85 y86 y87 y88 y89 y90 y91 y92 y93 y94 y95 y96 y97 y98 y99 y100 y101 y102 y103 y104 y105 y106 y107 y108 y109 y110 y111 y112 y113 y114 y115 y116 y117 y118 y119 y120 y121 y122 y123 y124 y125 y126 y127 y128 y129 y130 y131 y132 y133 y134 y135 y136 y137 y138 y139 y140 y141 y142 y143 y144 y145 y146 y147 y148 y149 y150 y151 y152 y153 y154 y155 y156 y157 y158 y159 y160 y161 y162 y163 y164 y165 y166 y167 y168 y169 y170 y171 y172 y173 y174 y175 y176 y177 y178 y179 y180 y181 y182 y183 y184 y185 y186 y187 y188 y189 y190 y191 : Value) (hntmax : (nt : Int) ≤ 9223372036854775807) (hM30 : M.length ≤ 30) (HT : Hid (Tl w lt pt ∧ lt.length = nt ∧ V.Gm w)) (hnt : nt ≤ 10) (HP4 : Hid (Sm w wp w.heap.size v gm cm M ∧ V.Gm w)) (c : Code) (hc : cutA (cutA Tryd.f4.body) = some c) :
    Code.wp Tryd.prog c (bodyPost Tryd.prog Tryd.f4 fun e w' => e = .returned (.bool true) ∧ Below w.heap.size w w') ⟨List.toArray (y0 :: .slice pt nt ct :: y2 :: y3 :: y4 :: .pointer (some ⟨w.heap.size, 0, none⟩) :: .slice (some ⟨gm, 0, none⟩) M.length cm :: y7 :: y8 :: y9 :: y10 :: y11 :: y12 :: y13 :: y14 :: y15 :: y16 :: y17 :: y18 :: y19 :: y20 :: y21 :: y22 :: y23 :: y24 :: y25 :: y26 :: y27 :: y28 :: y29 :: y30 :: y31 :: y32 :: y33 :: y34 :: y35 :: y36 :: y37 :: y38 :: y39 :: y40 :: y41 :: y42 :: y43 :: y44 :: y45 :: y46 :: y47 :: y48 :: y49 :: y50 :: y51 :: y52 :: y53 :: y54 :: y55 :: y56 :: y57 :: y58 :: y59 :: y60 :: y61 :: y62 :: y63 :: y64 :: y65 :: y66 :: y67 :: y68 :: y69 :: y70 :: y71 :: y72 :: y73 :: y74 :: y75 :: y76 :: y77 :: y78 :: y79 :: y80 :: y81 :: y82 :: y83 :: y84 :: y85 :: y86 :: y87 :: y88 :: y89 :: y90 :: y91 :: y92 :: y93 :: y94 :: y95 :: y96 :: y97 :: y98 :: y99 :: y100 :: y101 :: y102 :: y103 :: y104 :: y105 :: y106 :: y107 :: y108 :: y109 :: y110 :: y111 :: y112 :: y113 :: y114 :: y115 :: y116 :: y117 :: y118 :: y119 :: y120 :: y121 :: y122 :: y123 :: y124 :: y125 :: y126 :: y127 :: y128 :: y129 :: y130 :: y131 :: y132 :: y133 :: y134 :: y135 :: y136 :: y137 :: y138 :: y139 :: y140 :: y141 :: y142 :: y143 :: y144 :: y145 :: y146 :: y147 :: y148 :: y149 :: y150 :: y151 :: y152 :: y153 :: y154 :: y155 :: y156 :: y157 :: y158 :: y159 :: y160 :: y161 :: y162 :: y163 :: y164 :: y165 :: y166 :: y167 :: y168 :: y169 :: y170 :: y171 :: y172 :: y173 :: y174 :: y175 :: y176 :: y177 :: y178 :: y179 :: y180 :: y181 :: y182 :: y183 :: y184 :: y185 :: y186 :: y187 :: y188 :: y189 :: y190 :: y191 :: []), []⟩ wp := by
  obtain rfl := Option.some.inj ((show cutA (cutA Tryd.f4.body) = some _ from rfl).symm.trans hc)
  clear hc
  go_wp2_with fail
  go_loopw [15, 16, 17] (fun c15 c16 c17 wq => ∃ (i5 : Nat) (X : List Tc) (p5 : Option Addr) (c5 : Nat), (i5 ≤ nt ∧ i5 ≤ 10 ∧ X.length ≤ i5) ∧ c15 = .slice p5 X.length c5 ∧ c16 = .bool (X.any (fun t => M.any (fun r => htB r t))) ∧ c17 = .int .i64 (i5 : Int) ∧ Hid (Ts wp.heap.size wq (.slice p5 X.length c5) X ∧ Below wp.heap.size wp wq)) (fun _ _ c17 _ => 10 - (intOf c17).toNat)
  case atStart =>
    refine ⟨0, [], some ⟨wp.heap.size, 0, none⟩, 0, ⟨Nat.zero_le _, by omega, Nat.le_refl _⟩, rfl, rfl, rfl, ?_⟩
    have hh : Ts wp.heap.size (wp.alloc (.cells #[] 31)) (.slice (some ⟨wp.heap.size, 0, none⟩) 0 0) [] ∧ Below wp.heap.size wp (wp.alloc (.cells #[] 31)) := ⟨⟨⟨[], World.ownsRow_made wp #[] 0 (Nat.le_refl _) (Nat.zero_le _) rfl, fun i x hi => (by simp at hi)⟩, fun x hx => (by cases hx)⟩, below_one wp _⟩
    exact hh
  case round =>
    obtain ⟨i5, X, p5, c5, ⟨hi5n, hi510, hX5⟩, rfl, rfl, rfl, hh⟩ := hrel
    have S6 := HP4.out.1.later hh.out.2
    by_cases hc5 : i5 < nt ∧ i5 < 10
    · obtain ⟨hc1, hc2⟩ := hc5
      have hc1' : (i5 : Int) < (nt : Int) := by omega
      have hc2' : (i5 : Int) < 10 := by omega
      obtain ⟨x0, hx0⟩ : ∃ x0, lt[i5]? = some x0 := ⟨_, List.getElem?_eq_getElem (by rw [HT.out.2.1]; exact hc1)⟩
      obtain ⟨b, o, rfl, hlt, hcs⟩ := HT.out.1 (by rw [HT.out.2.1]; omega)
      obtain ⟨A, C, k1, k2, k3⟩ := hcs i5 x0 hx0
      have k1' : ∀ j u, (#[.string x0.tb, .bool x0.sh, .int .i64 x0.T.k, .bool x0.T.b, .int .i64 x0.T.n, .string x0.T.s, .slice A.pa x0.T.m A.pc, .slice A.na x0.T.q A.nc, .int .i64 x0.U.k, .bool x0.U.b, .int .i64 x0.U.n, .string x0.U.s, .slice C.pa x0.U.m C.pc, .slice C.na x0.U.q C.nc, .bool x0.was, .bool x0.is] : Array Value)[j]? = some u → wr.cell? ⟨b, o + i5 * 16 + j, none⟩ = some u := fun j u hu => (World.cell?_of_block (a := ⟨b, o + i5 * 16 + j, none⟩) (S6.bel.block b hlt)).trans (k1 j u hu)
      have a0 : wr.cell? ⟨b, o + i5 * 16, none⟩ = _ := k1' 0 _ rfl
      have a1 := k1' 1 _ rfl
      have a2 := k1' 2 _ rfl
      have a3 := k1' 3 _ rfl
      have a4 := k1' 4 _ rfl
      have a5 := k1' 5 _ rfl
      have a6 := k1' 6 _ rfl
      have a7 := k1' 7 _ rfl
      have a8 := k1' 8 _ rfl
      have a9 := k1' 9 _ rfl
      have a10 := k1' 10 _ rfl
      have a11 := k1' 11 _ rfl
      have a12 := k1' 12 _ rfl
      have a13 := k1' 13 _ rfl
      have a14 := k1' 14 _ rfl
      have a15 := k1' 15 _ rfl
      obtain ⟨x, hx⟩ : ∃ x : Tc, (⟨x0.tb, x0.sh, V.cutT x0.T 3 4, V.cutT x0.U 3 4, x0.was, x0.is⟩ : Tc) = x := ⟨_, rfl⟩
      have kct : Calls Tryd.prog 7 #[.agg #[.string x0.tb, .bool x0.sh, .int .i64 x0.T.k, .bool x0.T.b, .int .i64 x0.T.n, .string x0.T.s, .slice A.pa x0.T.m A.pc, .slice A.na x0.T.q A.nc, .int .i64 x0.U.k, .bool x0.U.b, .int .i64 x0.U.n, .string x0.U.s, .slice C.pa x0.U.m C.pc, .slice C.na x0.U.q C.nc, .bool x0.was, .bool x0.is]] wr fun e w' => ∃ A2 C2, e = .returned (.tuple #[.agg #[.string x.tb, .bool x.sh, .int .i64 x.T.k, .bool x.T.b, .int .i64 x.T.n, .string x.T.s, .slice A2.pa x.T.m A2.pc, .slice A2.na x.T.q A2.nc, .int .i64 x.U.k, .bool x.U.b, .int .i64 x.U.n, .string x.U.s, .slice C2.pa x.U.m C2.pc, .slice C2.na x.U.q C2.nc, .bool x.was, .bool x.is], .bool (okB x.T x.U)]) ∧ V.LiesS (fun k => (k < w.heap.size ∨ wr.heap.size + 2 ≤ k) ∧ k < w'.heap.size) w' x.T A2 ∧ V.LiesS (fun k => (k < w.heap.size ∨ wr.heap.size + 2 ≤ k) ∧ k < w'.heap.size) w' x.U C2 ∧ Below wr.heap.size wr w' := by
        rw [← hx]
        exact cut_ths x0.tb x0.sh x0.T A x0.U C x0.was x0.is ((show V.Lies w.heap.size w x0.T A from k2).later S6.bel) ((show V.Lies w.heap.size w x0.U C from k3).later S6.bel) S6.bel.size
      have HG : Hid ((V.checkT x.T = 0 → Good x.T) ∧ (V.checkT x.U = 0 → Good x.U)) := by
        rw [← hx]
        exact ⟨good_cutG, good_cutG⟩
      have H6 : Hid (Sm w wr w.heap.size v gm cm M ∧ Ts wp.heap.size wr (.slice p5 X.length c5) X ∧ Below wp.heap.size wp wr) := ⟨S6, hh.out.1, hh.out.2⟩
      have hon : (Value.slice p5 X.length c5).ownBlock ≠ some wr.heap.size ∧ ∀ k, wr.heap.size ≤ k → (Value.slice p5 X.length c5).ownBlock ≠ some k := by
        obtain ⟨L, h1, -⟩ := hh.out.1.own
        exact ⟨fun e => (by have := (h1.lt _ e).2; omega), fun k hk e => (by have := (h1.lt _ e).2; omega)⟩
      clear hx k1 k1' k2 k3 hcs hx0 hlt S6 hh
      obtain ⟨wn, rfl⟩ : ∃ wn, wn = wr := ⟨_, rfl⟩
      go_wp2_with fail
      refine kct.mono ?_
      rintro e W6 ⟨A2, C2, rfl, lA, lC, hb6⟩
      obtain ⟨W7, hW7⟩ : ∃ W7, put (W6.alloc (.cells #[.string ⟨#[]⟩, .bool false, .int .i64 0, .bool false, .int .i64 0, .string ⟨#[]⟩, .slice none 0 0, .slice none 0 0, .int .i64 0, .bool false, .int .i64 0, .string ⟨#[]⟩, .slice none 0 0, .slice none 0 0, .bool false, .bool false] 31)) W6.heap.size #[.string x.tb, .bool x.sh, .int .i64 x.T.k, .bool x.T.b, .int .i64 x.T.n, .string x.T.s, .slice A2.pa x.T.m A2.pc, .slice A2.na x.T.q A2.nc, .int .i64 x.U.k, .bool x.U.b, .int .i64 x.U.n, .string x.U.s, .slice C2.pa x.U.m C2.pc, .slice C2.na x.U.q C2.nc, .bool x.was, .bool x.is] = W7 := ⟨_, rfl⟩
      have HW7 : Hid (put (W6.alloc (.cells #[.string ⟨#[]⟩, .bool false, .int .i64 0, .bool false, .int .i64 0, .string ⟨#[]⟩, .slice none 0 0, .slice none 0 0, .int .i64 0, .bool false, .int .i64 0, .string ⟨#[]⟩, .slice none 0 0, .slice none 0 0, .bool false, .bool false] 31)) W6.heap.size #[.string x.tb, .bool x.sh, .int .i64 x.T.k, .bool x.T.b, .int .i64 x.T.n, .string x.T.s, .slice A2.pa x.T.m A2.pc, .slice A2.na x.T.q A2.nc, .int .i64 x.U.k, .bool x.U.b, .int .i64 x.U.n, .string x.U.s, .slice C2.pa x.U.m C2.pc, .slice C2.na x.U.q C2.nc, .bool x.was, .bool x.is] = W7) := hW7
      have hb7 : Below W6.heap.size W6 W7 := by rw [← hW7]; exact put_below (below_one W6 _) _ (Nat.le_refl _) _
      have r7 : W7.heap[W6.heap.size]? = some (.cells #[.string x.tb, .bool x.sh, .int .i64 x.T.k, .bool x.T.b, .int .i64 x.T.n, .string x.T.s, .slice A2.pa x.T.m A2.pc, .slice A2.na x.T.q A2.nc, .int .i64 x.U.k, .bool x.U.b, .int .i64 x.U.n, .string x.U.s, .slice C2.pa x.U.m C2.pc, .slice C2.na x.U.q C2.nc, .bool x.was, .bool x.is] 31 (0, 0)) := by rw [← hW7]; exact put_row _ (heap_alloc_new W6 _) rfl
      have hbn7 : Below wn.heap.size wn W7 := hb6.trans (hb7.mono hb6.size)
      have hown5 := H6.out.2.1.own
      have hne : ∀ k, (k < w.heap.size ∨ wn.heap.size + 2 ≤ k) ∧ k < W6.heap.size → (k < W7.heap.size ∧ (Value.slice p5 X.length c5).ownBlock ≠ some k) := by
        intro k hk
        refine ⟨Nat.lt_of_lt_of_le hk.2 hb7.size, fun e => ?_⟩
        obtain ⟨L, h1, -⟩ := hown5
        have h2 := h1.lt k e
        have := HP4.out.1.bel.size
        omega
      have l7A := (lA.kept (fun k hk => hb7.block k hk.2)).up hne
      have l7C := (lC.kept (fun k hk => hb7.block k hk.2)).up hne
      have H7 : Hid (Sm w W7 w.heap.size v gm cm M ∧ Ts wp.heap.size W7 (.slice p5 X.length c5) X ∧ Below wp.heap.size wp W7 ∧ W7.heap[W6.heap.size]? = some (.cells #[.string x.tb, .bool x.sh, .int .i64 x.T.k, .bool x.T.b, .int .i64 x.T.n, .string x.T.s, .slice A2.pa x.T.m A2.pc, .slice A2.na x.T.q A2.nc, .int .i64 x.U.k, .bool x.U.b, .int .i64 x.U.n, .string x.U.s, .slice C2.pa x.U.m C2.pc, .slice C2.na x.U.q C2.nc, .bool x.was, .bool x.is] 31 (0, 0)) ∧ V.LiesS (fun k => k < W7.heap.size ∧ (Value.slice p5 X.length c5).ownBlock ≠ some k) W7 x.T A2 ∧ V.LiesS (fun k => k < W7.heap.size ∧ (Value.slice p5 X.length c5).ownBlock ≠ some k) W7 x.U C2 ∧ (Value.slice p5 X.length c5).ownBlock ≠ some W6.heap.size) := ⟨H6.out.1.later hbn7, H6.out.2.1.later hbn7, H6.out.2.2.trans (hbn7.mono H6.out.2.2.size), r7, l7A, l7C, hon.2 _ hb6.size⟩
      clear hW7 hb7 r7 hbn7 hown5 hne l7A l7C lA lC hb6 kct hon a0 a1 a2 a3 a4 a5 a6 a7 a8 a9 a10 a11 a12 a13 a14 a15
      cases hO : okB x.T x.U with
      | false =>
        go_wp2_with (refine wpList_put rfl 31 (.tmp 18) (.tmp 164) rfl rfl rfl rfl (heap_alloc_new W6 _) rfl info31 (one_tha x A2 C2) ?_; rw [HW7.out])
        go_roundw
        case rel => exact ⟨i5 + 1, X, p5, c5, ⟨by omega, by omega, by omega⟩, rfl, rfl, by go_num, ⟨H7.out.2.1, H7.out.2.2.1⟩⟩
        case measure => simp [intOf]; omega
      | true =>
        have HGx : Hid (x.good) := ⟨HG.out.1 (okG_iff hO).1, HG.out.2 (okG_iff hO).2⟩
        have r7 := H7.out.2.2.2.1
        have e0 := cell_of_row W7 _ 0 _ _ _ r7
        have e1 := cell_of_row W7 _ 1 _ _ _ r7
        have e2 := cell_of_row W7 _ 2 _ _ _ r7
        have e3 := cell_of_row W7 _ 3 _ _ _ r7
        have e4 := cell_of_row W7 _ 4 _ _ _ r7
        have e5 := cell_of_row W7 _ 5 _ _ _ r7
        have e6 := cell_of_row W7 _ 6 _ _ _ r7
        have e7 := cell_of_row W7 _ 7 _ _ _ r7
        have e8 := cell_of_row W7 _ 8 _ _ _ r7
        have e9 := cell_of_row W7 _ 9 _ _ _ r7
        have e10 := cell_of_row W7 _ 10 _ _ _ r7
        have e11 := cell_of_row W7 _ 11 _ _ _ r7
        have e12 := cell_of_row W7 _ 12 _ _ _ r7
        have e13 := cell_of_row W7 _ 13 _ _ _ r7
        have e14 := cell_of_row W7 _ 14 _ _ _ r7
        have e15 := cell_of_row W7 _ 15 _ _ _ r7
        obtain ⟨L, hL5, h25⟩ := H7.out.2.1.own
        obtain ⟨B0, hB0⟩ : ∃ B0, X.any (fun t => M.any (fun r => htB r t)) = B0 := ⟨_, rfl⟩
        have HB0 : Hid (X.any (fun t => M.any (fun r => htB r t)) = B0) := hB0
        have H25 : Hid (∀ i x, X[i]? = some x → ∃ A C, (∀ j u, (#[.string x.tb, .bool x.sh, .int .i64 x.T.k, .bool x.T.b, .int .i64 x.T.n, .string x.T.s, .slice A.pa x.T.m A.pc, .slice A.na x.T.q A.nc, .int .i64 x.U.k, .bool x.U.b, .int .i64 x.U.n, .string x.U.s, .slice C.pa x.U.m C.pc, .slice C.na x.U.q C.nc, .bool x.was, .bool x.is] : Array Value)[j]? = some u → L[i * 16 + j]? = some u) ∧ V.LiesS (fun k => k < W7.heap.size ∧ (Value.slice p5 X.length c5).ownBlock ≠ some k) W7 x.T A ∧ V.LiesS (fun k => k < W7.heap.size ∧ (Value.slice p5 X.length c5).ownBlock ≠ some k) W7 x.U C) := h25
        rw [hB0]
        obtain ⟨i1, hi1, hz01, hz11, hz21⟩ := info_parts info31c
        have hx1 : ∀ u ∈ (#[.string x.tb, .bool x.sh, .int .i64 x.T.k, .bool x.T.b, .int .i64 x.T.n, .string x.T.s, .slice A2.pa x.T.m A2.pc, .slice A2.na x.T.q A2.nc, .int .i64 x.U.k, .bool x.U.b, .int .i64 x.U.n, .string x.U.s, .slice C2.pa x.U.m C2.pc, .slice C2.na x.U.q C2.nc, .bool x.was, .bool x.is] : Array Value).toList, u.oneCell' = true := one_th x A2 C2
        have hm5 : X.length + 1 ≤ maxLen := by unfold maxLen; omega
        have hm6 : (X.length + 1) * 208 ≤ 140737488355328 := by omega
        have hsz7 : wp.heap.size ≤ (W7.alloc (.cells #[.string x.tb, .bool x.sh, .int .i64 x.T.k, .bool x.T.b, .int .i64 x.T.n, .string x.T.s, .slice A2.pa x.T.m A2.pc, .slice A2.na x.T.q A2.nc, .int .i64 x.U.k, .bool x.U.b, .int .i64 x.U.n, .string x.U.s, .slice C2.pa x.U.m C2.pc, .slice C2.na x.U.q C2.nc, .bool x.was, .bool x.is] 31)).heap.size := by have := H7.out.2.2.1.size; simp; omega
        clear h25 hB0 r7
        go_wp2_with (first | (refine wpList_put rfl 31 (.tmp 18) (.tmp 164) rfl rfl rfl rfl (heap_alloc_new W6 _) rfl info31 (one_tha x A2 C2) ?_; rw [HW7.out]) | (at_builtin; refine wpList_append_own_at _ rfl _ _ 37 rfl wp.heap.size 31 i1 _ 16 208 Tryd.underlying37 hi1 hz01 hz11 hz21 rfl (by decide) _ _ _ rfl (hL5.alloc _) ⟨W7.heap.size, 0, none⟩ 1 1 (#[.string x.tb, .bool x.sh, .int .i64 x.T.k, .bool x.T.b, .int .i64 x.T.n, .string x.T.s, .slice A2.pa x.T.m A2.pc, .slice A2.na x.T.q A2.nc, .int .i64 x.U.k, .bool x.U.b, .int .i64 x.U.n, .string x.U.s, .slice C2.pa x.U.m C2.pc, .slice C2.na x.U.q C2.nc, .bool x.was, .bool x.is] : Array Value).toList rfl rfl (World.news_of_block (heap_alloc_new W7 _)) hx1 hm5 hm6 hsz7 ?_))
        intro v8 W8 hown8 hgr8 _ hat8
        have T8 := H7.out.2.1.app x HGx.out H7.out.2.2.2.2.1 H7.out.2.2.2.2.2.1 hL5 H25.out hown8 hgr8 hat8
        obtain ⟨p8, c8, rfl⟩ := own_len7 hown8
        have bel8 := below_grown (H7.out.2.2.1.alloc H7.out.2.2.1.size _) hgr8 hsz7 (fun k hk => (hL5.lt k hk).1)
        have kp8 : ∀ k, k < W7.heap.size → (Value.slice p5 X.length c5).ownBlock ≠ some k → W8.heap[k]? = W7.heap[k]? := fun k hk hne => (hgr8.block k (by simp; omega) (fun e => hne e.symm)).trans (Below.heap_alloc W7 _ k hk)
        have sz8 : W7.heap.size ≤ W8.heap.size := Nat.le_trans (by simp) hgr8.size
        have row8 := (kp8 _ (lt_of_row H7.out.2.2.2.1) H7.out.2.2.2.2.2.2).trans H7.out.2.2.2.1
        have l8A : V.Lies W8.heap.size W8 x.T A2 := (H7.out.2.2.2.2.1.kept (fun k hk => kp8 k hk.1 hk.2)).up (fun k hk => Nat.lt_of_lt_of_le hk.1 sz8)
        have l8C : V.Lies W8.heap.size W8 x.U C2 := (H7.out.2.2.2.2.2.1.kept (fun k hk => kp8 k hk.1 hk.2)).up (fun k hk => Nat.lt_of_lt_of_le hk.1 sz8)
        have S8 := HP4.out.1.later bel8
        obtain ⟨zx, hzx⟩ : ∃ zx, W6.heap.size = zx := ⟨_, rfl⟩
        rw [hzx] at row8 ⊢
        have H8 : Hid (Sm w W8 w.heap.size v gm cm M ∧ W8.heap[zx]? = some (.cells #[.string x.tb, .bool x.sh, .int .i64 x.T.k, .bool x.T.b, .int .i64 x.T.n, .string x.T.s, .slice A2.pa x.T.m A2.pc, .slice A2.na x.T.q A2.nc, .int .i64 x.U.k, .bool x.U.b, .int .i64 x.U.n, .string x.U.s, .slice C2.pa x.U.m C2.pc, .slice C2.na x.U.q C2.nc, .bool x.was, .bool x.is] 31 (0, 0)) ∧ V.Lies W8.heap.size W8 x.T A2 ∧ V.Lies W8.heap.size W8 x.U C2 ∧ x.good ∧ Ts wp.heap.size W8 (.slice p8 (X.length + 1) c8) (X ++ [x]) ∧ Below wp.heap.size wp W8 ∧ X.any (fun t => M.any (fun r => htB r t)) = B0) := ⟨S8, row8, l8A, l8C, HGx.out, T8, bel8, HB0.out⟩
        clear hown8 hgr8 hat8 T8 bel8 kp8 sz8 row8 l8A l8C S8 hL5 hsz7 hx1 H25 H7 HB0 HW7 hzx e0 e1 e2 e3 e4 e5 e6 e7 e8 e9 e10 e11 e12 e13 e14 e15
        go_wp2_with fail
        go_loopw [16, 20] (fun c16 c20 wq => ∃ k : Nat, k ≤ M.length ∧ c16 = .bool (B0 || (M.take k).any (fun r => htB r x)) ∧ c20 = .int .i64 (k : Int) ∧ Hid (Below W8.heap.size W8 wq)) (fun _ c20 _ => M.length - (intOf c20).toNat)
        case atStart => exact ⟨0, Nat.zero_le _, by simp, rfl, Below.refl _ _⟩
        case round =>
          obtain ⟨k, hk, rfl, rfl, hb9⟩ := hrel
          have S9 := H8.out.1.later hb9.out
          have x9 := (hb9.out.block _ (lt_of_row H8.out.2.1)).trans H8.out.2.1
          have l9A : V.Lies wr.heap.size wr x.T A2 := lies_more H8.out.2.2.1 hb9.out
          have l9C : V.Lies wr.heap.size wr x.U C2 := lies_more H8.out.2.2.2.1 hb9.out
          by_cases hkM : k < M.length
          · obtain ⟨r, hr⟩ : ∃ r, M[k]? = some r := ⟨_, List.getElem?_eq_getElem hkM⟩
            have hkM' : (k : Int) < (M.length : Int) := by omega
            have q9 := S9.at hr
            have hstep : (B0 || (M.take (k + 1)).any (fun r => htB r x)) = ((B0 || (M.take k).any (fun r => htB r x)) || htB r x) := by
              rw [List.take_add_one, hr, List.any_append, Bool.or_assoc]
              simp
            have kl : ∀ W, Below wr.heap.size wr W → Calls Tryd.prog 10 #[.agg #[.string r.tb, .string r.fl, .string r.lo, .string r.hi], .agg #[.string x.tb, .bool x.sh, .int .i64 x.T.k, .bool x.T.b, .int .i64 x.T.n, .string x.T.s, .slice A2.pa x.T.m A2.pc, .slice A2.na x.T.q A2.nc, .int .i64 x.U.k, .bool x.U.b, .int .i64 x.U.n, .string x.U.s, .slice C2.pa x.U.m C2.pc, .slice C2.na x.U.q C2.nc, .bool x.was, .bool x.is]] W fun e w' => e = .returned (.bool (htB r x)) ∧ Below W.heap.size W w' := fun W hb => lhits_any r.tb r.fl r.lo r.hi x.tb x.sh x.T A2 x.U C2 x.was x.is (lies_more l9A hb) (lies_more l9C hb) (Nat.le_refl _) H8.out.2.2.2.2.1.1 H8.out.2.2.2.2.1.2
            have H9 : Hid (Below W8.heap.size W8 wr ∧ (B0 || (M.take (k + 1)).any (fun r => htB r x)) = ((B0 || (M.take k).any (fun r => htB r x)) || htB r x)) := ⟨hb9.out, hstep⟩
            obtain ⟨kn, hkn⟩ : ∃ kn, (B0 || (M.take k).any (fun r => htB r x)) = kn := ⟨_, rfl⟩
            obtain ⟨hx, hhx⟩ : ∃ hx, htB r x = hx := ⟨_, rfl⟩
            rw [hkn, hhx] at H9
            rw [hkn]
            rw [hhx] at kl
            clear hstep hr hkn hhx l9A l9C S9 hb9
            cases kn with
            | true =>
              clear kl q9 x9
              go_wp2_with fail
              go_quiet (fail)
              go_wp2
              go_roundw
              case rel => exact ⟨k + 1, by omega, by rw [H9.out.2]; rfl, by go_num, below_drewN H9.out.1 _⟩
              case measure => simp [intOf]; omega
            | false =>
              go_wp2_with fail
              refine (wpIn_wide (n := 0)).1 ?_
              refine B.any_tailIn (m := 0) (by as_aux_lemma => kernel_rfl) 9 (by exact Nat.le_of_ble_eq_true rfl) (fun i => i + 178) (B.mixR [] [.bool false, .bool false, .slice (some ⟨gm, 0, none⟩) M.length cm, .int .i64 (k : Int), .pointer (some ⟨gm, k * 4, none⟩), .agg #[.string r.tb, .string r.fl, .string r.lo, .string r.hi], .agg #[.string x.tb, .bool x.sh, .int .i64 x.T.k, .bool x.T.b, .int .i64 x.T.n, .string x.T.s, .slice A2.pa x.T.m A2.pc, .slice A2.na x.T.q A2.nc, .int .i64 x.U.k, .bool x.U.b, .int .i64 x.U.n, .string x.U.s, .slice C2.pa x.U.m C2.pc, .slice C2.na x.U.q C2.nc, .bool x.was, .bool x.is], .bool hx, .bool hx]) (by as_aux_lemma => kernel_rfl) (by as_aux_lemma => kernel_rfl) (by as_aux_lemma => kernel_rfl) (by as_aux_lemma => kernel_rfl) (B.mixR_later _ _ (B.stab_nil)) ?step ?post
              case step =>
                intro iq hiq a W hrest hb hk
                have hp18 : a.eval (.tmp 18) = .pointer (some ⟨zx, 0, none⟩) := (hrest 18 (by intro iq2 hiq2; (repeat' split) <;> omega)).trans rfl
                have fp18 := B.ev hp18
                have hx18 : W.heap[zx]? = some (.cells #[.string x.tb, .bool x.sh, .int .i64 x.T.k, .bool x.T.b, .int .i64 x.T.n, .string x.T.s, .slice A2.pa x.T.m A2.pc, .slice A2.na x.T.q A2.nc, .int .i64 x.U.k, .bool x.U.b, .int .i64 x.U.n, .string x.U.s, .slice C2.pa x.U.m C2.pc, .slice C2.na x.U.q C2.nc, .bool x.was, .bool x.is] 31 (0, 0)) := (hb.block _ (lt_of_row x9)).trans x9
                have hp16 : a.eval (.tmp 16) = .bool false := (hrest 16 (by intro iq2 hiq2; (repeat' split) <;> omega)).trans rfl
                have fp16 := B.ev hp16
                have hp6 : a.eval (.tmp 6) = .slice (some ⟨gm, 0, none⟩) M.length cm := (hrest 6 (by intro iq2 hiq2; (repeat' split) <;> omega)).trans rfl
                have fp6 := B.ev hp6
                have hp20 : a.eval (.tmp 20) = .int .i64 (k : Int) := (hrest 20 (by intro iq2 hiq2; (repeat' split) <;> omega)).trans rfl
                have fp20 := B.ev hp20
                clear hrest
                obtain rfl | rfl | rfl | rfl | rfl | rfl | rfl | rfl | rfl : iq = 0 ∨ iq = 1 ∨ iq = 2 ∨ iq = 3 ∨ iq = 4 ∨ iq = 5 ∨ iq = 6 ∨ iq = 7 ∨ iq = 8 := by omega
                · clear hiq
                  clear hk
                  refine ⟨_, rfl, rfl, Or.inl ⟨B.wanted_none rfl, B.wpIn_value (v := .bool false) (w' := W) ?_ ⟨_, rfl, Below.refl _ _, rfl⟩⟩⟩
                  go_simp
                · clear hiq
                  have e0 : a.eval (.tmp 178) = .bool false := hk 0 (B.mem_of (by as_aux_lemma => kernel_rfl))
                  have f0 := B.ev e0
                  clear hk
                  refine ⟨_, rfl, rfl, Or.inl ⟨B.wanted_none rfl, B.wpIn_value (v := .bool false) (w' := W) ?_ ⟨_, rfl, Below.refl _ _, rfl⟩⟩⟩
                  go_simp
                · clear hiq
                  have e1 : a.eval (.tmp 179) = .bool false := hk 1 (B.mem_of (by as_aux_lemma => kernel_rfl))
                  have f1 := B.ev e1
                  clear hk
                  refine ⟨_, rfl, rfl, Or.inl ⟨B.wanted_of (k := 1) (b := false) rfl rfl e1, B.wpIn_value (v := .slice (some ⟨gm, 0, none⟩) M.length cm) (w' := W) ?_ ⟨_, rfl, Below.refl _ _, rfl⟩⟩⟩
                  go_simp
                · clear hiq
                  have e1 : a.eval (.tmp 179) = .bool false := hk 1 (B.mem_of (by as_aux_lemma => kernel_rfl))
                  have f1 := B.ev e1
                  clear hk
                  refine ⟨_, rfl, rfl, Or.inl ⟨B.wanted_of (k := 1) (b := false) rfl rfl e1, B.wpIn_value (v := .int .i64 (k : Int)) (w' := W) ?_ ⟨_, rfl, Below.refl _ _, rfl⟩⟩⟩
                  go_simp
                · clear hiq
                  have e1 : a.eval (.tmp 179) = .bool false := hk 1 (B.mem_of (by as_aux_lemma => kernel_rfl))
                  have f1 := B.ev e1
                  have e2 : a.eval (.tmp 180) = .slice (some ⟨gm, 0, none⟩) M.length cm := hk 2 (B.mem_of (by as_aux_lemma => kernel_rfl))
                  have f2 := B.ev e2
                  have e3 : a.eval (.tmp 181) = .int .i64 (k : Int) := hk 3 (B.mem_of (by as_aux_lemma => kernel_rfl))
                  have f3 := B.ev e3
                  clear hk
                  refine ⟨_, rfl, rfl, Or.inl ⟨B.wanted_of (k := 1) (b := false) rfl rfl e1, B.wpIn_value (v := .pointer (some ⟨gm, k * 4, none⟩)) (w' := W) ?_ ⟨_, rfl, Below.refl _ _, rfl⟩⟩⟩
                  go_simp
                · clear hiq
                  have e1 : a.eval (.tmp 179) = .bool false := hk 1 (B.mem_of (by as_aux_lemma => kernel_rfl))
                  have f1 := B.ev e1
                  have e4 : a.eval (.tmp 182) = .pointer (some ⟨gm, k * 4, none⟩) := hk 4 (B.mem_of (by as_aux_lemma => kernel_rfl))
                  have f4 := B.ev e4
                  obtain ⟨q0, q1, q2, q3⟩ := q9.kept (hb.block gm q9.lt)
                  clear hk
                  refine ⟨_, rfl, rfl, Or.inl ⟨B.wanted_of (k := 1) (b := false) rfl rfl e1, B.wpIn_value (v := .agg #[.string r.tb, .string r.fl, .string r.lo, .string r.hi]) (w' := W) ?_ ⟨_, rfl, Below.refl _ _, rfl⟩⟩⟩
                  go_simp
                · clear hiq
                  have e1 : a.eval (.tmp 179) = .bool false := hk 1 (B.mem_of (by as_aux_lemma => kernel_rfl))
                  have f1 := B.ev e1
                  have hc0 := cell_of_row W zx 0 _ _ _ hx18
                  have hc1 := cell_of_row W zx 1 _ _ _ hx18
                  have hc2 := cell_of_row W zx 2 _ _ _ hx18
                  have hc3 := cell_of_row W zx 3 _ _ _ hx18
                  have hc4 := cell_of_row W zx 4 _ _ _ hx18
                  have hc5 := cell_of_row W zx 5 _ _ _ hx18
                  have hc6 := cell_of_row W zx 6 _ _ _ hx18
                  have hc7 := cell_of_row W zx 7 _ _ _ hx18
                  have hc8 := cell_of_row W zx 8 _ _ _ hx18
                  have hc9 := cell_of_row W zx 9 _ _ _ hx18
                  have hc10 := cell_of_row W zx 10 _ _ _ hx18
                  have hc11 := cell_of_row W zx 11 _ _ _ hx18
                  have hc12 := cell_of_row W zx 12 _ _ _ hx18
                  have hc13 := cell_of_row W zx 13 _ _ _ hx18
                  have hc14 := cell_of_row W zx 14 _ _ _ hx18
                  have hc15 := cell_of_row W zx 15 _ _ _ hx18
                  clear hk
                  refine ⟨_, rfl, rfl, Or.inl ⟨B.wanted_of (k := 1) (b := false) rfl rfl e1, B.wpIn_value (v := .agg #[.string x.tb, .bool x.sh, .int .i64 x.T.k, .bool x.T.b, .int .i64 x.T.n, .string x.T.s, .slice A2.pa x.T.m A2.pc, .slice A2.na x.T.q A2.nc, .int .i64 x.U.k, .bool x.U.b, .int .i64 x.U.n, .string x.U.s, .slice C2.pa x.U.m C2.pc, .slice C2.na x.U.q C2.nc, .bool x.was, .bool x.is]) (w' := W) ?_ ⟨_, rfl, Below.refl _ _, rfl⟩⟩⟩
                  go_simp
                · clear hiq
                  have e1 : a.eval (.tmp 179) = .bool false := hk 1 (B.mem_of (by as_aux_lemma => kernel_rfl))
                  have f1 := B.ev e1
                  have e5 : a.eval (.tmp 183) = .agg #[.string r.tb, .string r.fl, .string r.lo, .string r.hi] := hk 5 (B.mem_of (by as_aux_lemma => kernel_rfl))
                  have f5 := B.ev e5
                  have e6 : a.eval (.tmp 184) = .agg #[.string x.tb, .bool x.sh, .int .i64 x.T.k, .bool x.T.b, .int .i64 x.T.n, .string x.T.s, .slice A2.pa x.T.m A2.pc, .slice A2.na x.T.q A2.nc, .int .i64 x.U.k, .bool x.U.b, .int .i64 x.U.n, .string x.U.s, .slice C2.pa x.U.m C2.pc, .slice C2.na x.U.q C2.nc, .bool x.was, .bool x.is] := hk 6 (B.mem_of (by as_aux_lemma => kernel_rfl))
                  have f6 := B.ev e6
                  clear hk
                  refine ⟨_, rfl, rfl, Or.inl ⟨B.wanted_of (k := 1) (b := false) rfl rfl e1, B.wpIn_enter (f := 10) (args := #[.agg #[.string r.tb, .string r.fl, .string r.lo, .string r.hi], .agg #[.string x.tb, .bool x.sh, .int .i64 x.T.k, .bool x.T.b, .int .i64 x.T.n, .string x.T.s, .slice A2.pa x.T.m A2.pc, .slice A2.na x.T.q A2.nc, .int .i64 x.U.k, .bool x.U.b, .int .i64 x.U.n, .string x.U.s, .slice C2.pa x.U.m C2.pc, .slice C2.na x.U.q C2.nc, .bool x.was, .bool x.is]]) ?_ ((kl W hb).mono ?_)⟩⟩
                  · go_simp
                  · rintro e w2 ⟨rfl, hb2⟩
                    exact ⟨_, rfl, _, rfl, hb2, rfl⟩
                · clear hiq
                  have e1 : a.eval (.tmp 179) = .bool false := hk 1 (B.mem_of (by as_aux_lemma => kernel_rfl))
                  have f1 := B.ev e1
                  have e7 : a.eval (.tmp 185) = .bool hx := hk 7 (B.mem_of (by as_aux_lemma => kernel_rfl))
                  have f7 := B.ev e7
                  clear hk
                  refine ⟨_, rfl, rfl, Or.inl ⟨B.wanted_none rfl, B.wpIn_value (v := .bool hx) (w' := W) ?_ ⟨_, rfl, Below.refl _ _, rfl⟩⟩⟩
                  go_simp
              case post =>
                intro V1 Wz hbW hV
                have v8 : V1 8 = .bool hx := hV 8 (by omega)
                have HZ : Hid (Below W8.heap.size W8 Wz) := H9.out.1.trans (hbW.mono H9.out.1.size)
                clear hV hbW kl q9 x9
                simp only [B.putAll, Nat.reduceAdd]
                rw [v8]
                simp only [Act.put, List.setIfInBounds_toArray, List.set_cons_zero, List.set_cons_succ]
                change wpListIn _ _ _ _ _ [_] _ _
                gi_wp2
                go_wp2
                go_roundw
                case rel => exact ⟨k + 1, by omega, by rw [H9.out.2]; rfl, by go_num, HZ⟩
                case measure => simp [intOf]; omega
          · obtain rfl : k = M.length := by omega
            rw [List.take_length]
            have HE : Hid (Ts wp.heap.size wr (.slice p8 (X.length + 1) c8) (X ++ [x]) ∧ Below wp.heap.size wp wr ∧ (X ++ [x]).any (fun t => M.any (fun r => htB r t)) = (B0 || M.any (fun r => htB r x))) := by
              refine ⟨H8.out.2.2.2.2.2.1.later hb9.out, H8.out.2.2.2.2.2.2.1.trans (hb9.out.mono H8.out.2.2.2.2.2.2.1.size), ?_⟩
              rw [List.any_append, H8.out.2.2.2.2.2.2.2]
              simp
            clear S9 x9 l9A l9C hb9 hkM
            go_wp2
            go_roundw
            case rel =>
              refine ⟨i5 + 1, X ++ [x], p8, c8, ⟨by omega, by omega, by simp; omega⟩, by simp, by rw [HE.out.2.2], by go_num, ?_⟩
              have hl : (X ++ [x]).length = X.length + 1 := by simp
              rw [hl]
              exact ⟨HE.out.1, HE.out.2.1⟩
            case measure => simp [intOf]; omega
    · have hsw : M.any (fun r => X.any (htB r)) = X.any (fun t => M.any (fun r => htB r t)) := any_swap htB M X
      have kht := hit_set (c := c5) S6.st hh.out.1.tl (by unfold maxLen; omega) (HP4.out.2.later S6.bel HP4.out.2.pos) hh.out.1.good
      rw [hsw] at kht
      obtain ⟨B0, hB0⟩ : ∃ B0, X.any (fun t => M.any (fun r => htB r t)) = B0 := ⟨_, rfl⟩
      rw [hB0] at kht ⊢
      have HE : Hid (Below w.heap.size w wr) := S6.bel
      clear hsw hB0 S6 hh
      obtain rfl : i5 = nt := by omega
      go_wp2_with fail
      refine kht.mono ?_
      rintro e W9 ⟨rfl, hb9⟩
      have HF : Hid (Below w.heap.size w W9) := HE.out.trans (hb9.mono HE.out.size)
      clear kht hb9
      go_wp2
      go_ret
      exact ⟨by simp, HF.out⟩
end Go.Proofs.YtfcenidepkjdcaaDoor
