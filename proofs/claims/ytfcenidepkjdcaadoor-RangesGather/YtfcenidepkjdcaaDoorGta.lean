/- RangesGather: all looks, and whether they are the law's. -/
import Derived.Test.YtfcenidepkjdcaaDoorGvl
import Derived.Test.YtfcenidepkjdcaaDoorGvg
namespace Go.Proofs.YtfcenidepkjdcaaDoor
open Go.RowKit Go.Shelf
attribute [local go_sem] Oper.semAt_some eql25 eql23
set_option maxRecDepth 100000 in
set_option maxHeartbeats 16000000 in
theorem gtail (w wo : World) (lt : List Tc) (pt : Option Addr) (ct nt : Nat) (v : Value) (gm cm : Nat) (M : List Rd) (y0 y2 y3 y4 y7 y8 y9 y10 y11 y12 y13 y14 y15 y16 y17 y18 y19 y20 y21 y22 y23 y24 y25 y26 y27 y28 y29 y30 y31 y32 y33 y34 y35 y36 y37 y38 y39 y40 y41 y42 y43 y44 y45 y46 y47 y48 y49 y50 y51 y52 y53 y54 y55 y56 y57 y58 y59 y60 y61 y62 y63 y64 y65 y66 y67 y68 y69 y70 y71 y72 y73 y74 y75 y76 y77 y78 y79 y80 y81 y82 y83 y84 y85 y86 y87 y88 y89 y90 y91 y92 y93 y94 y95 y96 y97 y98 y99 y100 y101 y102 y103 y104 y105 y106 y107 y108 y109 y110 y111 y112 y113 y114 y115 y116 y117 y118 y119 y120 y121 y122 y123 y124 y125 y126 y127 y128 y129 y130 y131 y132 y133 y134 y135 y136 y137 y138 y139 y140 y141 y142 y143 y144 y145 y146 y147 y148 y149 y150 y151 y152 y153 y154 y155 y156 y157 y158 y159 y160 y161 y162 y163 y164 y165 y166 y167 y168 y169 y170 y171 y172 y173 y174 y175 y176 y177 y178 y179 y180 y181 y182 y183 y184 y185 y186 y187 y188 y189 y190 y191 : Value) (hntmax : (nt : Int) ≤ 9223372036854775807) (hM30 : M.length ≤ 30) (HT : Hid (Tl w lt pt ∧ lt.length = nt ∧ V.Gm w)) (hM : Hid (Sm w wo w.heap.size v gm cm M)) (c : Code) (hc : cutA Tryd.f4.body = some c) :
    Code.wp Tryd.prog c (bodyPost Tryd.prog Tryd.f4 fun e w' => e = .returned (.bool true) ∧ Below w.heap.size w w') ⟨List.toArray (y0 :: .slice pt nt ct :: y2 :: y3 :: y4 :: .pointer (some ⟨w.heap.size, 0, none⟩) :: .slice (some ⟨gm, 0, none⟩) M.length cm :: y7 :: y8 :: y9 :: y10 :: y11 :: y12 :: y13 :: y14 :: y15 :: y16 :: y17 :: y18 :: y19 :: y20 :: y21 :: y22 :: y23 :: y24 :: y25 :: y26 :: y27 :: y28 :: y29 :: y30 :: y31 :: y32 :: y33 :: y34 :: y35 :: y36 :: y37 :: y38 :: y39 :: y40 :: y41 :: y42 :: y43 :: y44 :: y45 :: y46 :: y47 :: y48 :: y49 :: y50 :: y51 :: y52 :: y53 :: y54 :: y55 :: y56 :: y57 :: y58 :: y59 :: y60 :: y61 :: y62 :: y63 :: y64 :: y65 :: y66 :: y67 :: y68 :: y69 :: y70 :: y71 :: y72 :: y73 :: y74 :: y75 :: y76 :: y77 :: y78 :: y79 :: y80 :: y81 :: y82 :: y83 :: y84 :: y85 :: y86 :: y87 :: y88 :: y89 :: y90 :: y91 :: y92 :: y93 :: y94 :: y95 :: y96 :: y97 :: y98 :: y99 :: y100 :: y101 :: y102 :: y103 :: y104 :: y105 :: y106 :: y107 :: y108 :: y109 :: y110 :: y111 :: y112 :: y113 :: y114 :: y115 :: y116 :: y117 :: y118 :: y119 :: y120 :: y121 :: y122 :: y123 :: y124 :: y125 :: y126 :: y127 :: y128 :: y129 :: y130 :: y131 :: y132 :: y133 :: y134 :: y135 :: y136 :: y137 :: y138 :: y139 :: y140 :: y141 :: y142 :: y143 :: y144 :: y145 :: y146 :: y147 :: y148 :: y149 :: y150 :: y151 :: y152 :: y153 :: y154 :: y155 :: y156 :: y157 :: y158 :: y159 :: y160 :: y161 :: y162 :: y163 :: y164 :: y165 :: y166 :: y167 :: y168 :: y169 :: y170 :: y171 :: y172 :: y173 :: y174 :: y175 :: y176 :: y177 :: y178 :: y179 :: y180 :: y181 :: y182 :: y183 :: y184 :: y185 :: y186 :: y187 :: y188 :: y189 :: y190 :: y191 :: []), []⟩ wo := by
  obtain rfl := Option.some.inj ((show cutA Tryd.f4.body = some _ from rfl).symm.trans hc)
  clear hc
  have hx30 : M.length ≤ 40 := by omega
  have kcl := sclone_any hM.out.st hx30
  have HM2 : Hid (Sm w wo w.heap.size v gm cm M) := hM.out
  clear hM
  go_wp2_with fail
  refine kcl.mono ?_
  rintro e W1 ⟨b1, v1, rfl, hst1, hb1⟩
  have kal := all_any hst1 hx30
  have HS1 : Hid (Sm w W1 w.heap.size v gm cm M) := HM2.out.later hb1
  clear hst1 hb1 kcl
  go_wp2_with fail
  refine kal.mono ?_
  rintro e W2 ⟨va, rfl, howna, hb2⟩
  have S2 := HS1.out.later hb2
  have kaw := awake_any W2 (HT.out.2.2.later S2.bel HT.out.2.2.pos)
  obtain ⟨pa, ca, rfl⟩ := own_len7 howna
  have HS2 : Hid (Sm w W2 w.heap.size v gm cm M ∧ W2.ownsRow W1.heap.size 25 4 (.slice pa M.length ca) M.length (rows M)) := ⟨S2, howna⟩
  clear S2 hb2 kal howna
  go_wp2_with fail
  refine kaw.mono ?_
  rintro e W3 ⟨rfl, hb3⟩
  have HS3 : Hid (Sm w W3 w.heap.size v gm cm M ∧ W3.ownsRow W1.heap.size 25 4 (.slice pa M.length ca) M.length (rows M)) := ⟨HS2.out.1.later hb3, own_later HS2.out.2 (fun k hk => hb3.block k (HS2.out.2.lt k hk).2)⟩
  clear hb3 kaw HS1 HS2 HM2
  go_wp2_with fail
  rename_i Q1 K1 a1
  obtain ⟨c5, hc5⟩ : ∃ c, cutA (cutA Tryd.f4.body) = some c := ⟨_, rfl⟩
  have a3 : ∀ a w, Code.wp Tryd.prog c5 Q1 a w → K1 a w := fun a w h => a1 a w (by have e := Option.some.inj (hc5.symm.trans (show cutA (cutA Tryd.f4.body) = some _ from rfl)); rw [← e]; exact h)
  clear a1
  go_loopw [14] (fun c14 wq => ∃ k : Nat, k ≤ M.length ∧ c14 = .int .i64 (k : Int) ∧ Hid (Below W3.heap.size W3 wq)) (fun c14 _ => M.length - (intOf c14).toNat)
  case atStart => exact ⟨0, Nat.zero_le _, rfl, Below.refl _ _⟩
  case round =>
    obtain ⟨k, hk, rfl, hb4⟩ := hrel
    have S4 := HS3.out.1.later hb4.out
    by_cases hkM : k < M.length
    · obtain ⟨x, hx⟩ : ∃ x, M[k]? = some x := ⟨_, List.getElem?_eq_getElem hkM⟩
      have hkM' : (k : Int) < (M.length : Int) := by omega
      obtain ⟨a0, a1, a2, a3⟩ := S4.at hx
      obtain ⟨ga, rfl, hat⟩ := own_at4p (own_later HS3.out.2 (w' := wr) (fun k hk => hb4.out.block k (HS3.out.2.lt k hk).2)) hx
      obtain ⟨c0, c1, c2, c3⟩ := hat
      have he := fun w => eql25 x.tb x.fl x.lo x.hi x.tb x.fl x.lo x.hi w
      simp only [beq_self_eq_true, Bool.and_self] at he
      have H4 : Hid (Below W3.heap.size W3 wr) := hb4
      clear hx S4 hb4
      go_wp2_with fail
      go_quiet (fail)
      go_wp2
      go_roundw
      case rel => exact ⟨k + 1, by omega, by go_num, below_drewN H4.out _⟩
      case measure => simp [intOf]; omega
    · obtain rfl : k = M.length := by omega
      have HP4 : Hid (Sm w wr w.heap.size v gm cm M ∧ V.Gm w) := ⟨S4, HT.out.2.2⟩
      clear S4 hb4 hkM
      go_wp2_with fail
      by_cases hnt : nt ≤ 10
      · exact g5l w wr lt pt ct nt v gm cm M _ _ _ _ _ _ _ _ _ _ _ _ _ _ _ _ _ _ _ _ _ _ _ _ _ _ _ _ _ _ _ _ _ _ _ _ _ _ _ _ _ _ _ _ _ _ _ _ _ _ _ _ _ _ _ _ _ _ _ _ _ _ _ _ _ _ _ _ _ _ _ _ _ _ _ _ _ _ _ _ _ _ _ _ _ _ _ _ _ _ _ _ _ _ _ _ _ _ _ _ _ _ _ _ _ _ _ _ _ _ _ _ _ _ _ _ _ _ _ _ _ _ _ _ _ _ _ _ _ _ _ _ _ _ _ _ _ _ _ _ _ _ _ _ _ _ _ _ _ _ _ _ _ _ _ _ _ _ _ _ _ _ _ _ _ _ _ _ _ _ _ _ _ _ _ _ _ _ _ _ _ _ _ _ _ _ _ _ _ hntmax hM30 HT hnt HP4 c5 hc5
      · exact g5g w wr lt pt ct nt v gm cm M _ _ _ _ _ _ _ _ _ _ _ _ _ _ _ _ _ _ _ _ _ _ _ _ _ _ _ _ _ _ _ _ _ _ _ _ _ _ _ _ _ _ _ _ _ _ _ _ _ _ _ _ _ _ _ _ _ _ _ _ _ _ _ _ _ _ _ _ _ _ _ _ _ _ _ _ _ _ _ _ _ _ _ _ _ _ _ _ _ _ _ _ _ _ _ _ _ _ _ _ _ _ _ _ _ _ _ _ _ _ _ _ _ _ _ _ _ _ _ _ _ _ _ _ _ _ _ _ _ _ _ _ _ _ _ _ _ _ _ _ _ _ _ _ _ _ _ _ _ _ _ _ _ _ _ _ _ _ _ _ _ _ _ _ _ _ _ _ _ _ _ _ _ _ _ _ _ _ _ _ _ _ _ _ _ _ _ _ _ hntmax hM30 HT (by omega) HP4 c5 hc5
end Go.Proofs.YtfcenidepkjdcaaDoor
