/- ValueStructs' walk, its middle: both structs, and whether they are the same. -/
import Derived.Test.YtjmjlijmeahmfaaVse
import Derived.Test.YtjmjlijmeahmfaaRsm
namespace Go.Proofs.Ytjmjlijmeahmfaa
open Go.RowKit Go.Lib
attribute [local go_sem] Oper.semAt_some
set_option maxRecDepth 100000 in
set_option maxHeartbeats 16000000 in
theorem tail2 (w wr : World) (qn cn mn cp cr : Nat) (pn pp pr : Option Addr) (A A' : Nat → Ad) (T : Nat → Tr) (G : Nat → ByteArray) (ask : ByteArray) (y0 y1 y3 y4 y5 y6 y10 y11 y12 y13 y14 y15 y16 y17 y18 y19 y20 y21 y22 y23 y24 y25 y26 y27 y28 y29 y30 y31 y32 y33 y34 y35 y36 y37 y38 y39 y40 y41 y42 y43 y44 y45 y46 y47 y48 y49 y50 y51 y52 y53 y54 y55 y56 y57 y58 y59 y60 y61 y62 y63 y64 y65 y66 y67 y68 y69 y70 y71 y72 y73 y74 y75 y76 y77 y78 y79 y80 y81 y82 y83 y84 y85 y86 y87 y88 y89 y90 y91 y92 y93 y94 y95 y96 y97 y98 y99 y100 y101 y102 y103 y104 y105 y106 y107 y108 y109 y110 y111 y112 y113 y114 y115 y116 y117 y118 y119 y120 y121 y122 y123 y124 y125 y126 y127 y128 y129 y130 y131 y132 y133 y134 y135 y136 y137 y138 y139 y140 y141 y142 y143 y144 y145 y146 y147 y148 y149 y150 y151 y152 y153 y154 y155 y156 y157 y158 y159 y160 y161 y162 y163 y164 y165 y166 y167 y168 y169 y170 y171 y172 y173 y174 y175 y176 y177 y178 y179 y180 y181 y182 y183 y184 y185 y186 y187 y188 y189 y190 y191 y192 : Value) (hask : ask.size ≤ maxLen) (hqn : qn ≤ 12) (hmn : mn ≤ 12) (HSQ : Hid (∀ i, i < mn → slimq (T i) ∧ slim (T i) ∧ small (T i))) (hnm : Names wr.heap.size wr qn G pn cn)
    (hp : 0 < mn → ∃ b o, pp = some ⟨b, o, none⟩ ∧ b < wr.heap.size ∧ ∀ i, i < mn → At6 wr b (o + i * 6) (T i) (A i)) (hr : ∀ i, i < mn → Lies wr.heap.size wr (T i) (A i))
    (hpr : 0 < mn → ∃ b o, pr = some ⟨b, o, none⟩ ∧ b < wr.heap.size ∧ ∀ i, i < mn → At6 wr b (o + i * 6) (T i) (A' i)) (hrr : ∀ i, i < mn → Lies wr.heap.size wr (T i) (A' i)) (hcr : mn ≤ cr ∧ cr ≤ maxLen) (hbel : Below w.heap.size w wr) (cc : Code) (hcc : cutS (cutB Try.f7.body) = some cc) :
    Code.wp Try.prog cc (bodyPost Try.prog Try.f7 fun e w' => e = .returned (.bool true) ∧ Below w.heap.size w w') ⟨List.toArray (y0 :: y1 :: .string ask :: y3 :: y4 :: y5 :: y6 :: .slice pn qn cn :: .slice pp mn cp :: .slice pr mn cr :: y10 :: y11 :: y12 :: y13 :: y14 :: y15 :: y16 :: y17 :: y18 :: y19 :: y20 :: y21 :: y22 :: y23 :: y24 :: y25 :: y26 :: y27 :: y28 :: y29 :: y30 :: y31 :: y32 :: y33 :: y34 :: y35 :: y36 :: y37 :: y38 :: y39 :: y40 :: y41 :: y42 :: y43 :: y44 :: y45 :: y46 :: y47 :: y48 :: y49 :: y50 :: y51 :: y52 :: y53 :: y54 :: y55 :: y56 :: y57 :: y58 :: y59 :: y60 :: y61 :: y62 :: y63 :: y64 :: y65 :: y66 :: y67 :: y68 :: y69 :: y70 :: y71 :: y72 :: y73 :: y74 :: y75 :: y76 :: y77 :: y78 :: y79 :: y80 :: y81 :: y82 :: y83 :: y84 :: y85 :: y86 :: y87 :: y88 :: y89 :: y90 :: y91 :: y92 :: y93 :: y94 :: y95 :: y96 :: y97 :: y98 :: y99 :: y100 :: y101 :: y102 :: y103 :: y104 :: y105 :: y106 :: y107 :: y108 :: y109 :: y110 :: y111 :: y112 :: y113 :: y114 :: y115 :: y116 :: y117 :: y118 :: y119 :: y120 :: y121 :: y122 :: y123 :: y124 :: y125 :: y126 :: y127 :: y128 :: y129 :: y130 :: y131 :: y132 :: y133 :: y134 :: y135 :: y136 :: y137 :: y138 :: y139 :: y140 :: y141 :: y142 :: y143 :: y144 :: y145 :: y146 :: y147 :: y148 :: y149 :: y150 :: y151 :: y152 :: y153 :: y154 :: y155 :: y156 :: y157 :: y158 :: y159 :: y160 :: y161 :: y162 :: y163 :: y164 :: y165 :: y166 :: y167 :: y168 :: y169 :: y170 :: y171 :: y172 :: y173 :: y174 :: y175 :: y176 :: y177 :: y178 :: y179 :: y180 :: y181 :: y182 :: y183 :: y184 :: y185 :: y186 :: y187 :: y188 :: y189 :: y190 :: y191 :: y192 :: []), []⟩ wr := by
  obtain rfl := Option.some.inj ((show cutS (cutB Try.f7.body) = some _ from rfl).symm.trans hcc)
  clear hcc
  obtain ⟨D, hD⟩ : ∃ D, docP G (min qn mn) = D := ⟨_, rfl⟩
  obtain ⟨c, hcl⟩ : ∃ c, D.length = c := ⟨_, rfl⟩
  obtain ⟨f, hf⟩ : ∃ f : Nat → Tr, (fun j => T (D.getD j 0)) = f := ⟨_, rfl⟩
  obtain ⟨g, hg⟩ : ∃ g : Nat → ByteArray, (fun j => G (D.getD j 0)) = g := ⟨_, rfl⟩
  have hDm : ∀ i, i < c → D.getD i 0 < min qn mn := fun i hi => by
    rw [← hD]
    refine docP_lt G _ _ ?_
    rw [hD, List.getD_eq_getElem?_getD, List.getElem?_eq_getElem (by omega)]
    exact List.getElem_mem _
  have hc : c ≤ 12 := by have := docP_len G (min qn mn); rw [hD, hcl] at this; omega
  have HSF : Hid (∀ i, i < c → slimq (f i) ∧ slim (f i) ∧ small (f i)) := fun i hi => by rw [← hf]; exact HSQ.out _ (by have := hDm i hi; omega)
  have hdt : docT G T D = .mk 6 false 0 ⟨#[]⟩ c f c g := by unfold docT; rw [hf, hg, hcl]
  have k1 := struct_both (pc := cp) (min qn mn) rfl (by omega) (Nat.le_refl _) hnm hp hr (fun i hi => (HSQ.out i hi).1)
  rw [hD, hdt] at k1
  have k2 : ∀ W, Below wr.heap.size wr W → Calls Try.prog 22 #[.slice pn qn cn, .slice pr mn cr] W fun e w' => ∃ A2 : Ad, e = .returned (.agg #[.int .i64 6, .bool false, .int .i64 0, .string ⟨#[]⟩, .slice A2.pa c A2.pc, .slice A2.na c A2.nc]) ∧ LiesS (fun k => k < wr.heap.size ∨ (W.heap.size ≤ k ∧ k < w'.heap.size)) w' (.mk 6 false 0 ⟨#[]⟩ c f c g) A2 ∧ Below W.heap.size W w' := fun W hb => by
    have k := rstruct_any (w := W) (B := wr.heap.size) (q := qn) (nc := cn) (m := mn) (pc := cr) (na := pn) (pa := pr) (g := G) (f := T) (A := A') (min qn mn) rfl (by omega) hb.size (Names.later hnm hb) hcr (fun h0 => by
      obtain ⟨b, o, h1, h2, h3⟩ := hpr h0
      exact ⟨b, o, h1, h2, fun i hi => (h3 i hi).later h2 hb⟩) (fun i hi => (hrr i hi).later hb)
    rw [hD, hdt] at k
    exact k
  have k1' : Calls Try.prog 21 #[.slice pn qn cn, .slice pp mn cp] wr fun e w' => ∃ A1 : Ad, e = .returned (.agg #[.int .i64 6, .bool false, .int .i64 0, .string ⟨#[]⟩, .slice A1.pa c A1.pc, .slice A1.na c A1.nc]) ∧ LiesS (fun k => wr.heap.size ≤ k ∧ k < w'.heap.size) w' (.mk 6 false 0 ⟨#[]⟩ c f c g) A1 ∧ Below wr.heap.size wr w' := k1
  clear k1 hdt hDm hD hcl hf hg hnm hp hr hpr hrr
  go_wp2_with fail
  refine k1'.mono ?_
  rintro e w2 ⟨A1, rfl, l1, hb2⟩
  go_wp2_with fail
  refine (k2 w2 hb2).mono ?_
  rintro e w3 ⟨A2, rfl, l2, hb3⟩
  have hz2 := hb2.size
  have hz3 := hb3.size
  obtain ⟨w4, hw4⟩ : ∃ w4, (w3.alloc (.cells #[.int .i64 6, .bool false, .int .i64 0, .string ⟨#[]⟩, .slice A1.pa c A1.pc, .slice A1.na c A1.nc] 25)).alloc (.cells #[.int .i64 6, .bool false, .int .i64 0, .string ⟨#[]⟩, .slice A2.pa c A2.pc, .slice A2.na c A2.nc] 33) = w4 := ⟨_, rfl⟩
  have hb34 : Below w3.heap.size w3 w4 := by rw [← hw4]; exact ((Below.refl _ w3).alloc (Nat.le_refl _) _).alloc (by simp) _
  have r1 : w4.heap[w3.heap.size]? = some (.cells #[.int .i64 6, .bool false, .int .i64 0, .string ⟨#[]⟩, .slice A1.pa c A1.pc, .slice A1.na c A1.nc] 25 (0, 0)) := by rw [← hw4, Below.heap_alloc _ _ _ (by simp)]; exact heap_alloc_new _ _
  have r2 : w4.heap[w3.heap.size + 1]? = some (.cells #[.int .i64 6, .bool false, .int .i64 0, .string ⟨#[]⟩, .slice A2.pa c A2.pc, .slice A2.na c A2.nc] 33 (0, 0)) := by
    rw [← hw4]; have := heap_alloc_new (w3.alloc (.cells #[.int .i64 6, .bool false, .int .i64 0, .string ⟨#[]⟩, .slice A1.pa c A1.pc, .slice A1.na c A1.nc] 25)) (.cells #[.int .i64 6, .bool false, .int .i64 0, .string ⟨#[]⟩, .slice A2.pa c A2.pc, .slice A2.na c A2.nc] 33); simpa using this
  have hv4 : VW w w4 w3.heap.size (w3.heap.size + 1) c A1 A2 f g := ⟨r1, r2,
    ((l1.kept (fun k hk => (hb34.block k (by omega)).trans (hb3.block k (by omega)))).up (fun k hk => by have := hb34.size; omega)),
    ((l2.kept (fun k hk => hb34.block k (by rcases hk with hk | hk <;> omega))).up (fun k hk => by have := hb34.size; rcases hk with hk | hk <;> omega)),
    hbel.trans ((hb2.trans ((hb3.trans (hb34.mono hz3)).mono hz2)).mono hbel.size)⟩
  have HW4 : Hid ((w3.alloc (.cells #[.int .i64 6, .bool false, .int .i64 0, .string ⟨#[]⟩, .slice A1.pa c A1.pc, .slice A1.na c A1.nc] 25)).alloc (.cells #[.int .i64 6, .bool false, .int .i64 0, .string ⟨#[]⟩, .slice A2.pa c A2.pc, .slice A2.na c A2.nc] 33) = w4) := hw4
  have HV4 : Hid (VW w w4 w3.heap.size (w3.heap.size + 1) c A1 A2 f g) := hv4
  clear hw4 hv4 l1 l2 hb2 hb3 hb34 r1 r2 hbel k1' k2 hz2 hz3
  go_wp2_with fail
  rw [HW4.out]
  clear HW4
  obtain ⟨z12, hz12⟩ : ∃ z, w3.heap.size = z := ⟨_, rfl⟩
  obtain ⟨z13, hz13⟩ : ∃ z, z12 + 1 = z := ⟨_, rfl⟩
  rw [hz12, hz13] at HV4
  rw [hz12, hz13]
  clear hz12 hz13
  refine (awake_any w4).mono ?_
  rintro e w5 ⟨rfl, hb5⟩
  have HV5 : Hid (VW w w5 z12 z13 c A1 A2 f g) := HV4.out.later hb5
  have r12 := HV5.out.r12
  have r13 := HV5.out.r13
  have a4 := cell_of_row w5 _ 4 _ _ _ r12
  have a5 := cell_of_row w5 _ 5 _ _ _ r12
  have b4 := cell_of_row w5 _ 4 _ _ _ r13
  have b5 := cell_of_row w5 _ 5 _ _ _ r13
  clear hb5 HV4 r12 r13
  go_wp2_with fail
  clear a4 a5 b4 b5
  rename_i Q1 K1 a1
  obtain ⟨cT, hcT⟩ : ∃ c, cutT3 (cutS (cutB Try.f7.body)) = some c := ⟨_, rfl⟩
  have a3 : ∀ a w, Code.wp Try.prog cT Q1 a w → K1 a w := fun a w h => a1 a w (by have e := Option.some.inj (hcT.symm.trans (show cutT3 (cutS (cutB Try.f7.body)) = some _ from rfl)); rw [← e]; exact h)
  clear a1
  have HC : Hid (cutT3 (cutS (cutB Try.f7.body)) = some cT) := hcT
  clear hcT
  go_loopw [14] (fun c14 wq => ∃ i : Nat, i ≤ c ∧ c14 = .int .i64 (i : Int) ∧ Hid (VW w wq z12 z13 c A1 A2 f g)) (fun c14 _ => c - (intOf c14).toNat)
  case atStart => exact ⟨0, Nat.zero_le _, rfl, HV5⟩
  case round =>
    clear HV5
    obtain ⟨i, hi, rfl, HV⟩ := hrel
    by_cases hic : i < c
    · have hic' : (i : Int) < (c : Int) := by omega
      obtain ⟨pa1, pc1, na1, nc1⟩ := A1
      obtain ⟨pa2, pc2, na2, nc2⟩ := A2
      obtain ⟨Aa, hpa, hra⟩ := HV.out.l1.part
      obtain ⟨Ab, hpb, hrb⟩ := HV.out.l2.part
      have hna := HV.out.l1.lims.2.2.2.2.2.2.2
      have hnb := HV.out.l2.lims.2.2.2.2.2.2.2
      obtain ⟨pb1, po1, rfl, hpb1, hat1⟩ : ∃ b o, pa1 = some ⟨b, o, none⟩ ∧ b < wr.heap.size ∧ ∀ i, i < c → At6 wr b (o + i * 6) (f i) (Aa i) := hpa (by omega)
      obtain ⟨pb2, po2, rfl, hpb2, hat2⟩ : ∃ b o, pa2 = some ⟨b, o, none⟩ ∧ b < wr.heap.size ∧ ∀ i, i < c → At6 wr b (o + i * 6) (f i) (Ab i) := hpb (by omega)
      obtain ⟨nb1, no1, rfl, hnb1, hnc1⟩ : ∃ b o, na1 = some ⟨b, o, none⟩ ∧ b < wr.heap.size ∧ ∀ i, i < c → wr.cell? ⟨b, o + i, none⟩ = some (.string (g i)) := hna (by show 0 < c; omega)
      obtain ⟨nb2, no2, rfl, hnb2, hnc2⟩ : ∃ b o, na2 = some ⟨b, o, none⟩ ∧ b < wr.heap.size ∧ ∀ i, i < c → wr.cell? ⟨b, o + i, none⟩ = some (.string (g i)) := hnb (by show 0 < c; omega)
      have hn1 := hnc1 i hic
      have hn2 := hnc2 i hic
      have h61 := hat1 i hic
      have h62 := hat2 i hic
      have l1i := hra i hic
      have l2i := hrb i hic
      have hsm := HSF.out i hic
      obtain ⟨t, ht⟩ : ∃ t, f i = t := ⟨_, rfl⟩
      obtain ⟨x1, hx1⟩ : ∃ x, Aa i = x := ⟨_, rfl⟩
      obtain ⟨x2, hx2⟩ : ∃ x, Ab i = x := ⟨_, rfl⟩
      obtain ⟨gi, hgi⟩ : ∃ x, g i = x := ⟨_, rfl⟩
      rw [ht, hx1] at h61 l1i
      rw [ht, hx2] at h62 l2i
      rw [hgi] at hn1 hn2
      rw [ht] at hsm
      have r12 : wr.heap[z12]? = some (.cells #[.int .i64 6, .bool false, .int .i64 0, .string ⟨#[]⟩, .slice (some ⟨pb1, po1, none⟩) c pc1, .slice (some ⟨nb1, no1, none⟩) c nc1] 25 (0, 0)) := HV.out.r12
      have r13 : wr.heap[z13]? = some (.cells #[.int .i64 6, .bool false, .int .i64 0, .string ⟨#[]⟩, .slice (some ⟨pb2, po2, none⟩) c pc2, .slice (some ⟨nb2, no2, none⟩) c nc2] 33 (0, 0)) := HV.out.r13
      obtain ⟨ck, hck⟩ : ∃ ck, checkT t = ck := ⟨_, rfl⟩
      have kchk : ∀ W, Below wr.heap.size wr W → Calls Try.prog 12 #[.agg #[.int .i64 t.k, .bool t.b, .int .i64 t.n, .string t.s, .slice x2.pa t.m x2.pc, .slice x2.na t.q x2.nc]] W fun e w' => e = .returned (.int .i64 ck) ∧ Below W.heap.size W w' := fun W hb => by
        have := rcheck_any (lies_grow l2i hb) (Nat.le_refl _) hsm.2.2
        rw [hck] at this
        exact this
      have kref : ∀ W, Below wr.heap.size wr W → Calls Try.prog 13 #[.agg #[.int .i64 t.k, .bool t.b, .int .i64 t.n, .string t.s, .slice x1.pa t.m x1.pc, .slice x1.na t.q x1.nc]] W fun e w' => ∃ A3 : Ad, e = .returned (.agg #[.int .i64 t.k, .bool t.b, .int .i64 t.n, .string t.s, .slice A3.pa t.m A3.pc, .slice A3.na t.q A3.nc]) ∧ Lies w'.heap.size w' t A3 ∧ Below W.heap.size W w' := fun W hb => by
        refine (refS_all t hsm.2.1 _ W x1 (lies_grow l1i hb) (fun k hk => hk)).mono ?_
        rintro e w' ⟨A4, he, hl, hb2⟩
        exact ⟨A4, he, hl.up (fun k hk => by have := hb2.size; rcases hk with hk | hk <;> omega), hb2⟩
      have a5 := cell_of_row wr _ 5 _ _ _ r12
      clear hpa hpb hna hnb hat1 hat2 hnc1 hnc2 hra hrb ht hx1 hx2 hgi
      go_wp2_with fail
      clear a5
      by_cases hck0 : ck = 0
      · subst hck0
        have ksame : ∀ (W : World) (A3 : Ad), Below wr.heap.size wr W → Lies W.heap.size W t A3 → Calls Try.prog 23 #[.agg #[.int .i64 t.k, .bool t.b, .int .i64 t.n, .string t.s, .slice A3.pa t.m A3.pc, .slice A3.na t.q A3.nc], .agg #[.int .i64 t.k, .bool t.b, .int .i64 t.n, .string t.s, .slice x2.pa t.m x2.pc, .slice x2.na t.q x2.nc]] W fun e w' => e = .returned (.bool true) ∧ Below W.heap.size W w' := fun W A3 hb hl => by
          have hs := check_sound hck
          have := rsame_any hs hs hl (lies_grow l2i hb) (Nat.le_refl _)
          rw [cmpT_self t] at this
          exact this
        refine (wpIn_wide (n := 0)).1 ?_
        refine any_tailIn (m := 0) (by kernel_rfl) 35 (by exact Nat.le_of_ble_eq_true rfl) (fun i => i + 113) (mixR [(25, (fun (v : Value) (W : World) => ∃ A3 : Ad, v = .agg #[.int .i64 t.k, .bool t.b, .int .i64 t.n, .string t.s, .slice A3.pa t.m A3.pc, .slice A3.na t.q A3.nc] ∧ Lies W.heap.size W t A3))] [.pointer (some ⟨z12, 5, none⟩), .slice (some ⟨nb1, no1, none⟩) c nc1, .int .i64 (i : Int), .pointer (some ⟨nb1, no1 + i, none⟩), .string gi, .pointer (some ⟨z13, 5, none⟩), .slice (some ⟨nb2, no2, none⟩) c nc2, .int .i64 (i : Int), .pointer (some ⟨nb2, no2 + i, none⟩), .string gi, .bool false, .bool false, .pointer (some ⟨z13, 4, none⟩), .slice (some ⟨pb2, po2, none⟩) c pc2, .int .i64 (i : Int), .pointer (some ⟨pb2, po2 + i * 6, none⟩), .agg #[.int .i64 t.k, .bool t.b, .int .i64 t.n, .string t.s, .slice x2.pa t.m x2.pc, .slice x2.na t.q x2.nc], .int .i64 0, .bool true, .bool true, .pointer (some ⟨z12, 4, none⟩), .slice (some ⟨pb1, po1, none⟩) c pc1, .int .i64 (i : Int), .pointer (some ⟨pb1, po1 + i * 6, none⟩), .agg #[.int .i64 t.k, .bool t.b, .int .i64 t.n, .string t.s, .slice x1.pa t.m x1.pc, .slice x1.na t.q x1.nc], undef, .pointer (some ⟨z13, 4, none⟩), .slice (some ⟨pb2, po2, none⟩) c pc2, .int .i64 (i : Int), .pointer (some ⟨pb2, po2 + i * 6, none⟩), .agg #[.int .i64 t.k, .bool t.b, .int .i64 t.n, .string t.s, .slice x2.pa t.m x2.pc, .slice x2.na t.q x2.nc], .bool true, .bool false, .bool false, .bool false]) (by kernel_rfl) (by kernel_rfl) (by kernel_rfl) (by kernel_rfl) (mixR_later _ _ (stab_cons (fun v W W' h hb => by obtain ⟨A3, h1, h2⟩ := h; exact ⟨A3, h1, lies_grow h2 hb⟩) (stab_nil))) ?step ?post
        case step =>
          intro iq hiq a W hrest hb hk
          have hp12 : a.eval (.tmp 12) = .pointer (some ⟨z12, 0, none⟩) := (hrest 12 (by intro iq2 hiq2; (repeat' split) <;> omega)).trans rfl
          have fp12 := ev hp12
          have hx12 : W.heap[z12]? = some (.cells #[.int .i64 6, .bool false, .int .i64 0, .string ⟨#[]⟩, .slice (some ⟨pb1, po1, none⟩) c pc1, .slice (some ⟨nb1, no1, none⟩) c nc1] 25 (0, 0)) := (hb.block _ (lt_of_row r12)).trans r12
          have hp13 : a.eval (.tmp 13) = .pointer (some ⟨z13, 0, none⟩) := (hrest 13 (by intro iq2 hiq2; (repeat' split) <;> omega)).trans rfl
          have fp13 := ev hp13
          have hx13 : W.heap[z13]? = some (.cells #[.int .i64 6, .bool false, .int .i64 0, .string ⟨#[]⟩, .slice (some ⟨pb2, po2, none⟩) c pc2, .slice (some ⟨nb2, no2, none⟩) c nc2] 33 (0, 0)) := (hb.block _ (lt_of_row r13)).trans r13
          have hp14 : a.eval (.tmp 14) = .int .i64 (i : Int) := (hrest 14 (by intro iq2 hiq2; (repeat' split) <;> omega)).trans rfl
          have fp14 := ev hp14
          clear hrest
          have m1 := cell_kept hn1 (hb.block _ (block_lt hn1))
          have m2 := cell_kept hn2 (hb.block _ (block_lt hn2))
          have p10 := cell_kept h61.c0 (hb.block _ (block_lt h61.c0))
          have p11 := cell_kept h61.c1 (hb.block _ (block_lt h61.c1))
          have p12 := cell_kept h61.c2 (hb.block _ (block_lt h61.c2))
          have p13 := cell_kept h61.c3 (hb.block _ (block_lt h61.c3))
          have p14 := cell_kept h61.c4 (hb.block _ (block_lt h61.c4))
          have p15 := cell_kept h61.c5 (hb.block _ (block_lt h61.c5))
          have p20 := cell_kept h62.c0 (hb.block _ (block_lt h62.c0))
          have p21 := cell_kept h62.c1 (hb.block _ (block_lt h62.c1))
          have p22 := cell_kept h62.c2 (hb.block _ (block_lt h62.c2))
          have p23 := cell_kept h62.c3 (hb.block _ (block_lt h62.c3))
          have p24 := cell_kept h62.c4 (hb.block _ (block_lt h62.c4))
          have p25 := cell_kept h62.c5 (hb.block _ (block_lt h62.c5))
          obtain rfl | rfl | rfl | rfl | rfl | rfl | rfl | rfl | rfl | rfl | rfl | rfl | rfl | rfl | rfl | rfl | rfl | rfl | rfl | rfl | rfl | rfl | rfl | rfl | rfl | rfl | rfl | rfl | rfl | rfl | rfl | rfl | rfl | rfl | rfl : iq = 0 ∨ iq = 1 ∨ iq = 2 ∨ iq = 3 ∨ iq = 4 ∨ iq = 5 ∨ iq = 6 ∨ iq = 7 ∨ iq = 8 ∨ iq = 9 ∨ iq = 10 ∨ iq = 11 ∨ iq = 12 ∨ iq = 13 ∨ iq = 14 ∨ iq = 15 ∨ iq = 16 ∨ iq = 17 ∨ iq = 18 ∨ iq = 19 ∨ iq = 20 ∨ iq = 21 ∨ iq = 22 ∨ iq = 23 ∨ iq = 24 ∨ iq = 25 ∨ iq = 26 ∨ iq = 27 ∨ iq = 28 ∨ iq = 29 ∨ iq = 30 ∨ iq = 31 ∨ iq = 32 ∨ iq = 33 ∨ iq = 34 := by omega
          · clear hiq
            clear hk
            refine ⟨_, rfl, rfl, Or.inl ⟨wanted_none rfl, wpIn_value (v := .pointer (some ⟨z12, 5, none⟩)) (w' := W) ?_ ⟨_, rfl, Below.refl _ _, rfl⟩⟩⟩
            go_simp
          · clear hiq
            have e0 : a.eval (.tmp 113) = .pointer (some ⟨z12, 5, none⟩) := hk 0 (mem_of (by kernel_rfl))
            have f0 := ev e0
            have hc5 := cell_of_row W z12 5 _ _ _ hx12
            clear hk
            refine ⟨_, rfl, rfl, Or.inl ⟨wanted_none rfl, wpIn_value (v := .slice (some ⟨nb1, no1, none⟩) c nc1) (w' := W) ?_ ⟨_, rfl, Below.refl _ _, rfl⟩⟩⟩
            go_simp
          · clear hiq
            clear hk
            refine ⟨_, rfl, rfl, Or.inl ⟨wanted_none rfl, wpIn_value (v := .int .i64 (i : Int)) (w' := W) ?_ ⟨_, rfl, Below.refl _ _, rfl⟩⟩⟩
            go_simp
          · clear hiq
            have e1 : a.eval (.tmp 114) = .slice (some ⟨nb1, no1, none⟩) c nc1 := hk 1 (mem_of (by kernel_rfl))
            have f1 := ev e1
            have e2 : a.eval (.tmp 115) = .int .i64 (i : Int) := hk 2 (mem_of (by kernel_rfl))
            have f2 := ev e2
            clear hk
            refine ⟨_, rfl, rfl, Or.inl ⟨wanted_none rfl, wpIn_value (v := .pointer (some ⟨nb1, no1 + i, none⟩)) (w' := W) ?_ ⟨_, rfl, Below.refl _ _, rfl⟩⟩⟩
            go_simp
          · clear hiq
            have e3 : a.eval (.tmp 116) = .pointer (some ⟨nb1, no1 + i, none⟩) := hk 3 (mem_of (by kernel_rfl))
            have f3 := ev e3
            clear hk
            refine ⟨_, rfl, rfl, Or.inl ⟨wanted_none rfl, wpIn_value (v := .string gi) (w' := W) ?_ ⟨_, rfl, Below.refl _ _, rfl⟩⟩⟩
            go_simp
          · clear hiq
            clear hk
            refine ⟨_, rfl, rfl, Or.inl ⟨wanted_none rfl, wpIn_value (v := .pointer (some ⟨z13, 5, none⟩)) (w' := W) ?_ ⟨_, rfl, Below.refl _ _, rfl⟩⟩⟩
            go_simp
          · clear hiq
            have e5 : a.eval (.tmp 118) = .pointer (some ⟨z13, 5, none⟩) := hk 5 (mem_of (by kernel_rfl))
            have f5 := ev e5
            have hc5 := cell_of_row W z13 5 _ _ _ hx13
            clear hk
            refine ⟨_, rfl, rfl, Or.inl ⟨wanted_none rfl, wpIn_value (v := .slice (some ⟨nb2, no2, none⟩) c nc2) (w' := W) ?_ ⟨_, rfl, Below.refl _ _, rfl⟩⟩⟩
            go_simp
          · clear hiq
            clear hk
            refine ⟨_, rfl, rfl, Or.inl ⟨wanted_none rfl, wpIn_value (v := .int .i64 (i : Int)) (w' := W) ?_ ⟨_, rfl, Below.refl _ _, rfl⟩⟩⟩
            go_simp
          · clear hiq
            have e6 : a.eval (.tmp 119) = .slice (some ⟨nb2, no2, none⟩) c nc2 := hk 6 (mem_of (by kernel_rfl))
            have f6 := ev e6
            have e7 : a.eval (.tmp 120) = .int .i64 (i : Int) := hk 7 (mem_of (by kernel_rfl))
            have f7 := ev e7
            clear hk
            refine ⟨_, rfl, rfl, Or.inl ⟨wanted_none rfl, wpIn_value (v := .pointer (some ⟨nb2, no2 + i, none⟩)) (w' := W) ?_ ⟨_, rfl, Below.refl _ _, rfl⟩⟩⟩
            go_simp
          · clear hiq
            have e8 : a.eval (.tmp 121) = .pointer (some ⟨nb2, no2 + i, none⟩) := hk 8 (mem_of (by kernel_rfl))
            have f8 := ev e8
            clear hk
            refine ⟨_, rfl, rfl, Or.inl ⟨wanted_none rfl, wpIn_value (v := .string gi) (w' := W) ?_ ⟨_, rfl, Below.refl _ _, rfl⟩⟩⟩
            go_simp
          · clear hiq
            have e4 : a.eval (.tmp 117) = .string gi := hk 4 (mem_of (by kernel_rfl))
            have f4 := ev e4
            have e9 : a.eval (.tmp 122) = .string gi := hk 9 (mem_of (by kernel_rfl))
            have f9 := ev e9
            clear hk
            refine ⟨_, rfl, rfl, Or.inl ⟨wanted_none rfl, wpIn_value (v := .bool false) (w' := W) ?_ ⟨_, rfl, Below.refl _ _, rfl⟩⟩⟩
            go_simp
          · clear hiq
            have e10 : a.eval (.tmp 123) = .bool false := hk 10 (mem_of (by kernel_rfl))
            have f10 := ev e10
            clear hk
            refine ⟨_, rfl, rfl, Or.inl ⟨wanted_none rfl, wpIn_value (v := .bool false) (w' := W) ?_ ⟨_, rfl, Below.refl _ _, rfl⟩⟩⟩
            go_simp
          · clear hiq
            have e11 : a.eval (.tmp 124) = .bool false := hk 11 (mem_of (by kernel_rfl))
            have f11 := ev e11
            clear hk
            refine ⟨_, rfl, rfl, Or.inl ⟨wanted_of (k := 11) (b := false) rfl rfl e11, wpIn_value (v := .pointer (some ⟨z13, 4, none⟩)) (w' := W) ?_ ⟨_, rfl, Below.refl _ _, rfl⟩⟩⟩
            go_simp
          · clear hiq
            have e11 : a.eval (.tmp 124) = .bool false := hk 11 (mem_of (by kernel_rfl))
            have f11 := ev e11
            have e12 : a.eval (.tmp 125) = .pointer (some ⟨z13, 4, none⟩) := hk 12 (mem_of (by kernel_rfl))
            have f12 := ev e12
            have hc4 := cell_of_row W z13 4 _ _ _ hx13
            clear hk
            refine ⟨_, rfl, rfl, Or.inl ⟨wanted_of (k := 11) (b := false) rfl rfl e11, wpIn_value (v := .slice (some ⟨pb2, po2, none⟩) c pc2) (w' := W) ?_ ⟨_, rfl, Below.refl _ _, rfl⟩⟩⟩
            go_simp
          · clear hiq
            have e11 : a.eval (.tmp 124) = .bool false := hk 11 (mem_of (by kernel_rfl))
            have f11 := ev e11
            clear hk
            refine ⟨_, rfl, rfl, Or.inl ⟨wanted_of (k := 11) (b := false) rfl rfl e11, wpIn_value (v := .int .i64 (i : Int)) (w' := W) ?_ ⟨_, rfl, Below.refl _ _, rfl⟩⟩⟩
            go_simp
          · clear hiq
            have e11 : a.eval (.tmp 124) = .bool false := hk 11 (mem_of (by kernel_rfl))
            have f11 := ev e11
            have e13 : a.eval (.tmp 126) = .slice (some ⟨pb2, po2, none⟩) c pc2 := hk 13 (mem_of (by kernel_rfl))
            have f13 := ev e13
            have e14 : a.eval (.tmp 127) = .int .i64 (i : Int) := hk 14 (mem_of (by kernel_rfl))
            have f14 := ev e14
            clear hk
            refine ⟨_, rfl, rfl, Or.inl ⟨wanted_of (k := 11) (b := false) rfl rfl e11, wpIn_value (v := .pointer (some ⟨pb2, po2 + i * 6, none⟩)) (w' := W) ?_ ⟨_, rfl, Below.refl _ _, rfl⟩⟩⟩
            go_simp
          · clear hiq
            have e11 : a.eval (.tmp 124) = .bool false := hk 11 (mem_of (by kernel_rfl))
            have f11 := ev e11
            have e15 : a.eval (.tmp 128) = .pointer (some ⟨pb2, po2 + i * 6, none⟩) := hk 15 (mem_of (by kernel_rfl))
            have f15 := ev e15
            clear hk
            refine ⟨_, rfl, rfl, Or.inl ⟨wanted_of (k := 11) (b := false) rfl rfl e11, wpIn_value (v := .agg #[.int .i64 t.k, .bool t.b, .int .i64 t.n, .string t.s, .slice x2.pa t.m x2.pc, .slice x2.na t.q x2.nc]) (w' := W) ?_ ⟨_, rfl, Below.refl _ _, rfl⟩⟩⟩
            go_simp
          · clear hiq
            have e11 : a.eval (.tmp 124) = .bool false := hk 11 (mem_of (by kernel_rfl))
            have f11 := ev e11
            have e16 : a.eval (.tmp 129) = .agg #[.int .i64 t.k, .bool t.b, .int .i64 t.n, .string t.s, .slice x2.pa t.m x2.pc, .slice x2.na t.q x2.nc] := hk 16 (mem_of (by kernel_rfl))
            have f16 := ev e16
            clear hk
            refine ⟨_, rfl, rfl, Or.inl ⟨wanted_of (k := 11) (b := false) rfl rfl e11, wpIn_enter (f := 12) (args := #[.agg #[.int .i64 t.k, .bool t.b, .int .i64 t.n, .string t.s, .slice x2.pa t.m x2.pc, .slice x2.na t.q x2.nc]]) ?_ ((kchk W hb).mono ?_)⟩⟩
            · go_simp
            · rintro e w2 ⟨rfl, hb2⟩
              exact ⟨_, rfl, _, rfl, hb2, rfl⟩
          · clear hiq
            have e11 : a.eval (.tmp 124) = .bool false := hk 11 (mem_of (by kernel_rfl))
            have f11 := ev e11
            have e17 : a.eval (.tmp 130) = .int .i64 0 := hk 17 (mem_of (by kernel_rfl))
            have f17 := ev e17
            clear hk
            refine ⟨_, rfl, rfl, Or.inl ⟨wanted_of (k := 11) (b := false) rfl rfl e11, wpIn_value (v := .bool true) (w' := W) ?_ ⟨_, rfl, Below.refl _ _, rfl⟩⟩⟩
            go_simp
          · clear hiq
            have e11 : a.eval (.tmp 124) = .bool false := hk 11 (mem_of (by kernel_rfl))
            have f11 := ev e11
            have e18 : a.eval (.tmp 131) = .bool true := hk 18 (mem_of (by kernel_rfl))
            have f18 := ev e18
            clear hk
            refine ⟨_, rfl, rfl, Or.inl ⟨wanted_of (k := 11) (b := false) rfl rfl e11, wpIn_value (v := .bool true) (w' := W) ?_ ⟨_, rfl, Below.refl _ _, rfl⟩⟩⟩
            go_simp
          · clear hiq
            have e19 : a.eval (.tmp 132) = .bool true := hk 19 (mem_of (by kernel_rfl))
            have f19 := ev e19
            clear hk
            refine ⟨_, rfl, rfl, Or.inl ⟨wanted_of (k := 19) (b := true) rfl rfl e19, wpIn_value (v := .pointer (some ⟨z12, 4, none⟩)) (w' := W) ?_ ⟨_, rfl, Below.refl _ _, rfl⟩⟩⟩
            go_simp
          · clear hiq
            have e19 : a.eval (.tmp 132) = .bool true := hk 19 (mem_of (by kernel_rfl))
            have f19 := ev e19
            have e20 : a.eval (.tmp 133) = .pointer (some ⟨z12, 4, none⟩) := hk 20 (mem_of (by kernel_rfl))
            have f20 := ev e20
            have hc4 := cell_of_row W z12 4 _ _ _ hx12
            clear hk
            refine ⟨_, rfl, rfl, Or.inl ⟨wanted_of (k := 19) (b := true) rfl rfl e19, wpIn_value (v := .slice (some ⟨pb1, po1, none⟩) c pc1) (w' := W) ?_ ⟨_, rfl, Below.refl _ _, rfl⟩⟩⟩
            go_simp
          · clear hiq
            have e19 : a.eval (.tmp 132) = .bool true := hk 19 (mem_of (by kernel_rfl))
            have f19 := ev e19
            clear hk
            refine ⟨_, rfl, rfl, Or.inl ⟨wanted_of (k := 19) (b := true) rfl rfl e19, wpIn_value (v := .int .i64 (i : Int)) (w' := W) ?_ ⟨_, rfl, Below.refl _ _, rfl⟩⟩⟩
            go_simp
          · clear hiq
            have e19 : a.eval (.tmp 132) = .bool true := hk 19 (mem_of (by kernel_rfl))
            have f19 := ev e19
            have e21 : a.eval (.tmp 134) = .slice (some ⟨pb1, po1, none⟩) c pc1 := hk 21 (mem_of (by kernel_rfl))
            have f21 := ev e21
            have e22 : a.eval (.tmp 135) = .int .i64 (i : Int) := hk 22 (mem_of (by kernel_rfl))
            have f22 := ev e22
            clear hk
            refine ⟨_, rfl, rfl, Or.inl ⟨wanted_of (k := 19) (b := true) rfl rfl e19, wpIn_value (v := .pointer (some ⟨pb1, po1 + i * 6, none⟩)) (w' := W) ?_ ⟨_, rfl, Below.refl _ _, rfl⟩⟩⟩
            go_simp
          · clear hiq
            have e19 : a.eval (.tmp 132) = .bool true := hk 19 (mem_of (by kernel_rfl))
            have f19 := ev e19
            have e23 : a.eval (.tmp 136) = .pointer (some ⟨pb1, po1 + i * 6, none⟩) := hk 23 (mem_of (by kernel_rfl))
            have f23 := ev e23
            clear hk
            refine ⟨_, rfl, rfl, Or.inl ⟨wanted_of (k := 19) (b := true) rfl rfl e19, wpIn_value (v := .agg #[.int .i64 t.k, .bool t.b, .int .i64 t.n, .string t.s, .slice x1.pa t.m x1.pc, .slice x1.na t.q x1.nc]) (w' := W) ?_ ⟨_, rfl, Below.refl _ _, rfl⟩⟩⟩
            go_simp
          · clear hiq
            have e19 : a.eval (.tmp 132) = .bool true := hk 19 (mem_of (by kernel_rfl))
            have f19 := ev e19
            have e24 : a.eval (.tmp 137) = .agg #[.int .i64 t.k, .bool t.b, .int .i64 t.n, .string t.s, .slice x1.pa t.m x1.pc, .slice x1.na t.q x1.nc] := hk 24 (mem_of (by kernel_rfl))
            have f24 := ev e24
            clear hk
            refine ⟨_, rfl, rfl, Or.inl ⟨wanted_of (k := 19) (b := true) rfl rfl e19, wpIn_enter (f := 13) (args := #[.agg #[.int .i64 t.k, .bool t.b, .int .i64 t.n, .string t.s, .slice x1.pa t.m x1.pc, .slice x1.na t.q x1.nc]]) ?_ ((kref W hb).mono ?_)⟩⟩
            · go_simp
            · rintro e w2 ⟨A3, rfl, hl3, hb2⟩
              exact ⟨_, rfl, _, rfl, hb2, ⟨A3, rfl, hl3⟩⟩
          · clear hiq
            have e19 : a.eval (.tmp 132) = .bool true := hk 19 (mem_of (by kernel_rfl))
            have f19 := ev e19
            clear hk
            refine ⟨_, rfl, rfl, Or.inl ⟨wanted_of (k := 19) (b := true) rfl rfl e19, wpIn_value (v := .pointer (some ⟨z13, 4, none⟩)) (w' := W) ?_ ⟨_, rfl, Below.refl _ _, rfl⟩⟩⟩
            go_simp
          · clear hiq
            have e19 : a.eval (.tmp 132) = .bool true := hk 19 (mem_of (by kernel_rfl))
            have f19 := ev e19
            have e26 : a.eval (.tmp 139) = .pointer (some ⟨z13, 4, none⟩) := hk 26 (mem_of (by kernel_rfl))
            have f26 := ev e26
            have hc4 := cell_of_row W z13 4 _ _ _ hx13
            clear hk
            refine ⟨_, rfl, rfl, Or.inl ⟨wanted_of (k := 19) (b := true) rfl rfl e19, wpIn_value (v := .slice (some ⟨pb2, po2, none⟩) c pc2) (w' := W) ?_ ⟨_, rfl, Below.refl _ _, rfl⟩⟩⟩
            go_simp
          · clear hiq
            have e19 : a.eval (.tmp 132) = .bool true := hk 19 (mem_of (by kernel_rfl))
            have f19 := ev e19
            clear hk
            refine ⟨_, rfl, rfl, Or.inl ⟨wanted_of (k := 19) (b := true) rfl rfl e19, wpIn_value (v := .int .i64 (i : Int)) (w' := W) ?_ ⟨_, rfl, Below.refl _ _, rfl⟩⟩⟩
            go_simp
          · clear hiq
            have e19 : a.eval (.tmp 132) = .bool true := hk 19 (mem_of (by kernel_rfl))
            have f19 := ev e19
            have e27 : a.eval (.tmp 140) = .slice (some ⟨pb2, po2, none⟩) c pc2 := hk 27 (mem_of (by kernel_rfl))
            have f27 := ev e27
            have e28 : a.eval (.tmp 141) = .int .i64 (i : Int) := hk 28 (mem_of (by kernel_rfl))
            have f28 := ev e28
            clear hk
            refine ⟨_, rfl, rfl, Or.inl ⟨wanted_of (k := 19) (b := true) rfl rfl e19, wpIn_value (v := .pointer (some ⟨pb2, po2 + i * 6, none⟩)) (w' := W) ?_ ⟨_, rfl, Below.refl _ _, rfl⟩⟩⟩
            go_simp
          · clear hiq
            have e19 : a.eval (.tmp 132) = .bool true := hk 19 (mem_of (by kernel_rfl))
            have f19 := ev e19
            have e29 : a.eval (.tmp 142) = .pointer (some ⟨pb2, po2 + i * 6, none⟩) := hk 29 (mem_of (by kernel_rfl))
            have f29 := ev e29
            clear hk
            refine ⟨_, rfl, rfl, Or.inl ⟨wanted_of (k := 19) (b := true) rfl rfl e19, wpIn_value (v := .agg #[.int .i64 t.k, .bool t.b, .int .i64 t.n, .string t.s, .slice x2.pa t.m x2.pc, .slice x2.na t.q x2.nc]) (w' := W) ?_ ⟨_, rfl, Below.refl _ _, rfl⟩⟩⟩
            go_simp
          · clear hiq
            have e19 : a.eval (.tmp 132) = .bool true := hk 19 (mem_of (by kernel_rfl))
            have f19 := ev e19
            obtain ⟨A3, e25, L25⟩ := show (fun (v : Value) (W : World) => ∃ A3 : Ad, v = .agg #[.int .i64 t.k, .bool t.b, .int .i64 t.n, .string t.s, .slice A3.pa t.m A3.pc, .slice A3.na t.q A3.nc] ∧ Lies W.heap.size W t A3) (a.eval (.tmp 138)) W from hk 25 (mem_of (by kernel_rfl))
            have f25 := ev e25
            have e30 : a.eval (.tmp 143) = .agg #[.int .i64 t.k, .bool t.b, .int .i64 t.n, .string t.s, .slice x2.pa t.m x2.pc, .slice x2.na t.q x2.nc] := hk 30 (mem_of (by kernel_rfl))
            have f30 := ev e30
            clear hk
            refine ⟨_, rfl, rfl, Or.inl ⟨wanted_of (k := 19) (b := true) rfl rfl e19, wpIn_enter (f := 23) (args := #[.agg #[.int .i64 t.k, .bool t.b, .int .i64 t.n, .string t.s, .slice A3.pa t.m A3.pc, .slice A3.na t.q A3.nc], .agg #[.int .i64 t.k, .bool t.b, .int .i64 t.n, .string t.s, .slice x2.pa t.m x2.pc, .slice x2.na t.q x2.nc]]) ?_ ((ksame W A3 hb L25).mono ?_)⟩⟩
            · go_simp
            · rintro e w2 ⟨rfl, hb2⟩
              exact ⟨_, rfl, _, rfl, hb2, rfl⟩
          · clear hiq
            have e19 : a.eval (.tmp 132) = .bool true := hk 19 (mem_of (by kernel_rfl))
            have f19 := ev e19
            have e31 : a.eval (.tmp 144) = .bool true := hk 31 (mem_of (by kernel_rfl))
            have f31 := ev e31
            clear hk
            refine ⟨_, rfl, rfl, Or.inl ⟨wanted_of (k := 19) (b := true) rfl rfl e19, wpIn_value (v := .bool false) (w' := W) ?_ ⟨_, rfl, Below.refl _ _, rfl⟩⟩⟩
            go_simp
          · clear hiq
            have e11 : a.eval (.tmp 124) = .bool false := hk 11 (mem_of (by kernel_rfl))
            have f11 := ev e11
            have e19 : a.eval (.tmp 132) = .bool true := hk 19 (mem_of (by kernel_rfl))
            have f19 := ev e19
            have e32 : a.eval (.tmp 145) = .bool false := hk 32 (mem_of (by kernel_rfl))
            have f32 := ev e32
            clear hk
            refine ⟨_, rfl, rfl, Or.inl ⟨wanted_of (k := 11) (b := false) rfl rfl e11, wpIn_value (v := .bool false) (w' := W) ?_ ⟨_, rfl, Below.refl _ _, rfl⟩⟩⟩
            go_simp
          · clear hiq
            have e11 : a.eval (.tmp 124) = .bool false := hk 11 (mem_of (by kernel_rfl))
            have f11 := ev e11
            have e33 : a.eval (.tmp 146) = .bool false := hk 33 (mem_of (by kernel_rfl))
            have f33 := ev e33
            clear hk
            refine ⟨_, rfl, rfl, Or.inl ⟨wanted_none rfl, wpIn_value (v := .bool false) (w' := W) ?_ ⟨_, rfl, Below.refl _ _, rfl⟩⟩⟩
            go_simp
        case post =>
          intro Vf W hbW hV
          have v34 : Vf 34 = .bool false := hV 34 (by omega)
          have HVW := HV.out.later hbW
          have HVX : Hid (VW w W z12 z13 c ⟨some ⟨pb1, po1, none⟩, pc1, some ⟨nb1, no1, none⟩, nc1⟩ ⟨some ⟨pb2, po2, none⟩, pc2, some ⟨nb2, no2, none⟩, nc2⟩ f g) := HVW
          clear hV HVW r12 r13 kchk kref hn1 hn2 h61 h62 l1i l2i ksame
          simp only [putAll, Nat.reduceAdd]
          rw [v34]
          simp only [Act.put, List.setIfInBounds_toArray, List.set_cons_zero, List.set_cons_succ]
          change wpListIn _ _ _ _ _ [] _ _
          gi_wp2
          go_wp2_with fail
          go_roundw
          case rel => exact ⟨i + 1, by omega, by go_num, HVX⟩
          case measure => simp [intOf]; omega
      · have hckf : (ck == 0) = false := by simpa using hck0
        refine (wpIn_wide (n := 0)).1 ?_
        refine any_tailIn (m := 0) (by kernel_rfl) 35 (by exact Nat.le_of_ble_eq_true rfl) (fun i => i + 113) (mixR [] [.pointer (some ⟨z12, 5, none⟩), .slice (some ⟨nb1, no1, none⟩) c nc1, .int .i64 (i : Int), .pointer (some ⟨nb1, no1 + i, none⟩), .string gi, .pointer (some ⟨z13, 5, none⟩), .slice (some ⟨nb2, no2, none⟩) c nc2, .int .i64 (i : Int), .pointer (some ⟨nb2, no2 + i, none⟩), .string gi, .bool false, .bool false, .pointer (some ⟨z13, 4, none⟩), .slice (some ⟨pb2, po2, none⟩) c pc2, .int .i64 (i : Int), .pointer (some ⟨pb2, po2 + i * 6, none⟩), .agg #[.int .i64 t.k, .bool t.b, .int .i64 t.n, .string t.s, .slice x2.pa t.m x2.pc, .slice x2.na t.q x2.nc], .int .i64 ck, .bool false, .bool false, undef, undef, undef, undef, undef, undef, undef, undef, undef, undef, undef, undef, undef, .bool false, .bool false]) (by kernel_rfl) (by kernel_rfl) (by kernel_rfl) (by kernel_rfl) (mixR_later _ _ (stab_nil)) ?step ?post
        case step =>
          intro iq hiq a W hrest hb hk
          have hp12 : a.eval (.tmp 12) = .pointer (some ⟨z12, 0, none⟩) := (hrest 12 (by intro iq2 hiq2; (repeat' split) <;> omega)).trans rfl
          have fp12 := ev hp12
          have hx12 : W.heap[z12]? = some (.cells #[.int .i64 6, .bool false, .int .i64 0, .string ⟨#[]⟩, .slice (some ⟨pb1, po1, none⟩) c pc1, .slice (some ⟨nb1, no1, none⟩) c nc1] 25 (0, 0)) := (hb.block _ (lt_of_row r12)).trans r12
          have hp13 : a.eval (.tmp 13) = .pointer (some ⟨z13, 0, none⟩) := (hrest 13 (by intro iq2 hiq2; (repeat' split) <;> omega)).trans rfl
          have fp13 := ev hp13
          have hx13 : W.heap[z13]? = some (.cells #[.int .i64 6, .bool false, .int .i64 0, .string ⟨#[]⟩, .slice (some ⟨pb2, po2, none⟩) c pc2, .slice (some ⟨nb2, no2, none⟩) c nc2] 33 (0, 0)) := (hb.block _ (lt_of_row r13)).trans r13
          have hp14 : a.eval (.tmp 14) = .int .i64 (i : Int) := (hrest 14 (by intro iq2 hiq2; (repeat' split) <;> omega)).trans rfl
          have fp14 := ev hp14
          clear hrest
          have m1 := cell_kept hn1 (hb.block _ (block_lt hn1))
          have m2 := cell_kept hn2 (hb.block _ (block_lt hn2))
          have p10 := cell_kept h61.c0 (hb.block _ (block_lt h61.c0))
          have p11 := cell_kept h61.c1 (hb.block _ (block_lt h61.c1))
          have p12 := cell_kept h61.c2 (hb.block _ (block_lt h61.c2))
          have p13 := cell_kept h61.c3 (hb.block _ (block_lt h61.c3))
          have p14 := cell_kept h61.c4 (hb.block _ (block_lt h61.c4))
          have p15 := cell_kept h61.c5 (hb.block _ (block_lt h61.c5))
          have p20 := cell_kept h62.c0 (hb.block _ (block_lt h62.c0))
          have p21 := cell_kept h62.c1 (hb.block _ (block_lt h62.c1))
          have p22 := cell_kept h62.c2 (hb.block _ (block_lt h62.c2))
          have p23 := cell_kept h62.c3 (hb.block _ (block_lt h62.c3))
          have p24 := cell_kept h62.c4 (hb.block _ (block_lt h62.c4))
          have p25 := cell_kept h62.c5 (hb.block _ (block_lt h62.c5))
          obtain rfl | rfl | rfl | rfl | rfl | rfl | rfl | rfl | rfl | rfl | rfl | rfl | rfl | rfl | rfl | rfl | rfl | rfl | rfl | rfl | rfl | rfl | rfl | rfl | rfl | rfl | rfl | rfl | rfl | rfl | rfl | rfl | rfl | rfl | rfl : iq = 0 ∨ iq = 1 ∨ iq = 2 ∨ iq = 3 ∨ iq = 4 ∨ iq = 5 ∨ iq = 6 ∨ iq = 7 ∨ iq = 8 ∨ iq = 9 ∨ iq = 10 ∨ iq = 11 ∨ iq = 12 ∨ iq = 13 ∨ iq = 14 ∨ iq = 15 ∨ iq = 16 ∨ iq = 17 ∨ iq = 18 ∨ iq = 19 ∨ iq = 20 ∨ iq = 21 ∨ iq = 22 ∨ iq = 23 ∨ iq = 24 ∨ iq = 25 ∨ iq = 26 ∨ iq = 27 ∨ iq = 28 ∨ iq = 29 ∨ iq = 30 ∨ iq = 31 ∨ iq = 32 ∨ iq = 33 ∨ iq = 34 := by omega
          · clear hiq
            clear hk
            refine ⟨_, rfl, rfl, Or.inl ⟨wanted_none rfl, wpIn_value (v := .pointer (some ⟨z12, 5, none⟩)) (w' := W) ?_ ⟨_, rfl, Below.refl _ _, rfl⟩⟩⟩
            go_simp
          · clear hiq
            have e0 : a.eval (.tmp 113) = .pointer (some ⟨z12, 5, none⟩) := hk 0 (mem_of (by kernel_rfl))
            have f0 := ev e0
            have hc5 := cell_of_row W z12 5 _ _ _ hx12
            clear hk
            refine ⟨_, rfl, rfl, Or.inl ⟨wanted_none rfl, wpIn_value (v := .slice (some ⟨nb1, no1, none⟩) c nc1) (w' := W) ?_ ⟨_, rfl, Below.refl _ _, rfl⟩⟩⟩
            go_simp
          · clear hiq
            clear hk
            refine ⟨_, rfl, rfl, Or.inl ⟨wanted_none rfl, wpIn_value (v := .int .i64 (i : Int)) (w' := W) ?_ ⟨_, rfl, Below.refl _ _, rfl⟩⟩⟩
            go_simp
          · clear hiq
            have e1 : a.eval (.tmp 114) = .slice (some ⟨nb1, no1, none⟩) c nc1 := hk 1 (mem_of (by kernel_rfl))
            have f1 := ev e1
            have e2 : a.eval (.tmp 115) = .int .i64 (i : Int) := hk 2 (mem_of (by kernel_rfl))
            have f2 := ev e2
            clear hk
            refine ⟨_, rfl, rfl, Or.inl ⟨wanted_none rfl, wpIn_value (v := .pointer (some ⟨nb1, no1 + i, none⟩)) (w' := W) ?_ ⟨_, rfl, Below.refl _ _, rfl⟩⟩⟩
            go_simp
          · clear hiq
            have e3 : a.eval (.tmp 116) = .pointer (some ⟨nb1, no1 + i, none⟩) := hk 3 (mem_of (by kernel_rfl))
            have f3 := ev e3
            clear hk
            refine ⟨_, rfl, rfl, Or.inl ⟨wanted_none rfl, wpIn_value (v := .string gi) (w' := W) ?_ ⟨_, rfl, Below.refl _ _, rfl⟩⟩⟩
            go_simp
          · clear hiq
            clear hk
            refine ⟨_, rfl, rfl, Or.inl ⟨wanted_none rfl, wpIn_value (v := .pointer (some ⟨z13, 5, none⟩)) (w' := W) ?_ ⟨_, rfl, Below.refl _ _, rfl⟩⟩⟩
            go_simp
          · clear hiq
            have e5 : a.eval (.tmp 118) = .pointer (some ⟨z13, 5, none⟩) := hk 5 (mem_of (by kernel_rfl))
            have f5 := ev e5
            have hc5 := cell_of_row W z13 5 _ _ _ hx13
            clear hk
            refine ⟨_, rfl, rfl, Or.inl ⟨wanted_none rfl, wpIn_value (v := .slice (some ⟨nb2, no2, none⟩) c nc2) (w' := W) ?_ ⟨_, rfl, Below.refl _ _, rfl⟩⟩⟩
            go_simp
          · clear hiq
            clear hk
            refine ⟨_, rfl, rfl, Or.inl ⟨wanted_none rfl, wpIn_value (v := .int .i64 (i : Int)) (w' := W) ?_ ⟨_, rfl, Below.refl _ _, rfl⟩⟩⟩
            go_simp
          · clear hiq
            have e6 : a.eval (.tmp 119) = .slice (some ⟨nb2, no2, none⟩) c nc2 := hk 6 (mem_of (by kernel_rfl))
            have f6 := ev e6
            have e7 : a.eval (.tmp 120) = .int .i64 (i : Int) := hk 7 (mem_of (by kernel_rfl))
            have f7 := ev e7
            clear hk
            refine ⟨_, rfl, rfl, Or.inl ⟨wanted_none rfl, wpIn_value (v := .pointer (some ⟨nb2, no2 + i, none⟩)) (w' := W) ?_ ⟨_, rfl, Below.refl _ _, rfl⟩⟩⟩
            go_simp
          · clear hiq
            have e8 : a.eval (.tmp 121) = .pointer (some ⟨nb2, no2 + i, none⟩) := hk 8 (mem_of (by kernel_rfl))
            have f8 := ev e8
            clear hk
            refine ⟨_, rfl, rfl, Or.inl ⟨wanted_none rfl, wpIn_value (v := .string gi) (w' := W) ?_ ⟨_, rfl, Below.refl _ _, rfl⟩⟩⟩
            go_simp
          · clear hiq
            have e4 : a.eval (.tmp 117) = .string gi := hk 4 (mem_of (by kernel_rfl))
            have f4 := ev e4
            have e9 : a.eval (.tmp 122) = .string gi := hk 9 (mem_of (by kernel_rfl))
            have f9 := ev e9
            clear hk
            refine ⟨_, rfl, rfl, Or.inl ⟨wanted_none rfl, wpIn_value (v := .bool false) (w' := W) ?_ ⟨_, rfl, Below.refl _ _, rfl⟩⟩⟩
            go_simp
          · clear hiq
            have e10 : a.eval (.tmp 123) = .bool false := hk 10 (mem_of (by kernel_rfl))
            have f10 := ev e10
            clear hk
            refine ⟨_, rfl, rfl, Or.inl ⟨wanted_none rfl, wpIn_value (v := .bool false) (w' := W) ?_ ⟨_, rfl, Below.refl _ _, rfl⟩⟩⟩
            go_simp
          · clear hiq
            have e11 : a.eval (.tmp 124) = .bool false := hk 11 (mem_of (by kernel_rfl))
            have f11 := ev e11
            clear hk
            refine ⟨_, rfl, rfl, Or.inl ⟨wanted_of (k := 11) (b := false) rfl rfl e11, wpIn_value (v := .pointer (some ⟨z13, 4, none⟩)) (w' := W) ?_ ⟨_, rfl, Below.refl _ _, rfl⟩⟩⟩
            go_simp
          · clear hiq
            have e11 : a.eval (.tmp 124) = .bool false := hk 11 (mem_of (by kernel_rfl))
            have f11 := ev e11
            have e12 : a.eval (.tmp 125) = .pointer (some ⟨z13, 4, none⟩) := hk 12 (mem_of (by kernel_rfl))
            have f12 := ev e12
            have hc4 := cell_of_row W z13 4 _ _ _ hx13
            clear hk
            refine ⟨_, rfl, rfl, Or.inl ⟨wanted_of (k := 11) (b := false) rfl rfl e11, wpIn_value (v := .slice (some ⟨pb2, po2, none⟩) c pc2) (w' := W) ?_ ⟨_, rfl, Below.refl _ _, rfl⟩⟩⟩
            go_simp
          · clear hiq
            have e11 : a.eval (.tmp 124) = .bool false := hk 11 (mem_of (by kernel_rfl))
            have f11 := ev e11
            clear hk
            refine ⟨_, rfl, rfl, Or.inl ⟨wanted_of (k := 11) (b := false) rfl rfl e11, wpIn_value (v := .int .i64 (i : Int)) (w' := W) ?_ ⟨_, rfl, Below.refl _ _, rfl⟩⟩⟩
            go_simp
          · clear hiq
            have e11 : a.eval (.tmp 124) = .bool false := hk 11 (mem_of (by kernel_rfl))
            have f11 := ev e11
            have e13 : a.eval (.tmp 126) = .slice (some ⟨pb2, po2, none⟩) c pc2 := hk 13 (mem_of (by kernel_rfl))
            have f13 := ev e13
            have e14 : a.eval (.tmp 127) = .int .i64 (i : Int) := hk 14 (mem_of (by kernel_rfl))
            have f14 := ev e14
            clear hk
            refine ⟨_, rfl, rfl, Or.inl ⟨wanted_of (k := 11) (b := false) rfl rfl e11, wpIn_value (v := .pointer (some ⟨pb2, po2 + i * 6, none⟩)) (w' := W) ?_ ⟨_, rfl, Below.refl _ _, rfl⟩⟩⟩
            go_simp
          · clear hiq
            have e11 : a.eval (.tmp 124) = .bool false := hk 11 (mem_of (by kernel_rfl))
            have f11 := ev e11
            have e15 : a.eval (.tmp 128) = .pointer (some ⟨pb2, po2 + i * 6, none⟩) := hk 15 (mem_of (by kernel_rfl))
            have f15 := ev e15
            clear hk
            refine ⟨_, rfl, rfl, Or.inl ⟨wanted_of (k := 11) (b := false) rfl rfl e11, wpIn_value (v := .agg #[.int .i64 t.k, .bool t.b, .int .i64 t.n, .string t.s, .slice x2.pa t.m x2.pc, .slice x2.na t.q x2.nc]) (w' := W) ?_ ⟨_, rfl, Below.refl _ _, rfl⟩⟩⟩
            go_simp
          · clear hiq
            have e11 : a.eval (.tmp 124) = .bool false := hk 11 (mem_of (by kernel_rfl))
            have f11 := ev e11
            have e16 : a.eval (.tmp 129) = .agg #[.int .i64 t.k, .bool t.b, .int .i64 t.n, .string t.s, .slice x2.pa t.m x2.pc, .slice x2.na t.q x2.nc] := hk 16 (mem_of (by kernel_rfl))
            have f16 := ev e16
            clear hk
            refine ⟨_, rfl, rfl, Or.inl ⟨wanted_of (k := 11) (b := false) rfl rfl e11, wpIn_enter (f := 12) (args := #[.agg #[.int .i64 t.k, .bool t.b, .int .i64 t.n, .string t.s, .slice x2.pa t.m x2.pc, .slice x2.na t.q x2.nc]]) ?_ ((kchk W hb).mono ?_)⟩⟩
            · go_simp
            · rintro e w2 ⟨rfl, hb2⟩
              exact ⟨_, rfl, _, rfl, hb2, rfl⟩
          · clear hiq
            have e11 : a.eval (.tmp 124) = .bool false := hk 11 (mem_of (by kernel_rfl))
            have f11 := ev e11
            have e17 : a.eval (.tmp 130) = .int .i64 ck := hk 17 (mem_of (by kernel_rfl))
            have f17 := ev e17
            clear hk
            refine ⟨_, rfl, rfl, Or.inl ⟨wanted_of (k := 11) (b := false) rfl rfl e11, wpIn_value (v := .bool false) (w' := W) ?_ ⟨_, rfl, Below.refl _ _, rfl⟩⟩⟩
            go_simp
          · clear hiq
            have e11 : a.eval (.tmp 124) = .bool false := hk 11 (mem_of (by kernel_rfl))
            have f11 := ev e11
            have e18 : a.eval (.tmp 131) = .bool false := hk 18 (mem_of (by kernel_rfl))
            have f18 := ev e18
            clear hk
            refine ⟨_, rfl, rfl, Or.inl ⟨wanted_of (k := 11) (b := false) rfl rfl e11, wpIn_value (v := .bool false) (w' := W) ?_ ⟨_, rfl, Below.refl _ _, rfl⟩⟩⟩
            go_simp
          · clear hiq
            have e19 : a.eval (.tmp 132) = .bool false := hk 19 (mem_of (by kernel_rfl))
            have f19 := ev e19
            exact ⟨_, rfl, rfl, Or.inr ⟨unwanted_of (k := 19) (b := true) (c := false) rfl rfl e19 rfl, rfl⟩⟩
          · clear hiq
            have e19 : a.eval (.tmp 132) = .bool false := hk 19 (mem_of (by kernel_rfl))
            have f19 := ev e19
            exact ⟨_, rfl, rfl, Or.inr ⟨unwanted_of (k := 19) (b := true) (c := false) rfl rfl e19 rfl, rfl⟩⟩
          · clear hiq
            have e19 : a.eval (.tmp 132) = .bool false := hk 19 (mem_of (by kernel_rfl))
            have f19 := ev e19
            exact ⟨_, rfl, rfl, Or.inr ⟨unwanted_of (k := 19) (b := true) (c := false) rfl rfl e19 rfl, rfl⟩⟩
          · clear hiq
            have e19 : a.eval (.tmp 132) = .bool false := hk 19 (mem_of (by kernel_rfl))
            have f19 := ev e19
            exact ⟨_, rfl, rfl, Or.inr ⟨unwanted_of (k := 19) (b := true) (c := false) rfl rfl e19 rfl, rfl⟩⟩
          · clear hiq
            have e19 : a.eval (.tmp 132) = .bool false := hk 19 (mem_of (by kernel_rfl))
            have f19 := ev e19
            exact ⟨_, rfl, rfl, Or.inr ⟨unwanted_of (k := 19) (b := true) (c := false) rfl rfl e19 rfl, rfl⟩⟩
          · clear hiq
            have e19 : a.eval (.tmp 132) = .bool false := hk 19 (mem_of (by kernel_rfl))
            have f19 := ev e19
            exact ⟨_, rfl, rfl, Or.inr ⟨unwanted_of (k := 19) (b := true) (c := false) rfl rfl e19 rfl, rfl⟩⟩
          · clear hiq
            have e19 : a.eval (.tmp 132) = .bool false := hk 19 (mem_of (by kernel_rfl))
            have f19 := ev e19
            exact ⟨_, rfl, rfl, Or.inr ⟨unwanted_of (k := 19) (b := true) (c := false) rfl rfl e19 rfl, rfl⟩⟩
          · clear hiq
            have e19 : a.eval (.tmp 132) = .bool false := hk 19 (mem_of (by kernel_rfl))
            have f19 := ev e19
            exact ⟨_, rfl, rfl, Or.inr ⟨unwanted_of (k := 19) (b := true) (c := false) rfl rfl e19 rfl, rfl⟩⟩
          · clear hiq
            have e19 : a.eval (.tmp 132) = .bool false := hk 19 (mem_of (by kernel_rfl))
            have f19 := ev e19
            exact ⟨_, rfl, rfl, Or.inr ⟨unwanted_of (k := 19) (b := true) (c := false) rfl rfl e19 rfl, rfl⟩⟩
          · clear hiq
            have e19 : a.eval (.tmp 132) = .bool false := hk 19 (mem_of (by kernel_rfl))
            have f19 := ev e19
            exact ⟨_, rfl, rfl, Or.inr ⟨unwanted_of (k := 19) (b := true) (c := false) rfl rfl e19 rfl, rfl⟩⟩
          · clear hiq
            have e19 : a.eval (.tmp 132) = .bool false := hk 19 (mem_of (by kernel_rfl))
            have f19 := ev e19
            exact ⟨_, rfl, rfl, Or.inr ⟨unwanted_of (k := 19) (b := true) (c := false) rfl rfl e19 rfl, rfl⟩⟩
          · clear hiq
            have e19 : a.eval (.tmp 132) = .bool false := hk 19 (mem_of (by kernel_rfl))
            have f19 := ev e19
            exact ⟨_, rfl, rfl, Or.inr ⟨unwanted_of (k := 19) (b := true) (c := false) rfl rfl e19 rfl, rfl⟩⟩
          · clear hiq
            have e19 : a.eval (.tmp 132) = .bool false := hk 19 (mem_of (by kernel_rfl))
            have f19 := ev e19
            exact ⟨_, rfl, rfl, Or.inr ⟨unwanted_of (k := 19) (b := true) (c := false) rfl rfl e19 rfl, rfl⟩⟩
          · clear hiq
            have e11 : a.eval (.tmp 124) = .bool false := hk 11 (mem_of (by kernel_rfl))
            have f11 := ev e11
            have e19 : a.eval (.tmp 132) = .bool false := hk 19 (mem_of (by kernel_rfl))
            have f19 := ev e19
            have e32 : a.eval (.tmp 145) = undef := hk 32 (mem_of (by kernel_rfl))
            have f32 := ev e32
            clear hk
            refine ⟨_, rfl, rfl, Or.inl ⟨wanted_of (k := 11) (b := false) rfl rfl e11, wpIn_value (v := .bool false) (w' := W) ?_ ⟨_, rfl, Below.refl _ _, rfl⟩⟩⟩
            go_simp
          · clear hiq
            have e11 : a.eval (.tmp 124) = .bool false := hk 11 (mem_of (by kernel_rfl))
            have f11 := ev e11
            have e33 : a.eval (.tmp 146) = .bool false := hk 33 (mem_of (by kernel_rfl))
            have f33 := ev e33
            clear hk
            refine ⟨_, rfl, rfl, Or.inl ⟨wanted_none rfl, wpIn_value (v := .bool false) (w' := W) ?_ ⟨_, rfl, Below.refl _ _, rfl⟩⟩⟩
            go_simp
        case post =>
          intro Vf W hbW hV
          have v34 : Vf 34 = .bool false := hV 34 (by omega)
          have HVW := HV.out.later hbW
          have HVX : Hid (VW w W z12 z13 c ⟨some ⟨pb1, po1, none⟩, pc1, some ⟨nb1, no1, none⟩, nc1⟩ ⟨some ⟨pb2, po2, none⟩, pc2, some ⟨nb2, no2, none⟩, nc2⟩ f g) := HVW
          clear hV HVW r12 r13 kchk kref hn1 hn2 h61 h62 l1i l2i
          simp only [putAll, Nat.reduceAdd]
          rw [v34]
          simp only [Act.put, List.setIfInBounds_toArray, List.set_cons_zero, List.set_cons_succ]
          change wpListIn _ _ _ _ _ [] _ _
          gi_wp2
          go_wp2_with fail
          go_roundw
          case rel => exact ⟨i + 1, by omega, by go_num, HVX⟩
          case measure => simp [intOf]; omega
    · have hic' : ¬ (i : Int) < (c : Int) := by omega
      have a5 := cell_of_row wr _ 5 _ _ _ HV.out.r12
      go_wp2_with fail
      exact tail3 w wr z12 z13 c A1 A2 f g ask _ _ _ _ _ _ _ _ _ _ _ _ _ _ _ _ _ _ _ _ _ _ _ _ _ _ _ _ _ _ _ _ _ _ _ _ _ _ _ _ _ _ _ _ _ _ _ _ _ _ _ _ _ _ _ _ _ _ _ _ _ _ _ _ _ _ _ _ _ _ _ _ _ _ _ _ _ _ _ _ _ _ _ _ _ _ _ _ _ _ _ _ _ _ _ _ _ _ _ _ _ _ _ _ _ _ _ _ _ _ _ _ _ _ _ _ _ _ _ _ _ _ _ _ _ _ _ _ _ _ _ _ _ _ _ _ _ _ _ _ _ _ _ _ _ _ _ _ _ _ _ _ _ _ _ _ _ _ _ _ _ _ _ _ _ _ _ _ _ _ _ _ _ _ _ _ _ _ _ _ _ _ _ _ _ _ _ _ _ _ hask hc HSF HV cT HC.out
end Go.Proofs.Ytjmjlijmeahmfaa
