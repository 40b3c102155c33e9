/- ValueStructs' walk, its end: what is got of the structs, and what is laid anew. -/
import Derived.Test.YtjmjlijmeahmfaaVsa
import Derived.Test.YtjmjlijmeahmfaaRge
import Derived.Test.YtjmjlijmeahmfaaRsh
import Derived.Test.YtjmjlijmeahmfaaOwn
import Derived.Test.YtjmjlijmeahmfaaAwk
import Derived.Test.YtjmjlijmeahmfaaXain
namespace Go.Proofs.Ytjmjlijmeahmfaa
open Go.RowKit Go.Lib
attribute [local go_sem] Oper.semAt_some
def cutB (b : Option Code) : Option Code := match b with
  | some (.seq _ (.seq _ (.seq _ (.seq _ t)))) => some t
  | _ => none
def cutS (b : Option Code) : Option Code := match b with
  | some (.seq _ t) => some t
  | _ => none
def cutT3 (b : Option Code) : Option Code := match b with
  | some (.seq _ (.seq _ (.seq _ t))) => some t
  | _ => none
structure VW (w wr : World) (z12 z13 c : Nat) (A1 A2 : Ad) (f : Nat → Tr) (g : Nat → ByteArray) : Prop where
  r12 : wr.heap[z12]? = some (.cells #[.int .i64 6, .bool false, .int .i64 0, .string ⟨#[]⟩, .slice A1.pa c A1.pc, .slice A1.na c A1.nc] 25 (0, 0))
  r13 : wr.heap[z13]? = some (.cells #[.int .i64 6, .bool false, .int .i64 0, .string ⟨#[]⟩, .slice A2.pa c A2.pc, .slice A2.na c A2.nc] 33 (0, 0))
  l1 : Lies wr.heap.size wr (.mk 6 false 0 ⟨#[]⟩ c f c g) A1
  l2 : Lies wr.heap.size wr (.mk 6 false 0 ⟨#[]⟩ c f c g) A2
  bel : Below w.heap.size w wr
theorem lies_grow {w w' : World} {t : Tr} {x : Ad} (h : Lies w.heap.size w t x) (hb : Below w.heap.size w w') : Lies w'.heap.size w' t x := (h.later hb).up hb.size
theorem VW.later {w wr wr' : World} {z12 z13 c : Nat} {A1 A2 : Ad} {f : Nat → Tr} {g : Nat → ByteArray} (h : VW w wr z12 z13 c A1 A2 f g) (hb : Below wr.heap.size wr wr') : VW w wr' z12 z13 c A1 A2 f g :=
  ⟨(hb.block _ (lt_of_row h.r12)).trans h.r12, (hb.block _ (lt_of_row h.r13)).trans h.r13, lies_grow h.l1 hb, lies_grow h.l2 hb, h.bel.trans (hb.mono h.bel.size)⟩
theorem with_doc {B : Nat} {w : World} {c : Nat} {T : Nat → Tr} {G : Nat → ByteArray} {x : Ad} (hL : Lies B w (.mk 6 false 0 ⟨#[]⟩ c T c G) x) (hB : B ≤ w.heap.size) (hc : c ≤ 12) (hsl : ∀ i, i < c → slimq (T i)) (nm : ByteArray) (hnm : nm.size ≤ maxLen) (p : Int) (hpr : -9223372036854775808 ≤ p ∧ p < 9223372036854775808) :
    Calls Try.prog 24 #[.agg #[.int .i64 6, .bool false, .int .i64 0, .string ⟨#[]⟩, .slice x.pa c x.pc, .slice x.na c x.nc], .string nm, .agg #[.int .i64 2, .bool false, .int .i64 p, .string ⟨#[]⟩, .slice none 0 0, .slice none 0 0]] w fun e w' => ∃ A', e = .returned ((docT (gW c G nm) (tW' c T p) (docP (gW c G nm) (c + 1))).val A') ∧ LiesS (fun k => w.heap.size ≤ k ∧ k < w'.heap.size) w' (docT (gW c G nm) (tW' c T p) (docP (gW c G nm) (c + 1))) A' ∧ Below w.heap.size w w' := by
  refine (with_any hL hB hc hsl nm hnm p hpr).mono ?_
  rintro e w' ⟨A', he, hL, hb⟩
  have hK := kept_doc (gW c G nm) c
  have hlen : (keptP (gW c G nm) (osF (gW c G nm) c) (c + 1) (c + 1)).length = (docP (gW c G nm) (c + 1)).length := by rw [hK]
  have hL' : LiesS (fun k => w.heap.size ≤ k ∧ k < w'.heap.size) w' (.mk 6 false 0 ⟨#[]⟩ (docP (gW c G nm) (c + 1)).length (fun j => (tW' c T p) ((docP (gW c G nm) (c + 1)).getD j 0)) (docP (gW c G nm) (c + 1)).length (fun j => ((docP (gW c G nm) (c + 1)).map (gW c G nm)).getD j ⟨#[]⟩)) A' := by
    rw [← hK]; exact hL
  refine ⟨A', ?_, lies_congr hL' (fun i _ => rfl) (fun i hi => ?_), hb⟩
  · rw [he]
    show Ending.returned (.agg #[.int .i64 6, .bool false, .int .i64 0, .string ⟨#[]⟩, .slice A'.pa (keptP (gW c G nm) (osF (gW c G nm) c) (c + 1) (c + 1)).length A'.pc, .slice A'.na (keptP (gW c G nm) (osF (gW c G nm) c) (c + 1) (c + 1)).length A'.nc]) = _
    rw [hlen]; rfl
  · rw [List.getD_eq_getElem?_getD, List.getD_eq_getElem?_getD, List.getElem?_map, List.getElem?_eq_getElem hi]; rfl
theorem with_get {c : Nat} {G : Nat → ByteArray} {T : Nat → Tr} {nm : ByteArray} {p : Int} : (∀ i, i < (docP (gW c G nm) (c + 1)).length → gW c G nm ((docP (gW c G nm) (c + 1)).getD i 0) = nm → tW' c T p ((docP (gW c G nm) (c + 1)).getD i 0) = leafT 2 false p ⟨#[]⟩) ∧ ¬ ∀ i, i < (docP (gW c G nm) (c + 1)).length → gW c G nm ((docP (gW c G nm) (c + 1)).getD i 0) ≠ nm := by
  have hboth := (docP_both (gW c G nm) (c + 1)).2
  have hcc : gW c G nm c = nm := by unfold gW; rw [if_neg (Nat.lt_irrefl c)]
  refine ⟨fun i hi h => ?_, fun h => ?_⟩
  · have hm : (docP (gW c G nm) (c + 1)).getD i 0 ∈ docP (gW c G nm) (c + 1) := by rw [List.getD_eq_getElem?_getD, List.getElem?_eq_getElem hi]; exact List.getElem_mem hi
    obtain ⟨h1, h2⟩ := (hboth _).1 hm
    have he : (docP (gW c G nm) (c + 1)).getD i 0 = c := by
      rcases Nat.lt_or_ge ((docP (gW c G nm) (c + 1)).getD i 0) c with h3 | h3
      · exact absurd (by rw [h, hcc]; exact cmpB_refl nm) (h2 c h3 (Nat.lt_succ_self c))
      · omega
    rw [he]; unfold tW'; rw [if_neg (Nat.lt_irrefl c)]
  · have hm : c ∈ docP (gW c G nm) (c + 1) := (hboth c).2 ⟨Nat.lt_succ_self c, fun j h1 h2 => by omega⟩
    obtain ⟨i, hi, he⟩ := List.mem_iff_getElem.1 hm
    refine h i hi ?_
    rw [List.getD_eq_getElem?_getD, List.getElem?_eq_getElem hi]
    show gW c G nm ((docP (gW c G nm) (c + 1))[i]) = nm
    rw [he, hcc]
theorem fl33 (a b c d e f : Value) (W : World) : (Instr.field 33 (.agg #[a, b, c, d, e, f]) 0).run Try.prog W = .ok a W := by kernel_rfl
attribute [local go_sem] fld0 fld2 fl33
set_option maxRecDepth 100000 in
set_option maxHeartbeats 16000000 in
theorem tail4 (w wr : World) (z12 z13 gz c le : Nat) (A1 A2 A5 : Ad) (f : Nat → Tr) (g : Nat → ByteArray) (ask : ByteArray) (E : List Nat) (y0 y1 y3 y4 y5 y6 y7 y8 y9 y10 y11 y14 y16 y17 y18 y19 y20 y21 y22 y23 y24 y25 y26 y27 y28 y29 y30 y31 y32 y33 y34 y35 y36 y37 y38 y39 y40 y41 y42 y43 y44 y45 y46 y47 y48 y49 y50 y51 y52 y53 y54 y55 y56 y57 y58 y59 y60 y61 y62 y63 y64 y65 y66 y67 y68 y69 y70 y71 y72 y73 y74 y75 y76 y77 y78 y79 y80 y81 y82 y83 y84 y85 y86 y87 y88 y89 y90 y91 y92 y93 y94 y95 y96 y97 y98 y99 y100 y101 y102 y103 y104 y105 y106 y107 y108 y109 y110 y111 y112 y113 y114 y115 y116 y117 y118 y119 y120 y121 y122 y123 y124 y125 y126 y127 y128 y129 y130 y131 y132 y133 y134 y135 y136 y137 y138 y139 y140 y141 y142 y143 y144 y145 y146 y147 y148 y149 y150 y151 y152 y153 y154 y155 y156 y157 y158 y159 y160 y161 y162 y163 y164 y165 y166 y167 y168 y169 y170 y171 y172 y173 y174 y175 y176 y177 y178 y179 y180 y181 y182 y183 y184 y185 y186 y187 y188 y189 y190 y191 y192 : Value) (hask : ask.size ≤ maxLen) (hc : c ≤ 12) (HSQ : Hid (∀ i, i < c → slimq (f i) ∧ slim (f i) ∧ small (f i))) (HV : Hid (VW w wr z12 z13 c A1 A2 f g)) (HE : Hid (docP (gW c g ask) (c + 1) = E ∧ E.length = le)) (ru : wr.heap[gz]? = some (.cells #[.int .i64 6, .bool false, .int .i64 0, .string ⟨#[]⟩, .slice A5.pa le A5.pc, .slice A5.na le A5.nc] 25 (0, 0))) (HU : Hid (Lies wr.heap.size wr (.mk 6 false 0 ⟨#[]⟩ le (fun j => tW' c f 77 (E.getD j 0)) le (fun j => gW c g ask (E.getD j 0))) A5)) (cc : Code) (hcc : cutS (cutT3 (cutS (cutB Try.f7.body))) = some cc) :
    Code.wp Try.prog cc (bodyPost Try.prog Try.f7 fun e w' => e = .returned (.bool true) ∧ Below w.heap.size w w') ⟨List.toArray (y0 :: y1 :: .string ask :: y3 :: y4 :: y5 :: y6 :: y7 :: y8 :: y9 :: y10 :: y11 :: .pointer (some ⟨z12, 0, none⟩) :: .pointer (some ⟨z13, 0, none⟩) :: y14 :: .pointer (some ⟨gz, 0, none⟩) :: y16 :: y17 :: y18 :: y19 :: y20 :: y21 :: y22 :: y23 :: y24 :: y25 :: y26 :: y27 :: y28 :: y29 :: y30 :: y31 :: y32 :: y33 :: y34 :: y35 :: y36 :: y37 :: y38 :: y39 :: y40 :: y41 :: y42 :: y43 :: y44 :: y45 :: y46 :: y47 :: y48 :: y49 :: y50 :: y51 :: y52 :: y53 :: y54 :: y55 :: y56 :: y57 :: y58 :: y59 :: y60 :: y61 :: y62 :: y63 :: y64 :: y65 :: y66 :: y67 :: y68 :: y69 :: y70 :: y71 :: y72 :: y73 :: y74 :: y75 :: y76 :: y77 :: y78 :: y79 :: y80 :: y81 :: y82 :: y83 :: y84 :: y85 :: y86 :: y87 :: y88 :: y89 :: y90 :: y91 :: y92 :: y93 :: y94 :: y95 :: y96 :: y97 :: y98 :: y99 :: y100 :: y101 :: y102 :: y103 :: y104 :: y105 :: y106 :: y107 :: y108 :: y109 :: y110 :: y111 :: y112 :: y113 :: y114 :: y115 :: y116 :: y117 :: y118 :: y119 :: y120 :: y121 :: y122 :: y123 :: y124 :: y125 :: y126 :: y127 :: y128 :: y129 :: y130 :: y131 :: y132 :: y133 :: y134 :: y135 :: y136 :: y137 :: y138 :: y139 :: y140 :: y141 :: y142 :: y143 :: y144 :: y145 :: y146 :: y147 :: y148 :: y149 :: y150 :: y151 :: y152 :: y153 :: y154 :: y155 :: y156 :: y157 :: y158 :: y159 :: y160 :: y161 :: y162 :: y163 :: y164 :: y165 :: y166 :: y167 :: y168 :: y169 :: y170 :: y171 :: y172 :: y173 :: y174 :: y175 :: y176 :: y177 :: y178 :: y179 :: y180 :: y181 :: y182 :: y183 :: y184 :: y185 :: y186 :: y187 :: y188 :: y189 :: y190 :: y191 :: y192 :: []), []⟩ wr := by
  obtain rfl := Option.some.inj ((show cutS (cutT3 (cutS (cutB Try.f7.body))) = some _ from rfl).symm.trans hcc)
  clear hcc
  have kin : ∀ (n : Int) (W : World), Calls Try.prog 25 #[.int .i64 n] W fun e w' => e = .returned (.agg #[.int .i64 2, .bool false, .int .i64 n, .string ⟨#[]⟩, .slice none 0 0, .slice none 0 0]) ∧ Below W.heap.size W w' := fun n W => vint n W
  have hlec : le ≤ c + 1 := by rw [← HE.out.2, ← HE.out.1]; exact docP_len _ _
  have ku : ∀ (W : World), Lies W.heap.size W (.mk 6 false 0 ⟨#[]⟩ le (fun j => tW' c f 77 (E.getD j 0)) le (fun j => gW c g ask (E.getD j 0))) A5 → Calls Try.prog 28 #[.agg #[.int .i64 6, .bool false, .int .i64 0, .string ⟨#[]⟩, .slice A5.pa le A5.pc, .slice A5.na le A5.nc], .string ask] W fun e w' => ∃ A6 : Ad, e = .returned (.agg #[.int .i64 2, .bool false, .int .i64 77, .string ⟨#[]⟩, .slice A6.pa 0 A6.pc, .slice A6.na 0 A6.nc]) ∧ Below W.heap.size W w' := fun W hL => by
    have hget := with_get (c := c) (G := g) (T := f) (nm := ask) (p := 77)
    rw [HE.out.1, HE.out.2] at hget
    refine (get_both hL (Nat.le_refl _) (Nat.le_refl _) (by omega) (fun i hi => by
      show slimq (tW' c f 77 (E.getD i 0))
      unfold tW'
      split
      · exact (HSQ.out _ (by assumption)).1
      · exact ⟨Nat.zero_le _, Nat.zero_le _, fun i hi => absurd hi (Nat.not_lt_zero i)⟩) ask).mono ?_
    rintro e w' ⟨h | h, hb⟩
    · obtain ⟨i, h1, h2, _, A6, he, _⟩ := h
      have h3 := hget.1 i h1 h2
      rw [h3] at he
      exact ⟨A6, he, hb⟩
    · exact absurd (fun i hi => h.1 i hi) hget.2
  have hg1 : ∀ W, Below wr.heap.size wr W → Calls Try.prog 28 #[.agg #[.int .i64 6, .bool false, .int .i64 0, .string ⟨#[]⟩, .slice A1.pa c A1.pc, .slice A1.na c A1.nc], .string ask] W fun e w' => ((∃ i, i < c ∧ g i = ask ∧ (∀ j, j < i → g j ≠ ask) ∧ ∃ A : Ad, e = .returned (.agg #[.int .i64 (f i).k, .bool (f i).b, .int .i64 (f i).n, .string (f i).s, .slice A.pa (f i).m A.pc, .slice A.na (f i).q A.nc]) ∧ LiesS (fun k => W.heap.size ≤ k ∧ k < w'.heap.size) w' (f i) A) ∨ ((∀ j, j < c → g j ≠ ask) ∧ e = .returned (.agg #[.int .i64 0, .bool false, .int .i64 0, .string ⟨#[]⟩, .slice none 0 0, .slice none 0 0]))) ∧ Below W.heap.size W w' := fun W hb => get_both (lies_grow HV.out.l1 hb) (Nat.le_refl _) (Nat.le_refl _) (by omega) (fun i hi => (HSQ.out i hi).1) ask
  have hg2 : ∀ W, Below wr.heap.size wr W → Calls Try.prog 29 #[.agg #[.int .i64 6, .bool false, .int .i64 0, .string ⟨#[]⟩, .slice A2.pa c A2.pc, .slice A2.na c A2.nc], .string ask] W fun e w' => ((∃ i, i < c ∧ g i = ask ∧ (∀ j, j < i → g j ≠ ask) ∧ ∃ A : Ad, e = .returned ((f i).val A) ∧ Lies W.heap.size w' (f i) A) ∨ ((∀ j, j < c → g j ≠ ask) ∧ e = .returned (.agg #[.int .i64 0, .bool false, .int .i64 0, .string ⟨#[]⟩, .slice none 0 0, .slice none 0 0]))) ∧ Below W.heap.size W w' := fun W hb => rget_any (lies_grow HV.out.l2 hb) (Nat.le_refl _) (Nat.le_refl _) ask
  obtain ⟨t1, kg1, kg2, kr1⟩ : ∃ t1 : Tr, (∀ W, Below wr.heap.size wr W → Calls Try.prog 28 #[.agg #[.int .i64 6, .bool false, .int .i64 0, .string ⟨#[]⟩, .slice A1.pa c A1.pc, .slice A1.na c A1.nc], .string ask] W fun e w' => ∃ A3 : Ad, e = .returned (.agg #[.int .i64 t1.k, .bool t1.b, .int .i64 t1.n, .string t1.s, .slice A3.pa t1.m A3.pc, .slice A3.na t1.q A3.nc]) ∧ Lies w'.heap.size w' t1 A3 ∧ Below W.heap.size W w') ∧ (∀ W, Below wr.heap.size wr W → Calls Try.prog 29 #[.agg #[.int .i64 6, .bool false, .int .i64 0, .string ⟨#[]⟩, .slice A2.pa c A2.pc, .slice A2.na c A2.nc], .string ask] W fun e w' => ∃ A3 : Ad, e = .returned (.agg #[.int .i64 t1.k, .bool t1.b, .int .i64 t1.n, .string t1.s, .slice A3.pa t1.m A3.pc, .slice A3.na t1.q A3.nc]) ∧ Below W.heap.size W w') ∧ slim t1 := by
    rcases first_or (q := c) (g := g) (nm := ask) with ⟨i, h1, h2, h3⟩ | h
    · have huniq : ∀ i', i' < c → g i' = ask → (∀ j, j < i' → g j ≠ ask) → i' = i := fun i' _ h5 h6 => by
        rcases Nat.lt_trichotomy i i' with h7 | h7 | h7
        · exact absurd h2 (h6 i h7)
        · exact h7.symm
        · exact absurd h5 (h3 i' h7)
      refine ⟨f i, fun W hb => (hg1 W hb).mono ?_, fun W hb => (hg2 W hb).mono ?_, (HSQ.out i h1).2.1⟩
      · rintro e w' ⟨h | h, hb2⟩
        · obtain ⟨i', a1, a2, a3, A3, he, hl⟩ := h
          obtain rfl := huniq i' a1 a2 a3
          exact ⟨A3, he, hl.up (fun k hk => hk.2), hb2⟩
        · exact absurd h2 (h.1 i h1)
      · rintro e w' ⟨h | h, hb2⟩
        · obtain ⟨i', a1, a2, a3, A3, he, _⟩ := h
          obtain rfl := huniq i' a1 a2 a3
          exact ⟨A3, he, hb2⟩
        · exact absurd h2 (h.1 i h1)
    · refine ⟨leafT 0 false 0 ⟨#[]⟩, fun W hb => (hg1 W hb).mono ?_, fun W hb => (hg2 W hb).mono ?_, ⟨Nat.zero_le _, fun i hi => absurd hi (Nat.not_lt_zero i)⟩⟩
      · rintro e w' ⟨h' | h', hb2⟩
        · obtain ⟨i', a1, a2, _⟩ := h'
          exact absurd a2 (h i' a1)
        · exact ⟨⟨none, 0, none, 0⟩, h'.2, lies_leaf (by decide) (by decide) (Nat.zero_le _), hb2⟩
      · rintro e w' ⟨h' | h', hb2⟩
        · obtain ⟨i', a1, a2, _⟩ := h'
          exact absurd a2 (h i' a1)
        · exact ⟨⟨none, 0, none, 0⟩, h'.2, hb2⟩
  have kref : ∀ (W : World) (A3 : Ad), Lies W.heap.size W t1 A3 → Calls Try.prog 13 #[.agg #[.int .i64 t1.k, .bool t1.b, .int .i64 t1.n, .string t1.s, .slice A3.pa t1.m A3.pc, .slice A3.na t1.q A3.nc]] W fun e w' => (∃ A3 : Ad, e = .returned (.agg #[.int .i64 t1.k, .bool t1.b, .int .i64 t1.n, .string t1.s, .slice A3.pa t1.m A3.pc, .slice A3.na t1.q A3.nc])) ∧ Below W.heap.size W w' := fun W A3 hL => by
    refine (refS_all t1 kr1 _ W A3 hL (fun k hk => hk)).mono ?_
    rintro e w' ⟨A4, he, _, hb⟩
    exact ⟨⟨A4, he⟩, hb⟩
  have kn1 : ∀ W : World, Calls Try.prog 26 #[.string ask] W fun e w' => e = .returned (.bool (nameB ask)) ∧ Below W.heap.size W w' := fun W => (name_any ask W).mono (by rintro e w' ⟨rfl, rfl⟩; exact ⟨rfl, Below.refl _ _⟩)
  have kn2 : ∀ W : World, Calls Try.prog 27 #[.string ask] W fun e w' => e = .returned (.bool (nameB ask)) ∧ Below W.heap.size W w' := fun W => (rname_any ask (by unfold maxLen at hask; omega) W).mono (by rintro e w' ⟨rfl, rfl⟩; exact ⟨rfl, Below.refl _ _⟩)
  have kgi : ∀ W : World, Calls Try.prog 28 #[.agg #[.int .i64 2, .bool false, .int .i64 5, .string ⟨#[]⟩, .slice none 0 0, .slice none 0 0], .string ask] W fun e w' => e = .returned (.agg #[.int .i64 0, .bool false, .int .i64 0, .string ⟨#[]⟩, .slice none 0 0, .slice none 0 0]) ∧ Below W.heap.size W w' := fun W => get_int 5 ask W
  obtain ⟨nb, hnb⟩ : ∃ nb, nameB ask = nb := ⟨_, rfl⟩
  rw [hnb] at kn1 kn2
  have hlc : (le : Int) ≤ (c : Int) + 1 := by omega
  have hci : (c : Int) ≤ 12 := by omega
  have hwr : IntKind.i64.wrap ((c : Int) + 1) = (c : Int) + 1 := by rw [IntKind.wrap_i64]; omega
  have r12 := HV.out.r12
  have r13 := HV.out.r13
  have hbel := HV.out.bel
  clear hg1 hg2 hnb
  go_wp2_with fail
  refine (wpIn_wide (n := 0)).1 ?_
  refine any_tailIn (m := 0) (by kernel_rfl) 41 (by exact Nat.le_of_ble_eq_true rfl) (fun i => i + 152) (mixR [(8, (fun (v : Value) (W : World) => ∃ A3 : Ad, v = .agg #[.int .i64 t1.k, .bool t1.b, .int .i64 t1.n, .string t1.s, .slice A3.pa t1.m A3.pc, .slice A3.na t1.q A3.nc] ∧ Lies W.heap.size W t1 A3)), (9, (fun (v : Value) (_ : World) => ∃ A3 : Ad, v = .agg #[.int .i64 t1.k, .bool t1.b, .int .i64 t1.n, .string t1.s, .slice A3.pa t1.m A3.pc, .slice A3.na t1.q A3.nc])), (13, (fun (v : Value) (_ : World) => ∃ A3 : Ad, v = .agg #[.int .i64 t1.k, .bool t1.b, .int .i64 t1.n, .string t1.s, .slice A3.pa t1.m A3.pc, .slice A3.na t1.q A3.nc])), (20, (fun (v : Value) (_ : World) => ∃ A6 : Ad, v = .agg #[.int .i64 2, .bool false, .int .i64 77, .string ⟨#[]⟩, .slice A6.pa 0 A6.pc, .slice A6.na 0 A6.nc]))] [.string ask, .bool nb, .string ask, .bool nb, .bool true, .bool true, .agg #[.int .i64 6, .bool false, .int .i64 0, .string ⟨#[]⟩, .slice A1.pa c A1.pc, .slice A1.na c A1.nc], .string ask, undef, undef, .int .i64 t1.k, .agg #[.int .i64 6, .bool false, .int .i64 0, .string ⟨#[]⟩, .slice A2.pa c A2.pc, .slice A2.na c A2.nc], .string ask, undef, .int .i64 t1.k, .bool true, .bool true, .bool true, .agg #[.int .i64 6, .bool false, .int .i64 0, .string ⟨#[]⟩, .slice A5.pa le A5.pc, .slice A5.na le A5.nc], .string ask, undef, .int .i64 77, .bool true, .bool true, .bool true, .pointer (some ⟨gz, 5, none⟩), .slice A5.na le A5.nc, .int .i64 (le : Int), .pointer (some ⟨z12, 5, none⟩), .slice A1.na c A1.nc, .int .i64 (c : Int), .int .i64 ((c : Int) + 1), .bool true, .bool true, .bool true, .agg #[.int .i64 2, .bool false, .int .i64 5, .string ⟨#[]⟩, .slice none 0 0, .slice none 0 0], .string ask, .agg #[.int .i64 0, .bool false, .int .i64 0, .string ⟨#[]⟩, .slice none 0 0, .slice none 0 0], .int .i64 0, .bool true, .bool true]) (by kernel_rfl) (by kernel_rfl) (by kernel_rfl) (by kernel_rfl) (mixR_later _ _ (stab_cons (fun v W W' h hb => by obtain ⟨A3, h1, h2⟩ := h; exact ⟨A3, h1, lies_grow h2 hb⟩) (stab_cons (fun v W W' h _ => h) (stab_cons (fun v W W' h _ => h) (stab_cons (fun v W W' h _ => h) (stab_nil)))))) ?step ?post
  case step =>
    intro iq hiq a W hrest hb hk
    have hp12 : a.eval (.tmp 12) = .pointer (some ⟨z12, 0, none⟩) := (hrest 12 (by intro iq2 hiq2; (repeat' split) <;> omega)).trans rfl
    have fp12 := ev hp12
    have hx12 : W.heap[z12]? = some (.cells #[.int .i64 6, .bool false, .int .i64 0, .string ⟨#[]⟩, .slice A1.pa c A1.pc, .slice A1.na c A1.nc] 25 (0, 0)) := (hb.block _ (lt_of_row r12)).trans r12
    have hp13 : a.eval (.tmp 13) = .pointer (some ⟨z13, 0, none⟩) := (hrest 13 (by intro iq2 hiq2; (repeat' split) <;> omega)).trans rfl
    have fp13 := ev hp13
    have hx13 : W.heap[z13]? = some (.cells #[.int .i64 6, .bool false, .int .i64 0, .string ⟨#[]⟩, .slice A2.pa c A2.pc, .slice A2.na c A2.nc] 33 (0, 0)) := (hb.block _ (lt_of_row r13)).trans r13
    have hp15 : a.eval (.tmp 15) = .pointer (some ⟨gz, 0, none⟩) := (hrest 15 (by intro iq2 hiq2; (repeat' split) <;> omega)).trans rfl
    have fp15 := ev hp15
    have hx15 : W.heap[gz]? = some (.cells #[.int .i64 6, .bool false, .int .i64 0, .string ⟨#[]⟩, .slice A5.pa le A5.pc, .slice A5.na le A5.nc] 25 (0, 0)) := (hb.block _ (lt_of_row ru)).trans ru
    have hp2 : a.eval (.tmp 2) = .string ask := (hrest 2 (by intro iq2 hiq2; (repeat' split) <;> omega)).trans rfl
    have fp2 := ev hp2
    clear hrest
    obtain rfl | rfl | rfl | rfl | rfl | rfl | rfl | rfl | rfl | rfl | rfl | rfl | rfl | rfl | rfl | rfl | rfl | rfl | rfl | rfl | rfl | rfl | rfl | rfl | rfl | rfl | rfl | rfl | rfl | rfl | rfl | rfl | rfl | rfl | rfl | rfl | rfl | rfl | rfl | rfl | rfl : iq = 0 ∨ iq = 1 ∨ iq = 2 ∨ iq = 3 ∨ iq = 4 ∨ iq = 5 ∨ iq = 6 ∨ iq = 7 ∨ iq = 8 ∨ iq = 9 ∨ iq = 10 ∨ iq = 11 ∨ iq = 12 ∨ iq = 13 ∨ iq = 14 ∨ iq = 15 ∨ iq = 16 ∨ iq = 17 ∨ iq = 18 ∨ iq = 19 ∨ iq = 20 ∨ iq = 21 ∨ iq = 22 ∨ iq = 23 ∨ iq = 24 ∨ iq = 25 ∨ iq = 26 ∨ iq = 27 ∨ iq = 28 ∨ iq = 29 ∨ iq = 30 ∨ iq = 31 ∨ iq = 32 ∨ iq = 33 ∨ iq = 34 ∨ iq = 35 ∨ iq = 36 ∨ iq = 37 ∨ iq = 38 ∨ iq = 39 ∨ iq = 40 := by omega
    · clear hiq
      clear hk
      refine ⟨_, rfl, rfl, Or.inl ⟨wanted_none rfl, wpIn_value (v := .string ask) (w' := W) ?_ ⟨_, rfl, Below.refl _ _, rfl⟩⟩⟩
      go_simp
    · clear hiq
      have e0 : a.eval (.tmp 152) = .string ask := hk 0 (mem_of (by kernel_rfl))
      have f0 := ev e0
      clear hk
      refine ⟨_, rfl, rfl, Or.inl ⟨wanted_none rfl, wpIn_enter (f := 26) (args := #[.string ask]) ?_ ((kn1 W).mono ?_)⟩⟩
      · go_simp
      · rintro e w2 ⟨rfl, hb2⟩
        exact ⟨_, rfl, _, rfl, hb2, rfl⟩
    · clear hiq
      clear hk
      refine ⟨_, rfl, rfl, Or.inl ⟨wanted_none rfl, wpIn_value (v := .string ask) (w' := W) ?_ ⟨_, rfl, Below.refl _ _, rfl⟩⟩⟩
      go_simp
    · clear hiq
      have e2 : a.eval (.tmp 154) = .string ask := hk 2 (mem_of (by kernel_rfl))
      have f2 := ev e2
      clear hk
      refine ⟨_, rfl, rfl, Or.inl ⟨wanted_none rfl, wpIn_enter (f := 27) (args := #[.string ask]) ?_ ((kn2 W).mono ?_)⟩⟩
      · go_simp
      · rintro e w2 ⟨rfl, hb2⟩
        exact ⟨_, rfl, _, rfl, hb2, rfl⟩
    · clear hiq
      have e1 : a.eval (.tmp 153) = .bool nb := hk 1 (mem_of (by kernel_rfl))
      have f1 := ev e1
      have e3 : a.eval (.tmp 155) = .bool nb := hk 3 (mem_of (by kernel_rfl))
      have f3 := ev e3
      clear hk
      refine ⟨_, rfl, rfl, Or.inl ⟨wanted_none rfl, wpIn_value (v := .bool true) (w' := W) ?_ ⟨_, rfl, Below.refl _ _, rfl⟩⟩⟩
      go_simp
    · clear hiq
      have e4 : a.eval (.tmp 156) = .bool true := hk 4 (mem_of (by kernel_rfl))
      have f4 := ev e4
      clear hk
      refine ⟨_, rfl, rfl, Or.inl ⟨wanted_none rfl, wpIn_value (v := .bool true) (w' := W) ?_ ⟨_, rfl, Below.refl _ _, rfl⟩⟩⟩
      go_simp
    · clear hiq
      have e5 : a.eval (.tmp 157) = .bool true := hk 5 (mem_of (by kernel_rfl))
      have f5 := ev e5
      have hc0 := cell_of_row W z12 0 _ _ _ hx12
      have hc1 := cell_of_row W z12 1 _ _ _ hx12
      have hc2 := cell_of_row W z12 2 _ _ _ hx12
      have hc3 := cell_of_row W z12 3 _ _ _ hx12
      have hc4 := cell_of_row W z12 4 _ _ _ hx12
      have hc5 := cell_of_row W z12 5 _ _ _ hx12
      clear hk
      refine ⟨_, rfl, rfl, Or.inl ⟨wanted_of (k := 5) (b := true) rfl rfl e5, wpIn_value (v := .agg #[.int .i64 6, .bool false, .int .i64 0, .string ⟨#[]⟩, .slice A1.pa c A1.pc, .slice A1.na c A1.nc]) (w' := W) ?_ ⟨_, rfl, Below.refl _ _, rfl⟩⟩⟩
      go_simp
    · clear hiq
      have e5 : a.eval (.tmp 157) = .bool true := hk 5 (mem_of (by kernel_rfl))
      have f5 := ev e5
      clear hk
      refine ⟨_, rfl, rfl, Or.inl ⟨wanted_of (k := 5) (b := true) rfl rfl e5, wpIn_value (v := .string ask) (w' := W) ?_ ⟨_, rfl, Below.refl _ _, rfl⟩⟩⟩
      go_simp
    · clear hiq
      have e5 : a.eval (.tmp 157) = .bool true := hk 5 (mem_of (by kernel_rfl))
      have f5 := ev e5
      have e6 : a.eval (.tmp 158) = .agg #[.int .i64 6, .bool false, .int .i64 0, .string ⟨#[]⟩, .slice A1.pa c A1.pc, .slice A1.na c A1.nc] := hk 6 (mem_of (by kernel_rfl))
      have f6 := ev e6
      have e7 : a.eval (.tmp 159) = .string ask := hk 7 (mem_of (by kernel_rfl))
      have f7 := ev e7
      clear hk
      refine ⟨_, rfl, rfl, Or.inl ⟨wanted_of (k := 5) (b := true) rfl rfl e5, wpIn_enter (f := 28) (args := #[.agg #[.int .i64 6, .bool false, .int .i64 0, .string ⟨#[]⟩, .slice A1.pa c A1.pc, .slice A1.na c A1.nc], .string ask]) ?_ ((kg1 W hb).mono ?_)⟩⟩
      · go_simp
      · rintro e w2 ⟨A3, rfl, hl3, hb2⟩
        exact ⟨_, rfl, _, rfl, hb2, ⟨A3, rfl, hl3⟩⟩
    · clear hiq
      have e5 : a.eval (.tmp 157) = .bool true := hk 5 (mem_of (by kernel_rfl))
      have f5 := ev e5
      obtain ⟨A3, e8, L8⟩ := show (fun (v : Value) (W : World) => ∃ A3 : Ad, v = .agg #[.int .i64 t1.k, .bool t1.b, .int .i64 t1.n, .string t1.s, .slice A3.pa t1.m A3.pc, .slice A3.na t1.q A3.nc] ∧ Lies W.heap.size W t1 A3) (a.eval (.tmp 160)) W from hk 8 (mem_of (by kernel_rfl))
      have f8 := ev e8
      clear hk
      refine ⟨_, rfl, rfl, Or.inl ⟨wanted_of (k := 5) (b := true) rfl rfl e5, wpIn_enter (f := 13) (args := #[.agg #[.int .i64 t1.k, .bool t1.b, .int .i64 t1.n, .string t1.s, .slice A3.pa t1.m A3.pc, .slice A3.na t1.q A3.nc]]) ?_ ((kref W A3 L8).mono ?_)⟩⟩
      · go_simp
      · rintro e w2 ⟨⟨A4, rfl⟩, hb2⟩
        exact ⟨_, rfl, _, rfl, hb2, ⟨A4, rfl⟩⟩
    · clear hiq
      have e5 : a.eval (.tmp 157) = .bool true := hk 5 (mem_of (by kernel_rfl))
      have f5 := ev e5
      obtain ⟨A3, e9⟩ := show (fun (v : Value) (_ : World) => ∃ A3 : Ad, v = .agg #[.int .i64 t1.k, .bool t1.b, .int .i64 t1.n, .string t1.s, .slice A3.pa t1.m A3.pc, .slice A3.na t1.q A3.nc]) (a.eval (.tmp 161)) W from hk 9 (mem_of (by kernel_rfl))
      have f9 := ev e9
      clear hk
      refine ⟨_, rfl, rfl, Or.inl ⟨wanted_of (k := 5) (b := true) rfl rfl e5, wpIn_value (v := .int .i64 t1.k) (w' := W) ?_ ⟨_, rfl, Below.refl _ _, rfl⟩⟩⟩
      go_simp
    · clear hiq
      have e5 : a.eval (.tmp 157) = .bool true := hk 5 (mem_of (by kernel_rfl))
      have f5 := ev e5
      have hc0 := cell_of_row W z13 0 _ _ _ hx13
      have hc1 := cell_of_row W z13 1 _ _ _ hx13
      have hc2 := cell_of_row W z13 2 _ _ _ hx13
      have hc3 := cell_of_row W z13 3 _ _ _ hx13
      have hc4 := cell_of_row W z13 4 _ _ _ hx13
      have hc5 := cell_of_row W z13 5 _ _ _ hx13
      clear hk
      refine ⟨_, rfl, rfl, Or.inl ⟨wanted_of (k := 5) (b := true) rfl rfl e5, wpIn_value (v := .agg #[.int .i64 6, .bool false, .int .i64 0, .string ⟨#[]⟩, .slice A2.pa c A2.pc, .slice A2.na c A2.nc]) (w' := W) ?_ ⟨_, rfl, Below.refl _ _, rfl⟩⟩⟩
      go_simp
    · clear hiq
      have e5 : a.eval (.tmp 157) = .bool true := hk 5 (mem_of (by kernel_rfl))
      have f5 := ev e5
      clear hk
      refine ⟨_, rfl, rfl, Or.inl ⟨wanted_of (k := 5) (b := true) rfl rfl e5, wpIn_value (v := .string ask) (w' := W) ?_ ⟨_, rfl, Below.refl _ _, rfl⟩⟩⟩
      go_simp
    · clear hiq
      have e5 : a.eval (.tmp 157) = .bool true := hk 5 (mem_of (by kernel_rfl))
      have f5 := ev e5
      have e11 : a.eval (.tmp 163) = .agg #[.int .i64 6, .bool false, .int .i64 0, .string ⟨#[]⟩, .slice A2.pa c A2.pc, .slice A2.na c A2.nc] := hk 11 (mem_of (by kernel_rfl))
      have f11 := ev e11
      have e12 : a.eval (.tmp 164) = .string ask := hk 12 (mem_of (by kernel_rfl))
      have f12 := ev e12
      clear hk
      refine ⟨_, rfl, rfl, Or.inl ⟨wanted_of (k := 5) (b := true) rfl rfl e5, wpIn_enter (f := 29) (args := #[.agg #[.int .i64 6, .bool false, .int .i64 0, .string ⟨#[]⟩, .slice A2.pa c A2.pc, .slice A2.na c A2.nc], .string ask]) ?_ ((kg2 W hb).mono ?_)⟩⟩
      · go_simp
      · rintro e w2 ⟨A3, rfl, hb2⟩
        exact ⟨_, rfl, _, rfl, hb2, ⟨A3, rfl⟩⟩
    · clear hiq
      have e5 : a.eval (.tmp 157) = .bool true := hk 5 (mem_of (by kernel_rfl))
      have f5 := ev e5
      obtain ⟨A3, e13⟩ := show (fun (v : Value) (_ : World) => ∃ A3 : Ad, v = .agg #[.int .i64 t1.k, .bool t1.b, .int .i64 t1.n, .string t1.s, .slice A3.pa t1.m A3.pc, .slice A3.na t1.q A3.nc]) (a.eval (.tmp 165)) W from hk 13 (mem_of (by kernel_rfl))
      have f13 := ev e13
      clear hk
      refine ⟨_, rfl, rfl, Or.inl ⟨wanted_of (k := 5) (b := true) rfl rfl e5, wpIn_value (v := .int .i64 t1.k) (w' := W) ?_ ⟨_, rfl, Below.refl _ _, rfl⟩⟩⟩
      go_simp
    · clear hiq
      have e5 : a.eval (.tmp 157) = .bool true := hk 5 (mem_of (by kernel_rfl))
      have f5 := ev e5
      have e10 : a.eval (.tmp 162) = .int .i64 t1.k := hk 10 (mem_of (by kernel_rfl))
      have f10 := ev e10
      have e14 : a.eval (.tmp 166) = .int .i64 t1.k := hk 14 (mem_of (by kernel_rfl))
      have f14 := ev e14
      clear hk
      refine ⟨_, rfl, rfl, Or.inl ⟨wanted_of (k := 5) (b := true) rfl rfl e5, wpIn_value (v := .bool true) (w' := W) ?_ ⟨_, rfl, Below.refl _ _, rfl⟩⟩⟩
      go_simp
    · clear hiq
      have e5 : a.eval (.tmp 157) = .bool true := hk 5 (mem_of (by kernel_rfl))
      have f5 := ev e5
      have e15 : a.eval (.tmp 167) = .bool true := hk 15 (mem_of (by kernel_rfl))
      have f15 := ev e15
      clear hk
      refine ⟨_, rfl, rfl, Or.inl ⟨wanted_none rfl, wpIn_value (v := .bool true) (w' := W) ?_ ⟨_, rfl, Below.refl _ _, rfl⟩⟩⟩
      go_simp
    · clear hiq
      have e16 : a.eval (.tmp 168) = .bool true := hk 16 (mem_of (by kernel_rfl))
      have f16 := ev e16
      clear hk
      refine ⟨_, rfl, rfl, Or.inl ⟨wanted_none rfl, wpIn_value (v := .bool true) (w' := W) ?_ ⟨_, rfl, Below.refl _ _, rfl⟩⟩⟩
      go_simp
    · clear hiq
      have e17 : a.eval (.tmp 169) = .bool true := hk 17 (mem_of (by kernel_rfl))
      have f17 := ev e17
      have hc0 := cell_of_row W gz 0 _ _ _ hx15
      have hc1 := cell_of_row W gz 1 _ _ _ hx15
      have hc2 := cell_of_row W gz 2 _ _ _ hx15
      have hc3 := cell_of_row W gz 3 _ _ _ hx15
      have hc4 := cell_of_row W gz 4 _ _ _ hx15
      have hc5 := cell_of_row W gz 5 _ _ _ hx15
      clear hk
      refine ⟨_, rfl, rfl, Or.inl ⟨wanted_of (k := 17) (b := true) rfl rfl e17, wpIn_value (v := .agg #[.int .i64 6, .bool false, .int .i64 0, .string ⟨#[]⟩, .slice A5.pa le A5.pc, .slice A5.na le A5.nc]) (w' := W) ?_ ⟨_, rfl, Below.refl _ _, rfl⟩⟩⟩
      go_simp
    · clear hiq
      have e17 : a.eval (.tmp 169) = .bool true := hk 17 (mem_of (by kernel_rfl))
      have f17 := ev e17
      clear hk
      refine ⟨_, rfl, rfl, Or.inl ⟨wanted_of (k := 17) (b := true) rfl rfl e17, wpIn_value (v := .string ask) (w' := W) ?_ ⟨_, rfl, Below.refl _ _, rfl⟩⟩⟩
      go_simp
    · clear hiq
      have e17 : a.eval (.tmp 169) = .bool true := hk 17 (mem_of (by kernel_rfl))
      have f17 := ev e17
      have e18 : a.eval (.tmp 170) = .agg #[.int .i64 6, .bool false, .int .i64 0, .string ⟨#[]⟩, .slice A5.pa le A5.pc, .slice A5.na le A5.nc] := hk 18 (mem_of (by kernel_rfl))
      have f18 := ev e18
      have e19 : a.eval (.tmp 171) = .string ask := hk 19 (mem_of (by kernel_rfl))
      have f19 := ev e19
      clear hk
      refine ⟨_, rfl, rfl, Or.inl ⟨wanted_of (k := 17) (b := true) rfl rfl e17, wpIn_enter (f := 28) (args := #[.agg #[.int .i64 6, .bool false, .int .i64 0, .string ⟨#[]⟩, .slice A5.pa le A5.pc, .slice A5.na le A5.nc], .string ask]) ?_ ((ku W (lies_grow HU.out hb)).mono ?_)⟩⟩
      · go_simp
      · rintro e w2 ⟨A6, rfl, hb2⟩
        exact ⟨_, rfl, _, rfl, hb2, ⟨A6, rfl⟩⟩
    · clear hiq
      have e17 : a.eval (.tmp 169) = .bool true := hk 17 (mem_of (by kernel_rfl))
      have f17 := ev e17
      obtain ⟨A6, e20⟩ := show (fun (v : Value) (_ : World) => ∃ A6 : Ad, v = .agg #[.int .i64 2, .bool false, .int .i64 77, .string ⟨#[]⟩, .slice A6.pa 0 A6.pc, .slice A6.na 0 A6.nc]) (a.eval (.tmp 172)) W from hk 20 (mem_of (by kernel_rfl))
      have f20 := ev e20
      clear hk
      refine ⟨_, rfl, rfl, Or.inl ⟨wanted_of (k := 17) (b := true) rfl rfl e17, wpIn_value (v := .int .i64 77) (w' := W) ?_ ⟨_, rfl, Below.refl _ _, rfl⟩⟩⟩
      go_simp
    · clear hiq
      have e17 : a.eval (.tmp 169) = .bool true := hk 17 (mem_of (by kernel_rfl))
      have f17 := ev e17
      have e21 : a.eval (.tmp 173) = .int .i64 77 := hk 21 (mem_of (by kernel_rfl))
      have f21 := ev e21
      clear hk
      refine ⟨_, rfl, rfl, Or.inl ⟨wanted_of (k := 17) (b := true) rfl rfl e17, wpIn_value (v := .bool true) (w' := W) ?_ ⟨_, rfl, Below.refl _ _, rfl⟩⟩⟩
      go_simp
    · clear hiq
      have e17 : a.eval (.tmp 169) = .bool true := hk 17 (mem_of (by kernel_rfl))
      have f17 := ev e17
      have e22 : a.eval (.tmp 174) = .bool true := hk 22 (mem_of (by kernel_rfl))
      have f22 := ev e22
      clear hk
      refine ⟨_, rfl, rfl, Or.inl ⟨wanted_none rfl, wpIn_value (v := .bool true) (w' := W) ?_ ⟨_, rfl, Below.refl _ _, rfl⟩⟩⟩
      go_simp
    · clear hiq
      have e23 : a.eval (.tmp 175) = .bool true := hk 23 (mem_of (by kernel_rfl))
      have f23 := ev e23
      clear hk
      refine ⟨_, rfl, rfl, Or.inl ⟨wanted_none rfl, wpIn_value (v := .bool true) (w' := W) ?_ ⟨_, rfl, Below.refl _ _, rfl⟩⟩⟩
      go_simp
    · clear hiq
      have e24 : a.eval (.tmp 176) = .bool true := hk 24 (mem_of (by kernel_rfl))
      have f24 := ev e24
      clear hk
      refine ⟨_, rfl, rfl, Or.inl ⟨wanted_of (k := 24) (b := true) rfl rfl e24, wpIn_value (v := .pointer (some ⟨gz, 5, none⟩)) (w' := W) ?_ ⟨_, rfl, Below.refl _ _, rfl⟩⟩⟩
      go_simp
    · clear hiq
      have e24 : a.eval (.tmp 176) = .bool true := hk 24 (mem_of (by kernel_rfl))
      have f24 := ev e24
      have e25 : a.eval (.tmp 177) = .pointer (some ⟨gz, 5, none⟩) := hk 25 (mem_of (by kernel_rfl))
      have f25 := ev e25
      have hc5 := cell_of_row W gz 5 _ _ _ hx15
      clear hk
      refine ⟨_, rfl, rfl, Or.inl ⟨wanted_of (k := 24) (b := true) rfl rfl e24, wpIn_value (v := .slice A5.na le A5.nc) (w' := W) ?_ ⟨_, rfl, Below.refl _ _, rfl⟩⟩⟩
      go_simp
    · clear hiq
      have e24 : a.eval (.tmp 176) = .bool true := hk 24 (mem_of (by kernel_rfl))
      have f24 := ev e24
      have e26 : a.eval (.tmp 178) = .slice A5.na le A5.nc := hk 26 (mem_of (by kernel_rfl))
      have f26 := ev e26
      clear hk
      refine ⟨_, rfl, rfl, Or.inl ⟨wanted_of (k := 24) (b := true) rfl rfl e24, wpIn_value (v := .int .i64 (le : Int)) (w' := W) ?_ ⟨_, rfl, Below.refl _ _, rfl⟩⟩⟩
      go_simp
    · clear hiq
      have e24 : a.eval (.tmp 176) = .bool true := hk 24 (mem_of (by kernel_rfl))
      have f24 := ev e24
      clear hk
      refine ⟨_, rfl, rfl, Or.inl ⟨wanted_of (k := 24) (b := true) rfl rfl e24, wpIn_value (v := .pointer (some ⟨z12, 5, none⟩)) (w' := W) ?_ ⟨_, rfl, Below.refl _ _, rfl⟩⟩⟩
      go_simp
    · clear hiq
      have e24 : a.eval (.tmp 176) = .bool true := hk 24 (mem_of (by kernel_rfl))
      have f24 := ev e24
      have e28 : a.eval (.tmp 180) = .pointer (some ⟨z12, 5, none⟩) := hk 28 (mem_of (by kernel_rfl))
      have f28 := ev e28
      have hc5 := cell_of_row W z12 5 _ _ _ hx12
      clear hk
      refine ⟨_, rfl, rfl, Or.inl ⟨wanted_of (k := 24) (b := true) rfl rfl e24, wpIn_value (v := .slice A1.na c A1.nc) (w' := W) ?_ ⟨_, rfl, Below.refl _ _, rfl⟩⟩⟩
      go_simp
    · clear hiq
      have e24 : a.eval (.tmp 176) = .bool true := hk 24 (mem_of (by kernel_rfl))
      have f24 := ev e24
      have e29 : a.eval (.tmp 181) = .slice A1.na c A1.nc := hk 29 (mem_of (by kernel_rfl))
      have f29 := ev e29
      clear hk
      refine ⟨_, rfl, rfl, Or.inl ⟨wanted_of (k := 24) (b := true) rfl rfl e24, wpIn_value (v := .int .i64 (c : Int)) (w' := W) ?_ ⟨_, rfl, Below.refl _ _, rfl⟩⟩⟩
      go_simp
    · clear hiq
      have e24 : a.eval (.tmp 176) = .bool true := hk 24 (mem_of (by kernel_rfl))
      have f24 := ev e24
      have e30 : a.eval (.tmp 182) = .int .i64 (c : Int) := hk 30 (mem_of (by kernel_rfl))
      have f30 := ev e30
      clear hk
      refine ⟨_, rfl, rfl, Or.inl ⟨wanted_of (k := 24) (b := true) rfl rfl e24, wpIn_value (v := .int .i64 ((c : Int) + 1)) (w' := W) ?_ ⟨_, rfl, Below.refl _ _, rfl⟩⟩⟩
      go_simp
    · clear hiq
      have e24 : a.eval (.tmp 176) = .bool true := hk 24 (mem_of (by kernel_rfl))
      have f24 := ev e24
      have e27 : a.eval (.tmp 179) = .int .i64 (le : Int) := hk 27 (mem_of (by kernel_rfl))
      have f27 := ev e27
      have e31 : a.eval (.tmp 183) = .int .i64 ((c : Int) + 1) := hk 31 (mem_of (by kernel_rfl))
      have f31 := ev e31
      clear hk
      refine ⟨_, rfl, rfl, Or.inl ⟨wanted_of (k := 24) (b := true) rfl rfl e24, wpIn_value (v := .bool true) (w' := W) ?_ ⟨_, rfl, Below.refl _ _, rfl⟩⟩⟩
      go_simp
    · clear hiq
      have e24 : a.eval (.tmp 176) = .bool true := hk 24 (mem_of (by kernel_rfl))
      have f24 := ev e24
      have e32 : a.eval (.tmp 184) = .bool true := hk 32 (mem_of (by kernel_rfl))
      have f32 := ev e32
      clear hk
      refine ⟨_, rfl, rfl, Or.inl ⟨wanted_none rfl, wpIn_value (v := .bool true) (w' := W) ?_ ⟨_, rfl, Below.refl _ _, rfl⟩⟩⟩
      go_simp
    · clear hiq
      have e33 : a.eval (.tmp 185) = .bool true := hk 33 (mem_of (by kernel_rfl))
      have f33 := ev e33
      clear hk
      refine ⟨_, rfl, rfl, Or.inl ⟨wanted_none rfl, wpIn_value (v := .bool true) (w' := W) ?_ ⟨_, rfl, Below.refl _ _, rfl⟩⟩⟩
      go_simp
    · clear hiq
      have e34 : a.eval (.tmp 186) = .bool true := hk 34 (mem_of (by kernel_rfl))
      have f34 := ev e34
      clear hk
      refine ⟨_, rfl, rfl, Or.inl ⟨wanted_of (k := 34) (b := true) rfl rfl e34, wpIn_enter (f := 25) (args := #[.int .i64 5]) ?_ ((kin 5 W).mono ?_)⟩⟩
      · go_simp
      · rintro e w2 ⟨rfl, hb2⟩
        exact ⟨_, rfl, _, rfl, hb2, rfl⟩
    · clear hiq
      have e34 : a.eval (.tmp 186) = .bool true := hk 34 (mem_of (by kernel_rfl))
      have f34 := ev e34
      clear hk
      refine ⟨_, rfl, rfl, Or.inl ⟨wanted_of (k := 34) (b := true) rfl rfl e34, wpIn_value (v := .string ask) (w' := W) ?_ ⟨_, rfl, Below.refl _ _, rfl⟩⟩⟩
      go_simp
    · clear hiq
      have e34 : a.eval (.tmp 186) = .bool true := hk 34 (mem_of (by kernel_rfl))
      have f34 := ev e34
      have e35 : a.eval (.tmp 187) = .agg #[.int .i64 2, .bool false, .int .i64 5, .string ⟨#[]⟩, .slice none 0 0, .slice none 0 0] := hk 35 (mem_of (by kernel_rfl))
      have f35 := ev e35
      have e36 : a.eval (.tmp 188) = .string ask := hk 36 (mem_of (by kernel_rfl))
      have f36 := ev e36
      clear hk
      refine ⟨_, rfl, rfl, Or.inl ⟨wanted_of (k := 34) (b := true) rfl rfl e34, wpIn_enter (f := 28) (args := #[.agg #[.int .i64 2, .bool false, .int .i64 5, .string ⟨#[]⟩, .slice none 0 0, .slice none 0 0], .string ask]) ?_ ((kgi W).mono ?_)⟩⟩
      · go_simp
      · rintro e w2 ⟨rfl, hb2⟩
        exact ⟨_, rfl, _, rfl, hb2, rfl⟩
    · clear hiq
      have e34 : a.eval (.tmp 186) = .bool true := hk 34 (mem_of (by kernel_rfl))
      have f34 := ev e34
      have e37 : a.eval (.tmp 189) = .agg #[.int .i64 0, .bool false, .int .i64 0, .string ⟨#[]⟩, .slice none 0 0, .slice none 0 0] := hk 37 (mem_of (by kernel_rfl))
      have f37 := ev e37
      clear hk
      refine ⟨_, rfl, rfl, Or.inl ⟨wanted_of (k := 34) (b := true) rfl rfl e34, wpIn_value (v := .int .i64 0) (w' := W) ?_ ⟨_, rfl, Below.refl _ _, rfl⟩⟩⟩
      go_simp
    · clear hiq
      have e34 : a.eval (.tmp 186) = .bool true := hk 34 (mem_of (by kernel_rfl))
      have f34 := ev e34
      have e38 : a.eval (.tmp 190) = .int .i64 0 := hk 38 (mem_of (by kernel_rfl))
      have f38 := ev e38
      clear hk
      refine ⟨_, rfl, rfl, Or.inl ⟨wanted_of (k := 34) (b := true) rfl rfl e34, wpIn_value (v := .bool true) (w' := W) ?_ ⟨_, rfl, Below.refl _ _, rfl⟩⟩⟩
      go_simp
    · clear hiq
      have e34 : a.eval (.tmp 186) = .bool true := hk 34 (mem_of (by kernel_rfl))
      have f34 := ev e34
      have e39 : a.eval (.tmp 191) = .bool true := hk 39 (mem_of (by kernel_rfl))
      have f39 := ev e39
      clear hk
      refine ⟨_, rfl, rfl, Or.inl ⟨wanted_none rfl, wpIn_value (v := .bool true) (w' := W) ?_ ⟨_, rfl, Below.refl _ _, rfl⟩⟩⟩
      go_simp
  case post =>
    intro Vf W hbW hV
    have v40 : Vf 40 = .bool true := hV 40 (by omega)
    have hBW : Below w.heap.size w W := hbel.trans (hbW.mono hbel.size)
    clear hV
    simp only [putAll, Nat.reduceAdd]
    rw [v40]
    simp only [Act.put, List.setIfInBounds_toArray, List.set_cons_zero, List.set_cons_succ]
    change wpListIn _ _ _ _ _ [_] _ _
    gi_wp2
    go_wp2
    go_ret
    exact ⟨rfl, hBW⟩
end Go.Proofs.Ytjmjlijmeahmfaa
