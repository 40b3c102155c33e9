/- said of a comparison, its end: a field and a literal, or not. said of a comparison: the sides change places where the literal stands first. said: what a part says. said of a comparison; said of any part. -/
import Derived.Test.YtfemippjaokcmaaGreatDoorXay
import Derived.Test.YtfemippjaokcmaaGreatDoorXax
namespace Go.Proofs.YtfemippjaokcmaaGreatDoor
open Go.RowKit Go.Shelf
attribute [local go_sem] Oper.semAt_some fw0 fw1 fw2
def cutSd (b : Option Code) : Option Code := match b with
  | some (.seq _ (.seq _ (.seq _ t))) => some t
  | _ => none
def cutSe (b : Option Code) : Option Code := match b with
  | some (.seq _ t) => some t
  | _ => none
/- What a part says: a field, and its span. -/
def GivesP3 (w : World) (P : ByteArray × ByteArray × ByteArray) (e : Ending) (w' : World) : Prop := e = .returned (.agg #[.string P.1, .string P.2.1, .string P.2.2]) ∧ Below w.heap.size w w'
def noP : ByteArray × ByteArray × ByteArray := (⟨#[]⟩, ⟨#[]⟩, ⟨#[]⟩)
/- The memory of said: its answer's block, and the two sides' blocks. -/
structure SaW (w W : World) (b2 b3 b5 : Nat) (r3 r5 : Array Value) : Prop where
  bel : Below w.heap.size w W
  old : w.heap.size ≤ b2
  z : W.heap[b2]? = some (.cells #[.string ⟨#[]⟩, .string ⟨#[]⟩, .string ⟨#[]⟩] 35 (0, 0))
  f : W.heap[b3]? = some (.cells r3 28 (0, 0))
  l : W.heap[b5]? = some (.cells r5 28 (0, 0))
set_option maxRecDepth 100000 in
set_option maxHeartbeats 4000000 in
theorem said_nof {w W : World} {b2 b3 b5 : Nat} (sg : ByteArray) (k0 : Int) (s0 : ByteArray) (vk0 : Int) (vb0 : Bool) (vn0 : Int) (vs0 : ByteArray) (kp0 : Option Addr) (n0 kc0 : Nat) (np0 : Option Addr) (m0 nc0 : Nat) (k1 : Int) (s1 : ByteArray) (vk1 : Int) (vb1 : Bool) (vn1 : Int) (vs1 : ByteArray) (kp1 : Option Addr) (n1 kc1 : Nat) (np1 : Option Addr) (m1 nc1 : Nat) (h0 : (k0 == 2) = false) (hM : SaW w W b2 b3 b5 #[.int .i64 k0, .string s0, .int .i64 vk0, .bool vb0, .int .i64 vn0, .string vs0, .slice none 0 0, .slice none 0 0, .slice kp0 n0 kc0, .slice np0 m0 nc0] #[.int .i64 k1, .string s1, .int .i64 vk1, .bool vb1, .int .i64 vn1, .string vs1, .slice none 0 0, .slice none 0 0, .slice kp1 n1 kc1, .slice np1 m1 nc1]) (y0 y1 y6 y7 y8 y9 y10 y11 y12 y13 y14 y15 y16 y17 y18 y19 y20 y21 y22 y23 y24 y25 y26 y27 y28 y29 y30 y31 y32 y33 y34 y35 y36 y37 y38 y39 y40 y41 y42 y43 y44 y45 y46 y47 y48 y49 y50 y51 y52 y53 y54 y55 y56 y57 : Value) (cc : Code) (hcc : cutSe (cutSd Tryz.f27.body) = some cc) :
    Code.wp Tryz.prog cc (bodyPost Tryz.prog Tryz.f27 (GivesP3 w noP)) ⟨List.toArray (y0 :: y1 :: .pointer (some ⟨b2, 0, none⟩) :: .pointer (some ⟨b3, 0, none⟩) :: .string sg :: .pointer (some ⟨b5, 0, none⟩) :: y6 :: y7 :: y8 :: y9 :: y10 :: y11 :: y12 :: y13 :: y14 :: y15 :: y16 :: y17 :: y18 :: y19 :: y20 :: y21 :: y22 :: y23 :: y24 :: y25 :: y26 :: y27 :: y28 :: y29 :: y30 :: y31 :: y32 :: y33 :: y34 :: y35 :: y36 :: y37 :: y38 :: y39 :: y40 :: y41 :: y42 :: y43 :: y44 :: y45 :: y46 :: y47 :: y48 :: y49 :: y50 :: y51 :: y52 :: y53 :: y54 :: y55 :: y56 :: y57 :: []), []⟩ W := by
  obtain rfl := Option.some.inj ((show cutSe (cutSd Tryz.f27.body) = some _ from rfl).symm.trans hcc)
  clear hcc
  have HM : Hid (SaW w W b2 b3 b5 #[.int .i64 k0, .string s0, .int .i64 vk0, .bool vb0, .int .i64 vn0, .string vs0, .slice none 0 0, .slice none 0 0, .slice kp0 n0 kc0, .slice np0 m0 nc0] #[.int .i64 k1, .string s1, .int .i64 vk1, .bool vb1, .int .i64 vn1, .string vs1, .slice none 0 0, .slice none 0 0, .slice kp1 n1 kc1, .slice np1 m1 nc1]) := hM
  have r3 := hM.f
  have r5 := hM.l
  have r2 := hM.z
  clear hM
  have f0 := cell_of_row W _ 0 _ _ _ r3
  have f1 := cell_of_row W _ 1 _ _ _ r3
  have g0 := cell_of_row W _ 0 _ _ _ r5
  have l2 := cell_of_row W _ 2 _ _ _ r5
  have l3 := cell_of_row W _ 3 _ _ _ r5
  have l4 := cell_of_row W _ 4 _ _ _ r5
  have l5 := cell_of_row W _ 5 _ _ _ r5
  have l6 := cell_of_row W _ 6 _ _ _ r5
  have l7 := cell_of_row W _ 7 _ _ _ r5
  have z0 := cell_of_row W _ 0 _ _ _ r2
  have u0 := frozen_of_row W _ 0 _ _ r2
  have z1 := cell_of_row W _ 1 _ _ _ r2
  have u1 := frozen_of_row W _ 1 _ _ r2
  have z2 := cell_of_row W _ 2 _ _ _ r2
  have u2 := frozen_of_row W _ 2 _ _ r2
  clear r3 r5
  go_wp2
  have hro : (((W.setCell ⟨b2, 0, none⟩ (.string ⟨#[]⟩)).setCell ⟨b2, 1, none⟩ (.string ⟨#[]⟩)).setCell ⟨b2, 2, none⟩ (.string ⟨#[]⟩)).heap[b2]? = some (.cells #[.string ⟨#[]⟩, .string ⟨#[]⟩, .string ⟨#[]⟩] 35 (0, 0)) := row_setCell (k := 2) (row_setCell (k := 1) (row_setCell (k := 0) r2 (.string ⟨#[]⟩)) (.string ⟨#[]⟩)) (.string ⟨#[]⟩)
  have hbf : Below w.heap.size w (((W.setCell ⟨b2, 0, none⟩ (.string ⟨#[]⟩)).setCell ⟨b2, 1, none⟩ (.string ⟨#[]⟩)).setCell ⟨b2, 2, none⟩ (.string ⟨#[]⟩)) := ((HM.out.bel.setCell (p := ⟨b2, 0, none⟩) HM.out.old _).setCell (p := ⟨b2, 1, none⟩) HM.out.old _).setCell (p := ⟨b2, 2, none⟩) HM.out.old _
  obtain ⟨wf, hwf⟩ : ∃ wf, (((W.setCell ⟨b2, 0, none⟩ (.string ⟨#[]⟩)).setCell ⟨b2, 1, none⟩ (.string ⟨#[]⟩)).setCell ⟨b2, 2, none⟩ (.string ⟨#[]⟩)) = wf := ⟨_, rfl⟩
  rw [hwf] at hro hbf ⊢
  clear hwf
  have o0 := cell_of_row wf _ 0 _ _ _ hro
  have o1 := cell_of_row wf _ 1 _ _ _ hro
  have o2 := cell_of_row wf _ 2 _ _ _ hro
  exact bodyPost_ret (v := .agg #[.string ⟨#[]⟩, .string ⟨#[]⟩, .string ⟨#[]⟩]) (by simp [results, Tryz.results27, go_sem, o0, o1, o2]) rfl ⟨rfl, hbf⟩
set_option maxRecDepth 100000 in
set_option maxHeartbeats 4000000 in
theorem said_nol {w W : World} {b2 b3 b5 : Nat} (sg : ByteArray) (k0 : Int) (s0 : ByteArray) (vk0 : Int) (vb0 : Bool) (vn0 : Int) (vs0 : ByteArray) (kp0 : Option Addr) (n0 kc0 : Nat) (np0 : Option Addr) (m0 nc0 : Nat) (k1 : Int) (s1 : ByteArray) (vk1 : Int) (vb1 : Bool) (vn1 : Int) (vs1 : ByteArray) (kp1 : Option Addr) (n1 kc1 : Nat) (np1 : Option Addr) (m1 nc1 : Nat) (h0 : k0 = 2) (h1 : (k1 == 1) = false) (hM : SaW w W b2 b3 b5 #[.int .i64 k0, .string s0, .int .i64 vk0, .bool vb0, .int .i64 vn0, .string vs0, .slice none 0 0, .slice none 0 0, .slice kp0 n0 kc0, .slice np0 m0 nc0] #[.int .i64 k1, .string s1, .int .i64 vk1, .bool vb1, .int .i64 vn1, .string vs1, .slice none 0 0, .slice none 0 0, .slice kp1 n1 kc1, .slice np1 m1 nc1]) (y0 y1 y6 y7 y8 y9 y10 y11 y12 y13 y14 y15 y16 y17 y18 y19 y20 y21 y22 y23 y24 y25 y26 y27 y28 y29 y30 y31 y32 y33 y34 y35 y36 y37 y38 y39 y40 y41 y42 y43 y44 y45 y46 y47 y48 y49 y50 y51 y52 y53 y54 y55 y56 y57 : Value) (cc : Code) (hcc : cutSe (cutSd Tryz.f27.body) = some cc) :
    Code.wp Tryz.prog cc (bodyPost Tryz.prog Tryz.f27 (GivesP3 w noP)) ⟨List.toArray (y0 :: y1 :: .pointer (some ⟨b2, 0, none⟩) :: .pointer (some ⟨b3, 0, none⟩) :: .string sg :: .pointer (some ⟨b5, 0, none⟩) :: y6 :: y7 :: y8 :: y9 :: y10 :: y11 :: y12 :: y13 :: y14 :: y15 :: y16 :: y17 :: y18 :: y19 :: y20 :: y21 :: y22 :: y23 :: y24 :: y25 :: y26 :: y27 :: y28 :: y29 :: y30 :: y31 :: y32 :: y33 :: y34 :: y35 :: y36 :: y37 :: y38 :: y39 :: y40 :: y41 :: y42 :: y43 :: y44 :: y45 :: y46 :: y47 :: y48 :: y49 :: y50 :: y51 :: y52 :: y53 :: y54 :: y55 :: y56 :: y57 :: []), []⟩ W := by
  obtain rfl := Option.some.inj ((show cutSe (cutSd Tryz.f27.body) = some _ from rfl).symm.trans hcc)
  clear hcc
  have HM : Hid (SaW w W b2 b3 b5 #[.int .i64 k0, .string s0, .int .i64 vk0, .bool vb0, .int .i64 vn0, .string vs0, .slice none 0 0, .slice none 0 0, .slice kp0 n0 kc0, .slice np0 m0 nc0] #[.int .i64 k1, .string s1, .int .i64 vk1, .bool vb1, .int .i64 vn1, .string vs1, .slice none 0 0, .slice none 0 0, .slice kp1 n1 kc1, .slice np1 m1 nc1]) := hM
  have r3 := hM.f
  have r5 := hM.l
  have r2 := hM.z
  clear hM
  have f0 := cell_of_row W _ 0 _ _ _ r3
  have f1 := cell_of_row W _ 1 _ _ _ r3
  have g0 := cell_of_row W _ 0 _ _ _ r5
  have l2 := cell_of_row W _ 2 _ _ _ r5
  have l3 := cell_of_row W _ 3 _ _ _ r5
  have l4 := cell_of_row W _ 4 _ _ _ r5
  have l5 := cell_of_row W _ 5 _ _ _ r5
  have l6 := cell_of_row W _ 6 _ _ _ r5
  have l7 := cell_of_row W _ 7 _ _ _ r5
  have z0 := cell_of_row W _ 0 _ _ _ r2
  have u0 := frozen_of_row W _ 0 _ _ r2
  have z1 := cell_of_row W _ 1 _ _ _ r2
  have u1 := frozen_of_row W _ 1 _ _ r2
  have z2 := cell_of_row W _ 2 _ _ _ r2
  have u2 := frozen_of_row W _ 2 _ _ r2
  subst h0
  clear r3 r5
  go_wp2
  have hro : (((W.setCell ⟨b2, 0, none⟩ (.string ⟨#[]⟩)).setCell ⟨b2, 1, none⟩ (.string ⟨#[]⟩)).setCell ⟨b2, 2, none⟩ (.string ⟨#[]⟩)).heap[b2]? = some (.cells #[.string ⟨#[]⟩, .string ⟨#[]⟩, .string ⟨#[]⟩] 35 (0, 0)) := row_setCell (k := 2) (row_setCell (k := 1) (row_setCell (k := 0) r2 (.string ⟨#[]⟩)) (.string ⟨#[]⟩)) (.string ⟨#[]⟩)
  have hbf : Below w.heap.size w (((W.setCell ⟨b2, 0, none⟩ (.string ⟨#[]⟩)).setCell ⟨b2, 1, none⟩ (.string ⟨#[]⟩)).setCell ⟨b2, 2, none⟩ (.string ⟨#[]⟩)) := ((HM.out.bel.setCell (p := ⟨b2, 0, none⟩) HM.out.old _).setCell (p := ⟨b2, 1, none⟩) HM.out.old _).setCell (p := ⟨b2, 2, none⟩) HM.out.old _
  obtain ⟨wf, hwf⟩ : ∃ wf, (((W.setCell ⟨b2, 0, none⟩ (.string ⟨#[]⟩)).setCell ⟨b2, 1, none⟩ (.string ⟨#[]⟩)).setCell ⟨b2, 2, none⟩ (.string ⟨#[]⟩)) = wf := ⟨_, rfl⟩
  rw [hwf] at hro hbf ⊢
  clear hwf
  have o0 := cell_of_row wf _ 0 _ _ _ hro
  have o1 := cell_of_row wf _ 1 _ _ _ hro
  have o2 := cell_of_row wf _ 2 _ _ _ hro
  exact bodyPost_ret (v := .agg #[.string ⟨#[]⟩, .string ⟨#[]⟩, .string ⟨#[]⟩]) (by simp [results, Tryz.results27, go_sem, o0, o1, o2]) rfl ⟨rfl, hbf⟩
set_option maxRecDepth 100000 in
set_option maxHeartbeats 4000000 in
theorem said_spy {w W : World} {b2 b3 b5 : Nat} (sg : ByteArray) (k0 : Int) (s0 : ByteArray) (vk0 : Int) (vb0 : Bool) (vn0 : Int) (vs0 : ByteArray) (kp0 : Option Addr) (n0 kc0 : Nat) (np0 : Option Addr) (m0 nc0 : Nat) (k1 : Int) (s1 : ByteArray) (vk1 : Int) (vb1 : Bool) (vn1 : Int) (vs1 : ByteArray) (kp1 : Option Addr) (n1 kc1 : Nat) (np1 : Option Addr) (m1 nc1 : Nat) (h0 : k0 = 2) (h1 : k1 = 1) {lo hi : ByteArray} (ks : Calls Tryz.prog 20 #[.string sg, .agg #[.int .i64 vk1, .bool vb1, .int .i64 vn1, .string vs1, .slice none 0 0, .slice none 0 0]] W fun e w' => e = .returned (.tuple #[.agg #[.string lo, .string hi], .bool true]) ∧ Below W.heap.size W w') (hM : SaW w W b2 b3 b5 #[.int .i64 k0, .string s0, .int .i64 vk0, .bool vb0, .int .i64 vn0, .string vs0, .slice none 0 0, .slice none 0 0, .slice kp0 n0 kc0, .slice np0 m0 nc0] #[.int .i64 k1, .string s1, .int .i64 vk1, .bool vb1, .int .i64 vn1, .string vs1, .slice none 0 0, .slice none 0 0, .slice kp1 n1 kc1, .slice np1 m1 nc1]) (y0 y1 y6 y7 y8 y9 y10 y11 y12 y13 y14 y15 y16 y17 y18 y19 y20 y21 y22 y23 y24 y25 y26 y27 y28 y29 y30 y31 y32 y33 y34 y35 y36 y37 y38 y39 y40 y41 y42 y43 y44 y45 y46 y47 y48 y49 y50 y51 y52 y53 y54 y55 y56 y57 : Value) (cc : Code) (hcc : cutSe (cutSd Tryz.f27.body) = some cc) :
    Code.wp Tryz.prog cc (bodyPost Tryz.prog Tryz.f27 (GivesP3 w (s0, lo, hi))) ⟨List.toArray (y0 :: y1 :: .pointer (some ⟨b2, 0, none⟩) :: .pointer (some ⟨b3, 0, none⟩) :: .string sg :: .pointer (some ⟨b5, 0, none⟩) :: y6 :: y7 :: y8 :: y9 :: y10 :: y11 :: y12 :: y13 :: y14 :: y15 :: y16 :: y17 :: y18 :: y19 :: y20 :: y21 :: y22 :: y23 :: y24 :: y25 :: y26 :: y27 :: y28 :: y29 :: y30 :: y31 :: y32 :: y33 :: y34 :: y35 :: y36 :: y37 :: y38 :: y39 :: y40 :: y41 :: y42 :: y43 :: y44 :: y45 :: y46 :: y47 :: y48 :: y49 :: y50 :: y51 :: y52 :: y53 :: y54 :: y55 :: y56 :: y57 :: []), []⟩ W := by
  obtain rfl := Option.some.inj ((show cutSe (cutSd Tryz.f27.body) = some _ from rfl).symm.trans hcc)
  clear hcc
  have HM : Hid (SaW w W b2 b3 b5 #[.int .i64 k0, .string s0, .int .i64 vk0, .bool vb0, .int .i64 vn0, .string vs0, .slice none 0 0, .slice none 0 0, .slice kp0 n0 kc0, .slice np0 m0 nc0] #[.int .i64 k1, .string s1, .int .i64 vk1, .bool vb1, .int .i64 vn1, .string vs1, .slice none 0 0, .slice none 0 0, .slice kp1 n1 kc1, .slice np1 m1 nc1]) := hM
  have r3 := hM.f
  have r5 := hM.l
  have r2 := hM.z
  clear hM
  have f0 := cell_of_row W _ 0 _ _ _ r3
  have f1 := cell_of_row W _ 1 _ _ _ r3
  have g0 := cell_of_row W _ 0 _ _ _ r5
  have l2 := cell_of_row W _ 2 _ _ _ r5
  have l3 := cell_of_row W _ 3 _ _ _ r5
  have l4 := cell_of_row W _ 4 _ _ _ r5
  have l5 := cell_of_row W _ 5 _ _ _ r5
  have l6 := cell_of_row W _ 6 _ _ _ r5
  have l7 := cell_of_row W _ 7 _ _ _ r5
  have z0 := cell_of_row W _ 0 _ _ _ r2
  have u0 := frozen_of_row W _ 0 _ _ r2
  have z1 := cell_of_row W _ 1 _ _ _ r2
  have u1 := frozen_of_row W _ 1 _ _ r2
  have z2 := cell_of_row W _ 2 _ _ _ r2
  have u2 := frozen_of_row W _ 2 _ _ r2
  subst h0
  subst h1
  have hl3 := lt_of_row r3
  have hl2 := lt_of_row r2
  have HR : Hid (W.heap[b3]? = some (.cells #[.int .i64 2, .string s0, .int .i64 vk0, .bool vb0, .int .i64 vn0, .string vs0, .slice none 0 0, .slice none 0 0, .slice kp0 n0 kc0, .slice np0 m0 nc0] 28 (0, 0)) ∧ W.heap[b2]? = some (.cells #[.string ⟨#[]⟩, .string ⟨#[]⟩, .string ⟨#[]⟩] 35 (0, 0))) := ⟨r3, r2⟩
  clear r3 r5 r2
  go_wp2_with fail
  refine ks.mono ?_
  rintro e w3 ⟨rfl, hb3⟩
  have r32 := (hb3.block _ hl3).trans HR.out.1
  have r22 := (hb3.block _ hl2).trans HR.out.2
  have hz3 := hb3.size
  have hbw : Below w.heap.size w w3 := HM.out.bel.trans (hb3.mono HM.out.bel.size)
  have bn : Below w3.heap.size w3 (w3.alloc (.cells #[.string lo, .string hi] 33)) := (Below.refl _ w3).alloc (Nat.le_refl _) _
  have r23 := Below.row bn r22
  have r33 := Below.row bn r32
  have hb4 : Below w.heap.size w (w3.alloc (.cells #[.string lo, .string hi] 33)) := hbw.trans (bn.mono hbw.size)
  have e1 := cell_of_row (w3.alloc (.cells #[.string lo, .string hi] 33)) _ 1 _ _ _ r33
  have v0 := cell_of_row (w3.alloc (.cells #[.string lo, .string hi] 33)) _ 0 _ _ _ r23
  have t0 := frozen_of_row (w3.alloc (.cells #[.string lo, .string hi] 33)) _ 0 _ _ r23
  have v1 := cell_of_row (w3.alloc (.cells #[.string lo, .string hi] 33)) _ 1 _ _ _ r23
  have t1 := frozen_of_row (w3.alloc (.cells #[.string lo, .string hi] 33)) _ 1 _ _ r23
  have v2 := cell_of_row (w3.alloc (.cells #[.string lo, .string hi] 33)) _ 2 _ _ _ r23
  have t2 := frozen_of_row (w3.alloc (.cells #[.string lo, .string hi] 33)) _ 2 _ _ r23
  have H4 : Hid (Below w.heap.size w (w3.alloc (.cells #[.string lo, .string hi] 33)) ∧ (w3.alloc (.cells #[.string lo, .string hi] 33)).heap[b2]? = some (.cells #[.string ⟨#[]⟩, .string ⟨#[]⟩, .string ⟨#[]⟩] 35 (0, 0))) := ⟨hb4, r23⟩
  have hold := HM.out.old
  clear hb3 ks r32 r22 hbw bn r23 r33 hb4
  go_wp2
  have hro : ((((w3.alloc (.cells #[.string lo, .string hi] 33)).setCell ⟨b2, 0, none⟩ (.string s0)).setCell ⟨b2, 1, none⟩ (.string lo)).setCell ⟨b2, 2, none⟩ (.string hi)).heap[b2]? = some (.cells #[.string s0, .string lo, .string hi] 35 (0, 0)) := row_setCell (k := 2) (row_setCell (k := 1) (row_setCell (k := 0) H4.out.2 (.string s0)) (.string lo)) (.string hi)
  have hbf : Below w.heap.size w ((((w3.alloc (.cells #[.string lo, .string hi] 33)).setCell ⟨b2, 0, none⟩ (.string s0)).setCell ⟨b2, 1, none⟩ (.string lo)).setCell ⟨b2, 2, none⟩ (.string hi)) := ((H4.out.1.setCell (p := ⟨b2, 0, none⟩) hold _).setCell (p := ⟨b2, 1, none⟩) hold _).setCell (p := ⟨b2, 2, none⟩) hold _
  obtain ⟨wf, hwf⟩ : ∃ wf, ((((w3.alloc (.cells #[.string lo, .string hi] 33)).setCell ⟨b2, 0, none⟩ (.string s0)).setCell ⟨b2, 1, none⟩ (.string lo)).setCell ⟨b2, 2, none⟩ (.string hi)) = wf := ⟨_, rfl⟩
  rw [hwf] at hro hbf ⊢
  clear hwf
  have o0 := cell_of_row wf _ 0 _ _ _ hro
  have o1 := cell_of_row wf _ 1 _ _ _ hro
  have o2 := cell_of_row wf _ 2 _ _ _ hro
  exact bodyPost_ret (v := .agg #[.string s0, .string lo, .string hi]) (by simp [results, Tryz.results27, go_sem, o0, o1, o2]) rfl ⟨rfl, hbf⟩
set_option maxRecDepth 100000 in
set_option maxHeartbeats 4000000 in
theorem said_spz {w W : World} {b2 b3 b5 : Nat} (sg : ByteArray) (k0 : Int) (s0 : ByteArray) (vk0 : Int) (vb0 : Bool) (vn0 : Int) (vs0 : ByteArray) (kp0 : Option Addr) (n0 kc0 : Nat) (np0 : Option Addr) (m0 nc0 : Nat) (k1 : Int) (s1 : ByteArray) (vk1 : Int) (vb1 : Bool) (vn1 : Int) (vs1 : ByteArray) (kp1 : Option Addr) (n1 kc1 : Nat) (np1 : Option Addr) (m1 nc1 : Nat) (h0 : k0 = 2) (h1 : k1 = 1) {lo hi : ByteArray} (ks : Calls Tryz.prog 20 #[.string sg, .agg #[.int .i64 vk1, .bool vb1, .int .i64 vn1, .string vs1, .slice none 0 0, .slice none 0 0]] W fun e w' => e = .returned (.tuple #[.agg #[.string lo, .string hi], .bool false]) ∧ Below W.heap.size W w') (hM : SaW w W b2 b3 b5 #[.int .i64 k0, .string s0, .int .i64 vk0, .bool vb0, .int .i64 vn0, .string vs0, .slice none 0 0, .slice none 0 0, .slice kp0 n0 kc0, .slice np0 m0 nc0] #[.int .i64 k1, .string s1, .int .i64 vk1, .bool vb1, .int .i64 vn1, .string vs1, .slice none 0 0, .slice none 0 0, .slice kp1 n1 kc1, .slice np1 m1 nc1]) (y0 y1 y6 y7 y8 y9 y10 y11 y12 y13 y14 y15 y16 y17 y18 y19 y20 y21 y22 y23 y24 y25 y26 y27 y28 y29 y30 y31 y32 y33 y34 y35 y36 y37 y38 y39 y40 y41 y42 y43 y44 y45 y46 y47 y48 y49 y50 y51 y52 y53 y54 y55 y56 y57 : Value) (cc : Code) (hcc : cutSe (cutSd Tryz.f27.body) = some cc) :
    Code.wp Tryz.prog cc (bodyPost Tryz.prog Tryz.f27 (GivesP3 w noP)) ⟨List.toArray (y0 :: y1 :: .pointer (some ⟨b2, 0, none⟩) :: .pointer (some ⟨b3, 0, none⟩) :: .string sg :: .pointer (some ⟨b5, 0, none⟩) :: y6 :: y7 :: y8 :: y9 :: y10 :: y11 :: y12 :: y13 :: y14 :: y15 :: y16 :: y17 :: y18 :: y19 :: y20 :: y21 :: y22 :: y23 :: y24 :: y25 :: y26 :: y27 :: y28 :: y29 :: y30 :: y31 :: y32 :: y33 :: y34 :: y35 :: y36 :: y37 :: y38 :: y39 :: y40 :: y41 :: y42 :: y43 :: y44 :: y45 :: y46 :: y47 :: y48 :: y49 :: y50 :: y51 :: y52 :: y53 :: y54 :: y55 :: y56 :: y57 :: []), []⟩ W := by
  obtain rfl := Option.some.inj ((show cutSe (cutSd Tryz.f27.body) = some _ from rfl).symm.trans hcc)
  clear hcc
  have HM : Hid (SaW w W b2 b3 b5 #[.int .i64 k0, .string s0, .int .i64 vk0, .bool vb0, .int .i64 vn0, .string vs0, .slice none 0 0, .slice none 0 0, .slice kp0 n0 kc0, .slice np0 m0 nc0] #[.int .i64 k1, .string s1, .int .i64 vk1, .bool vb1, .int .i64 vn1, .string vs1, .slice none 0 0, .slice none 0 0, .slice kp1 n1 kc1, .slice np1 m1 nc1]) := hM
  have r3 := hM.f
  have r5 := hM.l
  have r2 := hM.z
  clear hM
  have f0 := cell_of_row W _ 0 _ _ _ r3
  have f1 := cell_of_row W _ 1 _ _ _ r3
  have g0 := cell_of_row W _ 0 _ _ _ r5
  have l2 := cell_of_row W _ 2 _ _ _ r5
  have l3 := cell_of_row W _ 3 _ _ _ r5
  have l4 := cell_of_row W _ 4 _ _ _ r5
  have l5 := cell_of_row W _ 5 _ _ _ r5
  have l6 := cell_of_row W _ 6 _ _ _ r5
  have l7 := cell_of_row W _ 7 _ _ _ r5
  have z0 := cell_of_row W _ 0 _ _ _ r2
  have u0 := frozen_of_row W _ 0 _ _ r2
  have z1 := cell_of_row W _ 1 _ _ _ r2
  have u1 := frozen_of_row W _ 1 _ _ r2
  have z2 := cell_of_row W _ 2 _ _ _ r2
  have u2 := frozen_of_row W _ 2 _ _ r2
  subst h0
  subst h1
  have hl3 := lt_of_row r3
  have hl2 := lt_of_row r2
  have HR : Hid (W.heap[b3]? = some (.cells #[.int .i64 2, .string s0, .int .i64 vk0, .bool vb0, .int .i64 vn0, .string vs0, .slice none 0 0, .slice none 0 0, .slice kp0 n0 kc0, .slice np0 m0 nc0] 28 (0, 0)) ∧ W.heap[b2]? = some (.cells #[.string ⟨#[]⟩, .string ⟨#[]⟩, .string ⟨#[]⟩] 35 (0, 0))) := ⟨r3, r2⟩
  clear r3 r5 r2
  go_wp2_with fail
  refine ks.mono ?_
  rintro e w3 ⟨rfl, hb3⟩
  have r32 := (hb3.block _ hl3).trans HR.out.1
  have r22 := (hb3.block _ hl2).trans HR.out.2
  have hz3 := hb3.size
  have hbw : Below w.heap.size w w3 := HM.out.bel.trans (hb3.mono HM.out.bel.size)
  have bn : Below w3.heap.size w3 (w3.alloc (.cells #[.string lo, .string hi] 33)) := (Below.refl _ w3).alloc (Nat.le_refl _) _
  have r23 := Below.row bn r22
  have r33 := Below.row bn r32
  have hb4 : Below w.heap.size w (w3.alloc (.cells #[.string lo, .string hi] 33)) := hbw.trans (bn.mono hbw.size)
  have e1 := cell_of_row (w3.alloc (.cells #[.string lo, .string hi] 33)) _ 1 _ _ _ r33
  have v0 := cell_of_row (w3.alloc (.cells #[.string lo, .string hi] 33)) _ 0 _ _ _ r23
  have t0 := frozen_of_row (w3.alloc (.cells #[.string lo, .string hi] 33)) _ 0 _ _ r23
  have v1 := cell_of_row (w3.alloc (.cells #[.string lo, .string hi] 33)) _ 1 _ _ _ r23
  have t1 := frozen_of_row (w3.alloc (.cells #[.string lo, .string hi] 33)) _ 1 _ _ r23
  have v2 := cell_of_row (w3.alloc (.cells #[.string lo, .string hi] 33)) _ 2 _ _ _ r23
  have t2 := frozen_of_row (w3.alloc (.cells #[.string lo, .string hi] 33)) _ 2 _ _ r23
  have H4 : Hid (Below w.heap.size w (w3.alloc (.cells #[.string lo, .string hi] 33)) ∧ (w3.alloc (.cells #[.string lo, .string hi] 33)).heap[b2]? = some (.cells #[.string ⟨#[]⟩, .string ⟨#[]⟩, .string ⟨#[]⟩] 35 (0, 0))) := ⟨hb4, r23⟩
  have hold := HM.out.old
  clear hb3 ks r32 r22 hbw bn r23 r33 hb4
  go_wp2
  have hro : ((((w3.alloc (.cells #[.string lo, .string hi] 33)).setCell ⟨b2, 0, none⟩ (.string ⟨#[]⟩)).setCell ⟨b2, 1, none⟩ (.string ⟨#[]⟩)).setCell ⟨b2, 2, none⟩ (.string ⟨#[]⟩)).heap[b2]? = some (.cells #[.string ⟨#[]⟩, .string ⟨#[]⟩, .string ⟨#[]⟩] 35 (0, 0)) := row_setCell (k := 2) (row_setCell (k := 1) (row_setCell (k := 0) H4.out.2 (.string ⟨#[]⟩)) (.string ⟨#[]⟩)) (.string ⟨#[]⟩)
  have hbf : Below w.heap.size w ((((w3.alloc (.cells #[.string lo, .string hi] 33)).setCell ⟨b2, 0, none⟩ (.string ⟨#[]⟩)).setCell ⟨b2, 1, none⟩ (.string ⟨#[]⟩)).setCell ⟨b2, 2, none⟩ (.string ⟨#[]⟩)) := ((H4.out.1.setCell (p := ⟨b2, 0, none⟩) hold _).setCell (p := ⟨b2, 1, none⟩) hold _).setCell (p := ⟨b2, 2, none⟩) hold _
  obtain ⟨wf, hwf⟩ : ∃ wf, ((((w3.alloc (.cells #[.string lo, .string hi] 33)).setCell ⟨b2, 0, none⟩ (.string ⟨#[]⟩)).setCell ⟨b2, 1, none⟩ (.string ⟨#[]⟩)).setCell ⟨b2, 2, none⟩ (.string ⟨#[]⟩)) = wf := ⟨_, rfl⟩
  rw [hwf] at hro hbf ⊢
  clear hwf
  have o0 := cell_of_row wf _ 0 _ _ _ hro
  have o1 := cell_of_row wf _ 1 _ _ _ hro
  have o2 := cell_of_row wf _ 2 _ _ _ hro
  exact bodyPost_ret (v := .agg #[.string ⟨#[]⟩, .string ⟨#[]⟩, .string ⟨#[]⟩]) (by simp [results, Tryz.results27, go_sem, o0, o1, o2]) rfl ⟨rfl, hbf⟩
theorem said_spn {w W : World} {b2 b3 b5 : Nat} (sg : ByteArray) (k0 : Int) (s0 : ByteArray) (vk0 : Int) (vb0 : Bool) (vn0 : Int) (vs0 : ByteArray) (kp0 : Option Addr) (n0 kc0 : Nat) (np0 : Option Addr) (m0 nc0 : Nat) (k1 : Int) (s1 : ByteArray) (vk1 : Int) (vb1 : Bool) (vn1 : Int) (vs1 : ByteArray) (kp1 : Option Addr) (n1 kc1 : Nat) (np1 : Option Addr) (m1 nc1 : Nat) (h0 : k0 = 2) (h1 : k1 = 1) {K : ByteArray} (hsz : K.size ≤ maxLen) (hof : ∀ W2, Below W.heap.size W W2 → Calls Tryz.prog 46 #[.agg #[.int .i64 vk1, .bool vb1, .int .i64 vn1, .string vs1, .slice none 0 0, .slice none 0 0]] W2 fun e w' => e = .returned (.string K) ∧ Below W2.heap.size W2 w') (hM : SaW w W b2 b3 b5 #[.int .i64 k0, .string s0, .int .i64 vk0, .bool vb0, .int .i64 vn0, .string vs0, .slice none 0 0, .slice none 0 0, .slice kp0 n0 kc0, .slice np0 m0 nc0] #[.int .i64 k1, .string s1, .int .i64 vk1, .bool vb1, .int .i64 vn1, .string vs1, .slice none 0 0, .slice none 0 0, .slice kp1 n1 kc1, .slice np1 m1 nc1]) (y0 y1 y6 y7 y8 y9 y10 y11 y12 y13 y14 y15 y16 y17 y18 y19 y20 y21 y22 y23 y24 y25 y26 y27 y28 y29 y30 y31 y32 y33 y34 y35 y36 y37 y38 y39 y40 y41 y42 y43 y44 y45 y46 y47 y48 y49 y50 y51 y52 y53 y54 y55 y56 y57 : Value) (cc : Code) (hcc : cutSe (cutSd Tryz.f27.body) = some cc) :
    Code.wp Tryz.prog cc (bodyPost Tryz.prog Tryz.f27 (GivesP3 w (if (spanF sg.data.toList K).2.2 = true then (s0, (spanF sg.data.toList K).1, (spanF sg.data.toList K).2.1) else noP))) ⟨List.toArray (y0 :: y1 :: .pointer (some ⟨b2, 0, none⟩) :: .pointer (some ⟨b3, 0, none⟩) :: .string sg :: .pointer (some ⟨b5, 0, none⟩) :: y6 :: y7 :: y8 :: y9 :: y10 :: y11 :: y12 :: y13 :: y14 :: y15 :: y16 :: y17 :: y18 :: y19 :: y20 :: y21 :: y22 :: y23 :: y24 :: y25 :: y26 :: y27 :: y28 :: y29 :: y30 :: y31 :: y32 :: y33 :: y34 :: y35 :: y36 :: y37 :: y38 :: y39 :: y40 :: y41 :: y42 :: y43 :: y44 :: y45 :: y46 :: y47 :: y48 :: y49 :: y50 :: y51 :: y52 :: y53 :: y54 :: y55 :: y56 :: y57 :: []), []⟩ W := by
  have ks := span_any sg (k := vk1) (b := vb1) (n := vn1) (s := vs1) (pa := none) (m := 0) (pc := 0) (na := none) (q := 0) (nc := 0) (w := W) hsz hof
  by_cases hok : (spanF sg.data.toList K).2.2 = true
  · rw [if_pos hok]
    rw [hok] at ks
    exact said_spy sg k0 s0 vk0 vb0 vn0 vs0 kp0 n0 kc0 np0 m0 nc0 k1 s1 vk1 vb1 vn1 vs1 kp1 n1 kc1 np1 m1 nc1 h0 h1 ks hM y0 y1 y6 y7 y8 y9 y10 y11 y12 y13 y14 y15 y16 y17 y18 y19 y20 y21 y22 y23 y24 y25 y26 y27 y28 y29 y30 y31 y32 y33 y34 y35 y36 y37 y38 y39 y40 y41 y42 y43 y44 y45 y46 y47 y48 y49 y50 y51 y52 y53 y54 y55 y56 y57 cc hcc
  · rw [if_neg hok]
    rw [Bool.not_eq_true] at hok
    rw [hok] at ks
    exact said_spz sg k0 s0 vk0 vb0 vn0 vs0 kp0 n0 kc0 np0 m0 nc0 k1 s1 vk1 vb1 vn1 vs1 kp1 n1 kc1 np1 m1 nc1 h0 h1 ks hM y0 y1 y6 y7 y8 y9 y10 y11 y12 y13 y14 y15 y16 y17 y18 y19 y20 y21 y22 y23 y24 y25 y26 y27 y28 y29 y30 y31 y32 y33 y34 y35 y36 y37 y38 y39 y40 y41 y42 y43 y44 y45 y46 y47 y48 y49 y50 y51 y52 y53 y54 y55 y56 y57 cc hcc
end Go.Proofs.YtfemippjaokcmaaGreatDoor
namespace Go.Proofs.YtfemippjaokcmaaGreatDoor
open Go.RowKit Go.Shelf
attribute [local go_sem] Oper.semAt_some fw0 fw1 fw2
def cutHd (b : Option Code) : Option Code := match b with
  | some (.seq t _) => some t
  | _ => none
theorem seq_of {b : Option Code} {cc cT : Code} (h : b = some cc) (ht : cutSe b = some cT) : cc = .seq ((cutHd b).getD .skip) cT := by
  subst h
  unfold cutSe at ht
  split at ht
  · next a t e =>
    injection e with e
    subst e
    injection ht with ht
    rw [← ht]
    rfl
  · cases ht
def turnB (s : ByteArray) : ByteArray := if s.data.toList = [60] then ⟨#[62]⟩ else if s.data.toList = [60, 61] then ⟨#[62, 61]⟩ else if s.data.toList = [62] then ⟨#[60]⟩ else if s.data.toList = [62, 61] then ⟨#[60, 61]⟩ else s
set_option maxRecDepth 100000 in
theorem turn_1 (w : World) : Calls Tryz.prog 56 #[.string ⟨#[60]⟩] w fun e w' => e = .returned (.string ⟨#[62]⟩) ∧ w' = w := by
  go_enter Tryz.func56, Tryz.ntmps56
  go_wp2
  go_ret
  exact ⟨rfl, rfl⟩
set_option maxRecDepth 100000 in
theorem turn_2 (w : World) : Calls Tryz.prog 56 #[.string ⟨#[60, 61]⟩] w fun e w' => e = .returned (.string ⟨#[62, 61]⟩) ∧ w' = w := by
  go_enter Tryz.func56, Tryz.ntmps56
  go_wp2
  go_ret
  exact ⟨rfl, rfl⟩
set_option maxRecDepth 100000 in
theorem turn_3 (w : World) : Calls Tryz.prog 56 #[.string ⟨#[62]⟩] w fun e w' => e = .returned (.string ⟨#[60]⟩) ∧ w' = w := by
  go_enter Tryz.func56, Tryz.ntmps56
  go_wp2
  go_ret
  exact ⟨rfl, rfl⟩
set_option maxRecDepth 100000 in
theorem turn_4 (w : World) : Calls Tryz.prog 56 #[.string ⟨#[62, 61]⟩] w fun e w' => e = .returned (.string ⟨#[60, 61]⟩) ∧ w' = w := by
  go_enter Tryz.func56, Tryz.ntmps56
  go_wp2
  go_ret
  exact ⟨rfl, rfl⟩
set_option maxRecDepth 100000 in
theorem turn_no (s : ByteArray) (h1 : (s.toList == [60]) = false) (h2 : (s.toList == [60, 61]) = false) (h3 : (s.toList == [62]) = false) (h4 : (s.toList == [62, 61]) = false) (w : World) : Calls Tryz.prog 56 #[.string s] w fun e w' => e = .returned (.string s) ∧ w' = w := by
  go_enter Tryz.func56, Tryz.ntmps56
  go_wp2
  go_ret
  exact ⟨rfl, rfl⟩
theorem turn_any (s : ByteArray) (w : World) : Calls Tryz.prog 56 #[.string s] w fun e w' => e = .returned (.string (turnB s)) ∧ w' = w := by
  unfold turnB
  by_cases h1 : s.data.toList = [60]
  · rw [if_pos h1, V.of_list h1]; exact turn_1 w
  rw [if_neg h1]
  by_cases h2 : s.data.toList = [60, 61]
  · rw [if_pos h2, V.of_list h2]; exact turn_2 w
  rw [if_neg h2]
  by_cases h3 : s.data.toList = [62]
  · rw [if_pos h3, V.of_list h3]; exact turn_3 w
  rw [if_neg h3]
  by_cases h4 : s.data.toList = [62, 61]
  · rw [if_pos h4, V.of_list h4]; exact turn_4 w
  rw [if_neg h4]
  exact turn_no s (by rw [Lib.toList_data]; simpa using h1) (by rw [Lib.toList_data]; simpa using h2) (by rw [Lib.toList_data]; simpa using h3) (by rw [Lib.toList_data]; simpa using h4) w
theorem SaW.drew {w W : World} {b2 b3 b5 : Nat} {r3 r5 : Array Value} (h : SaW w W b2 b3 b5 r3 r5) : SaW w W.drew b2 b3 b5 r3 r5 := ⟨h.bel.drew, h.old, h.z, h.f, h.l⟩
theorem put_ten (W : World) (z : Nat) (a0 a1 a2 a3 a4 a5 a6 a7 a8 a9 : Value) : put W z #[a0, a1, a2, a3, a4, a5, a6, a7, a8, a9] = ((((((((((W.setCell ⟨z, 0, none⟩ a0).setCell ⟨z, 1, none⟩ a1).setCell ⟨z, 2, none⟩ a2).setCell ⟨z, 3, none⟩ a3).setCell ⟨z, 4, none⟩ a4).setCell ⟨z, 5, none⟩ a5).setCell ⟨z, 6, none⟩ a6).setCell ⟨z, 7, none⟩ a7).setCell ⟨z, 8, none⟩ a8).setCell ⟨z, 9, none⟩ a9) := rfl
set_option maxRecDepth 100000 in
set_option maxHeartbeats 8000000 in
theorem said_stay {w W : World} {b2 b3 b5 : Nat} (sg : ByteArray) (k0 : Int) (s0 : ByteArray) (vk0 : Int) (vb0 : Bool) (vn0 : Int) (vs0 : ByteArray) (kp0 : Option Addr) (n0 kc0 : Nat) (np0 : Option Addr) (m0 nc0 : Nat) (k1 : Int) (s1 : ByteArray) (vk1 : Int) (vb1 : Bool) (vn1 : Int) (vs1 : ByteArray) (kp1 : Option Addr) (n1 kc1 : Nat) (np1 : Option Addr) (m1 nc1 : Nat) (h0 : (k0 == 1) = false) (hM : SaW w W b2 b3 b5 #[.int .i64 k0, .string s0, .int .i64 vk0, .bool vb0, .int .i64 vn0, .string vs0, .slice none 0 0, .slice none 0 0, .slice kp0 n0 kc0, .slice np0 m0 nc0] #[.int .i64 k1, .string s1, .int .i64 vk1, .bool vb1, .int .i64 vn1, .string vs1, .slice none 0 0, .slice none 0 0, .slice kp1 n1 kc1, .slice np1 m1 nc1]) (_hne : b2 ≠ b3 ∧ b2 ≠ b5 ∧ b3 ≠ b5 ∧ w.heap.size ≤ b3 ∧ w.heap.size ≤ b5) (Po : Ending → World → Prop)
    (htl : ∀ (W2 : World) (y0 y1 y6 y7 y8 y9 y10 y11 y12 y13 y14 y15 y16 y17 y18 y19 y20 y21 y22 y23 y24 y25 y26 y27 y28 y29 y30 y31 y32 y33 y34 y35 y36 y37 y38 y39 y40 y41 y42 y43 y44 y45 y46 y47 y48 y49 y50 y51 y52 y53 y54 y55 y56 y57 : Value) (cc : Code), SaW w W2 b2 b3 b5 #[.int .i64 k0, .string s0, .int .i64 vk0, .bool vb0, .int .i64 vn0, .string vs0, .slice none 0 0, .slice none 0 0, .slice kp0 n0 kc0, .slice np0 m0 nc0] #[.int .i64 k1, .string s1, .int .i64 vk1, .bool vb1, .int .i64 vn1, .string vs1, .slice none 0 0, .slice none 0 0, .slice kp1 n1 kc1, .slice np1 m1 nc1] → cutSe (cutSd Tryz.f27.body) = some cc → Code.wp Tryz.prog cc (bodyPost Tryz.prog Tryz.f27 Po) ⟨List.toArray (y0 :: y1 :: .pointer (some ⟨b2, 0, none⟩) :: .pointer (some ⟨b3, 0, none⟩) :: .string sg :: .pointer (some ⟨b5, 0, none⟩) :: y6 :: y7 :: y8 :: y9 :: y10 :: y11 :: y12 :: y13 :: y14 :: y15 :: y16 :: y17 :: y18 :: y19 :: y20 :: y21 :: y22 :: y23 :: y24 :: y25 :: y26 :: y27 :: y28 :: y29 :: y30 :: y31 :: y32 :: y33 :: y34 :: y35 :: y36 :: y37 :: y38 :: y39 :: y40 :: y41 :: y42 :: y43 :: y44 :: y45 :: y46 :: y47 :: y48 :: y49 :: y50 :: y51 :: y52 :: y53 :: y54 :: y55 :: y56 :: y57 :: []), []⟩ W2) (y0 y1 y6 y7 y8 y9 y10 y11 y12 y13 y14 y15 y16 y17 y18 y19 y20 y21 y22 y23 y24 y25 y26 y27 y28 y29 y30 y31 y32 y33 y34 y35 y36 y37 y38 y39 y40 y41 y42 y43 y44 y45 y46 y47 y48 y49 y50 y51 y52 y53 y54 y55 y56 y57 : Value) (cc : Code) (hcc : cutSd Tryz.f27.body = some cc) :
    Code.wp Tryz.prog cc (bodyPost Tryz.prog Tryz.f27 Po) ⟨List.toArray (y0 :: y1 :: .pointer (some ⟨b2, 0, none⟩) :: .pointer (some ⟨b3, 0, none⟩) :: .string sg :: .pointer (some ⟨b5, 0, none⟩) :: y6 :: y7 :: y8 :: y9 :: y10 :: y11 :: y12 :: y13 :: y14 :: y15 :: y16 :: y17 :: y18 :: y19 :: y20 :: y21 :: y22 :: y23 :: y24 :: y25 :: y26 :: y27 :: y28 :: y29 :: y30 :: y31 :: y32 :: y33 :: y34 :: y35 :: y36 :: y37 :: y38 :: y39 :: y40 :: y41 :: y42 :: y43 :: y44 :: y45 :: y46 :: y47 :: y48 :: y49 :: y50 :: y51 :: y52 :: y53 :: y54 :: y55 :: y56 :: y57 :: []), []⟩ W := by
  obtain ⟨cT, hcT⟩ : ∃ c, cutSe (cutSd Tryz.f27.body) = some c := ⟨_, rfl⟩
  obtain rfl := seq_of hcc hcT
  obtain ⟨A, hA⟩ : ∃ c, cutHd (cutSd Tryz.f27.body) = some c := ⟨_, rfl⟩
  rw [hA]
  obtain rfl := Option.some.inj ((show cutHd (cutSd Tryz.f27.body) = some _ from rfl).symm.trans hA)
  rw [Option.getD_some]
  have HC := mkHid hcT
  clear hcT hA hcc
  have f0 := cell_of_row W _ 0 _ _ _ hM.f
  have HM : Hid (SaW w W b2 b3 b5 #[.int .i64 k0, .string s0, .int .i64 vk0, .bool vb0, .int .i64 vn0, .string vs0, .slice none 0 0, .slice none 0 0, .slice kp0 n0 kc0, .slice np0 m0 nc0] #[.int .i64 k1, .string s1, .int .i64 vk1, .bool vb1, .int .i64 vn1, .string vs1, .slice none 0 0, .slice none 0 0, .slice kp1 n1 kc1, .slice np1 m1 nc1]) := hM
  have HT := mkHid htl
  clear hM htl
  go_wp2_with fail
  exact HT.out W _ _ _ _ _ _ _ _ _ _ _ _ _ _ _ _ _ _ _ _ _ _ _ _ _ _ _ _ _ _ _ _ _ _ _ _ _ _ _ _ _ _ _ _ _ _ _ _ _ _ _ _ _ _ cT HM.out HC.out
set_option maxRecDepth 100000 in
set_option maxHeartbeats 8000000 in
theorem said_swap {w W : World} {b2 b3 b5 : Nat} (sg : ByteArray) (k0 : Int) (s0 : ByteArray) (vk0 : Int) (vb0 : Bool) (vn0 : Int) (vs0 : ByteArray) (kp0 : Option Addr) (n0 kc0 : Nat) (np0 : Option Addr) (m0 nc0 : Nat) (k1 : Int) (s1 : ByteArray) (vk1 : Int) (vb1 : Bool) (vn1 : Int) (vs1 : ByteArray) (kp1 : Option Addr) (n1 kc1 : Nat) (np1 : Option Addr) (m1 nc1 : Nat) (h0 : k0 = 1) (hM : SaW w W b2 b3 b5 #[.int .i64 k0, .string s0, .int .i64 vk0, .bool vb0, .int .i64 vn0, .string vs0, .slice none 0 0, .slice none 0 0, .slice kp0 n0 kc0, .slice np0 m0 nc0] #[.int .i64 k1, .string s1, .int .i64 vk1, .bool vb1, .int .i64 vn1, .string vs1, .slice none 0 0, .slice none 0 0, .slice kp1 n1 kc1, .slice np1 m1 nc1]) (hne : b2 ≠ b3 ∧ b2 ≠ b5 ∧ b3 ≠ b5 ∧ w.heap.size ≤ b3 ∧ w.heap.size ≤ b5) (Po : Ending → World → Prop)
    (htl : ∀ (W2 : World) (y0 y1 y6 y7 y8 y9 y10 y11 y12 y13 y14 y15 y16 y17 y18 y19 y20 y21 y22 y23 y24 y25 y26 y27 y28 y29 y30 y31 y32 y33 y34 y35 y36 y37 y38 y39 y40 y41 y42 y43 y44 y45 y46 y47 y48 y49 y50 y51 y52 y53 y54 y55 y56 y57 : Value) (cc : Code), SaW w W2 b2 b3 b5 #[.int .i64 k1, .string s1, .int .i64 vk1, .bool vb1, .int .i64 vn1, .string vs1, .slice none 0 0, .slice none 0 0, .slice kp1 n1 kc1, .slice np1 m1 nc1] #[.int .i64 1, .string s0, .int .i64 vk0, .bool vb0, .int .i64 vn0, .string vs0, .slice none 0 0, .slice none 0 0, .slice kp0 n0 kc0, .slice np0 m0 nc0] → cutSe (cutSd Tryz.f27.body) = some cc → Code.wp Tryz.prog cc (bodyPost Tryz.prog Tryz.f27 Po) ⟨List.toArray (y0 :: y1 :: .pointer (some ⟨b2, 0, none⟩) :: .pointer (some ⟨b3, 0, none⟩) :: .string (turnB sg) :: .pointer (some ⟨b5, 0, none⟩) :: y6 :: y7 :: y8 :: y9 :: y10 :: y11 :: y12 :: y13 :: y14 :: y15 :: y16 :: y17 :: y18 :: y19 :: y20 :: y21 :: y22 :: y23 :: y24 :: y25 :: y26 :: y27 :: y28 :: y29 :: y30 :: y31 :: y32 :: y33 :: y34 :: y35 :: y36 :: y37 :: y38 :: y39 :: y40 :: y41 :: y42 :: y43 :: y44 :: y45 :: y46 :: y47 :: y48 :: y49 :: y50 :: y51 :: y52 :: y53 :: y54 :: y55 :: y56 :: y57 :: []), []⟩ W2) (y0 y1 y6 y7 y8 y9 y10 y11 y12 y13 y14 y15 y16 y17 y18 y19 y20 y21 y22 y23 y24 y25 y26 y27 y28 y29 y30 y31 y32 y33 y34 y35 y36 y37 y38 y39 y40 y41 y42 y43 y44 y45 y46 y47 y48 y49 y50 y51 y52 y53 y54 y55 y56 y57 : Value) (cc : Code) (hcc : cutSd Tryz.f27.body = some cc) :
    Code.wp Tryz.prog cc (bodyPost Tryz.prog Tryz.f27 Po) ⟨List.toArray (y0 :: y1 :: .pointer (some ⟨b2, 0, none⟩) :: .pointer (some ⟨b3, 0, none⟩) :: .string sg :: .pointer (some ⟨b5, 0, none⟩) :: y6 :: y7 :: y8 :: y9 :: y10 :: y11 :: y12 :: y13 :: y14 :: y15 :: y16 :: y17 :: y18 :: y19 :: y20 :: y21 :: y22 :: y23 :: y24 :: y25 :: y26 :: y27 :: y28 :: y29 :: y30 :: y31 :: y32 :: y33 :: y34 :: y35 :: y36 :: y37 :: y38 :: y39 :: y40 :: y41 :: y42 :: y43 :: y44 :: y45 :: y46 :: y47 :: y48 :: y49 :: y50 :: y51 :: y52 :: y53 :: y54 :: y55 :: y56 :: y57 :: []), []⟩ W := by
  obtain ⟨cT, hcT⟩ : ∃ c, cutSe (cutSd Tryz.f27.body) = some c := ⟨_, rfl⟩
  obtain rfl := seq_of hcc hcT
  obtain ⟨A, hA⟩ : ∃ c, cutHd (cutSd Tryz.f27.body) = some c := ⟨_, rfl⟩
  rw [hA]
  obtain rfl := Option.some.inj ((show cutHd (cutSd Tryz.f27.body) = some _ from rfl).symm.trans hA)
  rw [Option.getD_some]
  have HC := mkHid hcT
  clear hcT hA hcc
  subst h0
  have f0 : W.cell? ⟨b3, 0, none⟩ = some (.int .i64 1) := cell_of_row W _ 0 _ _ _ hM.f
  have fz0 := frozen_of_row W _ 0 _ _ hM.f
  have g0 : W.cell? ⟨b5, 0, none⟩ = some (.int .i64 k1) := cell_of_row W _ 0 _ _ _ hM.l
  have gz0 := frozen_of_row W _ 0 _ _ hM.l
  have f1 : W.cell? ⟨b3, 1, none⟩ = some (.string s0) := cell_of_row W _ 1 _ _ _ hM.f
  have fz1 := frozen_of_row W _ 1 _ _ hM.f
  have g1 : W.cell? ⟨b5, 1, none⟩ = some (.string s1) := cell_of_row W _ 1 _ _ _ hM.l
  have gz1 := frozen_of_row W _ 1 _ _ hM.l
  have f2 : W.cell? ⟨b3, 2, none⟩ = some (.int .i64 vk0) := cell_of_row W _ 2 _ _ _ hM.f
  have fz2 := frozen_of_row W _ 2 _ _ hM.f
  have g2 : W.cell? ⟨b5, 2, none⟩ = some (.int .i64 vk1) := cell_of_row W _ 2 _ _ _ hM.l
  have gz2 := frozen_of_row W _ 2 _ _ hM.l
  have f3 : W.cell? ⟨b3, 3, none⟩ = some (.bool vb0) := cell_of_row W _ 3 _ _ _ hM.f
  have fz3 := frozen_of_row W _ 3 _ _ hM.f
  have g3 : W.cell? ⟨b5, 3, none⟩ = some (.bool vb1) := cell_of_row W _ 3 _ _ _ hM.l
  have gz3 := frozen_of_row W _ 3 _ _ hM.l
  have f4 : W.cell? ⟨b3, 4, none⟩ = some (.int .i64 vn0) := cell_of_row W _ 4 _ _ _ hM.f
  have fz4 := frozen_of_row W _ 4 _ _ hM.f
  have g4 : W.cell? ⟨b5, 4, none⟩ = some (.int .i64 vn1) := cell_of_row W _ 4 _ _ _ hM.l
  have gz4 := frozen_of_row W _ 4 _ _ hM.l
  have f5 : W.cell? ⟨b3, 5, none⟩ = some (.string vs0) := cell_of_row W _ 5 _ _ _ hM.f
  have fz5 := frozen_of_row W _ 5 _ _ hM.f
  have g5 : W.cell? ⟨b5, 5, none⟩ = some (.string vs1) := cell_of_row W _ 5 _ _ _ hM.l
  have gz5 := frozen_of_row W _ 5 _ _ hM.l
  have f6 : W.cell? ⟨b3, 6, none⟩ = some (.slice none 0 0) := cell_of_row W _ 6 _ _ _ hM.f
  have fz6 := frozen_of_row W _ 6 _ _ hM.f
  have g6 : W.cell? ⟨b5, 6, none⟩ = some (.slice none 0 0) := cell_of_row W _ 6 _ _ _ hM.l
  have gz6 := frozen_of_row W _ 6 _ _ hM.l
  have f7 : W.cell? ⟨b3, 7, none⟩ = some (.slice none 0 0) := cell_of_row W _ 7 _ _ _ hM.f
  have fz7 := frozen_of_row W _ 7 _ _ hM.f
  have g7 : W.cell? ⟨b5, 7, none⟩ = some (.slice none 0 0) := cell_of_row W _ 7 _ _ _ hM.l
  have gz7 := frozen_of_row W _ 7 _ _ hM.l
  have f8 : W.cell? ⟨b3, 8, none⟩ = some (.slice kp0 n0 kc0) := cell_of_row W _ 8 _ _ _ hM.f
  have fz8 := frozen_of_row W _ 8 _ _ hM.f
  have g8 : W.cell? ⟨b5, 8, none⟩ = some (.slice kp1 n1 kc1) := cell_of_row W _ 8 _ _ _ hM.l
  have gz8 := frozen_of_row W _ 8 _ _ hM.l
  have f9 : W.cell? ⟨b3, 9, none⟩ = some (.slice np0 m0 nc0) := cell_of_row W _ 9 _ _ _ hM.f
  have fz9 := frozen_of_row W _ 9 _ _ hM.f
  have g9 : W.cell? ⟨b5, 9, none⟩ = some (.slice np1 m1 nc1) := cell_of_row W _ 9 _ _ _ hM.l
  have gz9 := frozen_of_row W _ 9 _ _ hM.l
  have HM : Hid (SaW w W b2 b3 b5 #[.int .i64 1, .string s0, .int .i64 vk0, .bool vb0, .int .i64 vn0, .string vs0, .slice none 0 0, .slice none 0 0, .slice kp0 n0 kc0, .slice np0 m0 nc0] #[.int .i64 k1, .string s1, .int .i64 vk1, .bool vb1, .int .i64 vn1, .string vs1, .slice none 0 0, .slice none 0 0, .slice kp1 n1 kc1, .slice np1 m1 nc1]) := hM
  have HT := mkHid htl
  have HN := mkHid hne
  have ne1 : ¬ b3 = b5 := hne.2.2.1
  have ne2 : ¬ b5 = b3 := fun e => ne1 e.symm
  have kt := turn_any sg
  obtain ⟨sz, hsz⟩ : ∃ z, turnB sg = z := ⟨_, rfl⟩
  rw [hsz] at kt
  have HS := mkHid hsz
  clear hM htl hne hsz
  go_wp2_with fail
  obtain ⟨X, hX⟩ : ∃ X, (put (put W b3 #[.int .i64 k1, .string s1, .int .i64 vk1, .bool vb1, .int .i64 vn1, .string vs1, .slice none 0 0, .slice none 0 0, .slice kp1 n1 kc1, .slice np1 m1 nc1]) b5 #[.int .i64 1, .string s0, .int .i64 vk0, .bool vb0, .int .i64 vn0, .string vs0, .slice none 0 0, .slice none 0 0, .slice kp0 n0 kc0, .slice np0 m0 nc0]) = X := ⟨_, rfl⟩
  have he : ((((((((((((((((((((W.setCell ⟨b3, 0, none⟩ (.int .i64 k1)).setCell ⟨b3, 1, none⟩ (.string s1)).setCell ⟨b3, 2, none⟩ (.int .i64 vk1)).setCell ⟨b3, 3, none⟩ (.bool vb1)).setCell ⟨b3, 4, none⟩ (.int .i64 vn1)).setCell ⟨b3, 5, none⟩ (.string vs1)).setCell ⟨b3, 6, none⟩ (.slice none 0 0)).setCell ⟨b3, 7, none⟩ (.slice none 0 0)).setCell ⟨b3, 8, none⟩ (.slice kp1 n1 kc1)).setCell ⟨b3, 9, none⟩ (.slice np1 m1 nc1)).setCell ⟨b5, 0, none⟩ (.int .i64 1)).setCell ⟨b5, 1, none⟩ (.string s0)).setCell ⟨b5, 2, none⟩ (.int .i64 vk0)).setCell ⟨b5, 3, none⟩ (.bool vb0)).setCell ⟨b5, 4, none⟩ (.int .i64 vn0)).setCell ⟨b5, 5, none⟩ (.string vs0)).setCell ⟨b5, 6, none⟩ (.slice none 0 0)).setCell ⟨b5, 7, none⟩ (.slice none 0 0)).setCell ⟨b5, 8, none⟩ (.slice kp0 n0 kc0)).setCell ⟨b5, 9, none⟩ (.slice np0 m0 nc0)) = X := by rw [← hX, put_ten, put_ten]
  have HE := mkHid he
  have HW0 : SaW w X b2 b3 b5 #[.int .i64 k1, .string s1, .int .i64 vk1, .bool vb1, .int .i64 vn1, .string vs1, .slice none 0 0, .slice none 0 0, .slice kp1 n1 kc1, .slice np1 m1 nc1] #[.int .i64 1, .string s0, .int .i64 vk0, .bool vb0, .int .i64 vn0, .string vs0, .slice none 0 0, .slice none 0 0, .slice kp0 n0 kc0, .slice np0 m0 nc0] := by
    obtain ⟨n1, n2, n3, n4, n5⟩ := HN.out
    rw [← hX]
    refine ⟨put_below (put_below HM.out.bel b3 n4 _) b5 n5 _, HM.out.old, ?_, ?_, ?_⟩
    · exact (put_other n2 _).trans ((put_other n1 _).trans HM.out.z)
    · exact (put_other n3 _).trans (put_row _ HM.out.f rfl)
    · exact put_row _ ((put_other (fun e => n3 e.symm) _).trans HM.out.l) rfl
  have HW := mkHid HW0.drew
  clear he hX HW0
  go_region_law ((go_simp; go_at_call 56; refine (kt _).mono ?_; rintro e w2 ⟨rfl, rfl⟩; dsimp only))
  all_goals
    rw [HE.out]
    go_wp2_with fail
    rw [HS.out] at HT
    exact HT.out _ _ _ _ _ _ _ _ _ _ _ _ _ _ _ _ _ _ _ _ _ _ _ _ _ _ _ _ _ _ _ _ _ _ _ _ _ _ _ _ _ _ _ _ _ _ _ _ _ _ _ _ _ _ _ cT HW.out HC.out
end Go.Proofs.YtfemippjaokcmaaGreatDoor
namespace Go.Proofs.YtfemippjaokcmaaGreatDoor
open Go.RowKit Go.Shelf
attribute [local go_sem] Oper.semAt_some fw0 fw1 fw2
def litK (e : En) : ByteArray := ⟨(V.keyT (V.leafT (e.vk : Int) e.vb e.vn e.vs)).toArray⟩
/- A literal whose key is short enough. -/
structure LitOk (e : En) : Prop where
  k : e.vk ≤ 4
  s : e.vs.size ≤ 4096
def saidC (sg : ByteArray) (f l : En) : ByteArray × ByteArray × ByteArray :=
  if f.k = 2 ∧ l.k = 1 then (if (spanF sg.data.toList (litK l)).2.2 = true then (f.s, (spanF sg.data.toList (litK l)).1, (spanF sg.data.toList (litK l)).2.1) else noP) else noP
def saidF (e f l : En) : ByteArray × ByteArray × ByteArray :=
  if e.k = 6 ∧ e.n = 2 then (if f.k = 1 then saidC (turnB e.s) l f else saidC e.s f l) else noP
def saidE (t : Et) : ByteArray × ByteArray × ByteArray := saidF (t []) (t.sub 0 []) (t.sub 1 [])
open V in
theorem esc_len : ∀ l : List UInt8, (escL l).length ≤ 2 * l.length
  | [] => Nat.zero_le _
  | c :: r => by
    have := esc_len r
    unfold escL
    split <;> simp <;> omega
theorem litK_len {e : En} (h : LitOk e) : (V.keyT (V.leafT (e.vk : Int) e.vb e.vn e.vs)).length ≤ 9000 := by
  have hk := h.k
  have hs := h.s
  have hs2 : e.vs.data.toList.length ≤ 4096 := by rw [Lib.size_eq] at hs; exact hs
  have he := esc_len e.vs.data.toList
  unfold V.leafT
  rw [V.keyT]
  repeat' split
  all_goals simp [V.be8_len, V.ktextL]
  all_goals omega
set_option maxRecDepth 100000 in
theorem lit_of {e : En} (h : LitOk e) (hn : -9223372036854775808 ≤ e.vn ∧ e.vn < 9223372036854775808) (w : World) (hg : V.Gm w) :
    ∀ W, Below w.heap.size w W → Calls Tryz.prog 46 #[.agg #[.int .i64 (e.vk : Int), .bool e.vb, .int .i64 e.vn, .string e.vs, .slice none 0 0, .slice none 0 0]] W fun r w' => r = .returned (.string (litK e)) ∧ Below W.heap.size W w' := by
  intro W hb
  have hk := h.k
  have hs := h.s
  have hL : V.Lies W.heap.size W (V.leafT (e.vk : Int) e.vb e.vn e.vs) ⟨none, 0, none, 0⟩ := V.lies_leaf (by omega) hn (by unfold maxLen; omega)
  have hgW : V.Gm W := hg.later hb hg.pos
  have hp : V.KputG (V.leafT (e.vk : Int) e.vb e.vn e.vs) := by
    obtain h0 | h0 | h0 | h0 | h0 : e.vk = 0 ∨ e.vk = 1 ∨ e.vk = 2 ∨ e.vk = 3 ∨ e.vk = 4 := by omega
    all_goals rw [h0]
    · exact V.kputg_0
    · exact V.kputg_1
    · exact V.kputg_2
    · exact V.kputg_3 hs
    · exact V.kputg_4 hs
  have hlen := litK_len h
  unfold litK
  obtain ⟨T, hT⟩ : ∃ T, V.leafT (e.vk : Int) e.vb e.vn e.vs = T := ⟨_, rfl⟩
  have hv : T.val ⟨none, 0, none, 0⟩ = .agg #[.int .i64 (e.vk : Int), .bool e.vb, .int .i64 e.vn, .string e.vs, .slice none 0 0, .slice none 0 0] := by rw [← hT]; rfl
  rw [hT] at hp hL hlen ⊢
  rw [← hv]
  exact V.ofg_any hp hgW hgW.pos hL (Nat.le_refl _) (Nat.le_trans hlen (by decide))
set_option maxRecDepth 100000 in
set_option maxHeartbeats 4000000 in
theorem said_none {k : Int} {s : ByteArray} {vk : Int} {vb : Bool} {vn : Int} {vs : ByteArray} {kp : Option Addr} {n kc : Nat} {np : Option Addr} {m nc : Nat} {w : World} (h : ¬ (k = 6 ∧ n = 2)) : Calls Tryz.prog 27 #[.agg #[.int .i64 k, .string s, .int .i64 vk, .bool vb, .int .i64 vn, .string vs, .slice none 0 0, .slice none 0 0, .slice kp n kc, .slice np m nc]] w (GivesP3 w noP) := by
  have f6 : (k == 6) = decide (k = 6) := by apply Bool.eq_iff_iff.2; simp
  have fn : ((n : Int) == 2) = decide (n = 2) := by apply Bool.eq_iff_iff.2; simp; omega
  obtain ⟨b6, hb6⟩ : ∃ b, decide (k = 6) = b := ⟨_, rfl⟩
  obtain ⟨bn, hbn⟩ : ∃ b, decide (n = 2) = b := ⟨_, rfl⟩
  have hno : Hid ((b6 && bn) = false) := by
    show (b6 && bn) = false
    rw [← hb6, ← hbn]
    apply Bool.eq_false_iff.2
    intro h1
    simp only [Bool.and_eq_true, decide_eq_true_eq] at h1
    exact h h1
  rw [hb6] at f6; rw [hbn] at fn
  have f6' : (k != 6) = !b6 := by rw [← f6]; rfl
  have fn' : ((n : Int) != 2) = !bn := by rw [← fn]; rfl
  obtain ⟨w2, hw2⟩ : ∃ u, (w.alloc (.cells #[.int .i64 k, .string s, .int .i64 vk, .bool vb, .int .i64 vn, .string vs, .slice none 0 0, .slice none 0 0, .slice kp n kc, .slice np m nc] 28)).alloc (.cells #[.string ⟨#[]⟩, .string ⟨#[]⟩, .string ⟨#[]⟩] 35) = u := ⟨_, rfl⟩
  obtain ⟨r0, r1, bw⟩ := alloc2 hw2
  have HW := mkHid hw2
  have cx0 := cell_of_row w2 _ 0 _ _ _ r0
  have cx8 := cell_of_row w2 _ 8 _ _ _ r0
  have z0 := cell_of_row w2 _ 0 _ _ _ r1
  have u0 := frozen_of_row w2 _ 0 _ _ r1
  have z1 := cell_of_row w2 _ 1 _ _ _ r1
  have u1 := frozen_of_row w2 _ 1 _ _ r1
  have z2 := cell_of_row w2 _ 2 _ _ _ r1
  have u2 := frozen_of_row w2 _ 2 _ _ r1
  have HB : Hid (Below w.heap.size w w2 ∧ w2.heap[w.heap.size + 1]? = some (.cells #[.string ⟨#[]⟩, .string ⟨#[]⟩, .string ⟨#[]⟩] 35 (0, 0))) := ⟨bw, r1⟩
  clear hw2 r0 r1 bw hb6 hbn h
  go_enter Tryz.func27, Tryz.ntmps27
  rcases b6 with _ | _ <;> rcases bn with _ | _
  all_goals first
    | (exact absurd hno.out (by decide))
    | skip
  all_goals
    go_wp2_with (first | rw [HW.out] | fail)
    have hro : (((w2.setCell ⟨w.heap.size + 1, 0, none⟩ (.string ⟨#[]⟩)).setCell ⟨w.heap.size + 1, 1, none⟩ (.string ⟨#[]⟩)).setCell ⟨w.heap.size + 1, 2, none⟩ (.string ⟨#[]⟩)).heap[w.heap.size + 1]? = some (.cells #[.string ⟨#[]⟩, .string ⟨#[]⟩, .string ⟨#[]⟩] 35 (0, 0)) := row_setCell (k := 2) (row_setCell (k := 1) (row_setCell (k := 0) HB.out.2 (.string ⟨#[]⟩)) (.string ⟨#[]⟩)) (.string ⟨#[]⟩)
    have hbf : Below w.heap.size w (((w2.setCell ⟨w.heap.size + 1, 0, none⟩ (.string ⟨#[]⟩)).setCell ⟨w.heap.size + 1, 1, none⟩ (.string ⟨#[]⟩)).setCell ⟨w.heap.size + 1, 2, none⟩ (.string ⟨#[]⟩)) := ((HB.out.1.setCell (p := ⟨w.heap.size + 1, 0, none⟩) (by show w.heap.size ≤ w.heap.size + 1; omega) _).setCell (p := ⟨w.heap.size + 1, 1, none⟩) (by show w.heap.size ≤ w.heap.size + 1; omega) _).setCell (p := ⟨w.heap.size + 1, 2, none⟩) (by show w.heap.size ≤ w.heap.size + 1; omega) _
    obtain ⟨wf, hwf⟩ : ∃ wf, (((w2.setCell ⟨w.heap.size + 1, 0, none⟩ (.string ⟨#[]⟩)).setCell ⟨w.heap.size + 1, 1, none⟩ (.string ⟨#[]⟩)).setCell ⟨w.heap.size + 1, 2, none⟩ (.string ⟨#[]⟩)) = wf := ⟨_, rfl⟩
    rw [hwf] at hro hbf ⊢
    clear hwf
    have o0 := cell_of_row wf _ 0 _ _ _ hro
    have o1 := cell_of_row wf _ 1 _ _ _ hro
    have o2 := cell_of_row wf _ 2 _ _ _ hro
    exact bodyPost_ret (v := .agg #[.string ⟨#[]⟩, .string ⟨#[]⟩, .string ⟨#[]⟩]) (by simp [results, Tryz.results27, go_sem, o0, o1, o2]) rfl ⟨rfl, hbf⟩
end Go.Proofs.YtfemippjaokcmaaGreatDoor
namespace Go.Proofs.YtfemippjaokcmaaGreatDoor
open Go.RowKit Go.Shelf
attribute [local go_sem] Oper.semAt_some fw0 fw1 fw2
theorem seq3_of {b : Option Code} {cc c1 c2 c3 cT : Code} (h : b = some cc) (h1 : cutHd b = some c1) (h2 : cutHd (cutSe b) = some c2) (h3 : cutHd (cutSe (cutSe b)) = some c3) (ht : cutSd b = some cT) : cc = .seq c1 (.seq c2 (.seq c3 cT)) := by
  subst h
  unfold cutSd at ht
  split at ht
  · next a b c t e =>
    injection e with e
    subst e
    injection ht with ht
    subst ht
    simp only [cutHd, cutSe, Option.some.injEq] at h1 h2 h3
    rw [h1, h2, h3]
  · cases ht
set_option maxRecDepth 100000 in
set_option maxHeartbeats 8000000 in
theorem said_front {w : World} (sg : ByteArray) (vk2 : Int) (vb2 : Bool) (vn2 : Int) (vs2 : ByteArray) (g o kc2 : Nat) (np2 : Option Addr) (m2 nc2 : Nat) (k0 : Int) (s0 : ByteArray) (vk0 : Int) (vb0 : Bool) (vn0 : Int) (vs0 : ByteArray) (kp0 : Option Addr) (n0 kc0 : Nat) (np0 : Option Addr) (m0 nc0 : Nat) (k1 : Int) (s1 : ByteArray) (vk1 : Int) (vb1 : Bool) (vn1 : Int) (vs1 : ByteArray) (kp1 : Option Addr) (n1 kc1 : Nat) (np1 : Option Addr) (m1 nc1 : Nat) (hgl : g < w.heap.size) (_hkc : 2 ≤ kc2 ∧ kc2 ≤ maxLen)
    (A0 : At10 w g o ⟨k0, s0, vk0, vb0, vn0, vs0, kp0, n0, kc0, np0, m0, nc0⟩) (A1 : At10 w g (o + 10) ⟨k1, s1, vk1, vb1, vn1, vs1, kp1, n1, kc1, np1, m1, nc1⟩) (Po : Ending → World → Prop)
    (htl : ∀ (W2 : World) (b2 b3 b5 : Nat) (y0 y1 y6 y7 y8 y9 y10 y11 y12 y13 y14 y15 y16 y17 y18 y19 y20 y21 y22 y23 y24 y25 y26 y27 y28 y29 y30 y31 y32 y33 y34 y35 y36 y37 y38 y39 y40 y41 y42 y43 y44 y45 y46 y47 y48 y49 y50 y51 y52 y53 y54 y55 y56 y57 : Value) (cc : Code), Below w.heap.size w W2 → SaW w W2 b2 b3 b5 #[.int .i64 k0, .string s0, .int .i64 vk0, .bool vb0, .int .i64 vn0, .string vs0, .slice none 0 0, .slice none 0 0, .slice kp0 n0 kc0, .slice np0 m0 nc0] #[.int .i64 k1, .string s1, .int .i64 vk1, .bool vb1, .int .i64 vn1, .string vs1, .slice none 0 0, .slice none 0 0, .slice kp1 n1 kc1, .slice np1 m1 nc1] → (b2 ≠ b3 ∧ b2 ≠ b5 ∧ b3 ≠ b5 ∧ w.heap.size ≤ b3 ∧ w.heap.size ≤ b5) → cutSd Tryz.f27.body = some cc → Code.wp Tryz.prog cc (bodyPost Tryz.prog Tryz.f27 Po) ⟨List.toArray (y0 :: y1 :: .pointer (some ⟨b2, 0, none⟩) :: .pointer (some ⟨b3, 0, none⟩) :: .string sg :: .pointer (some ⟨b5, 0, none⟩) :: y6 :: y7 :: y8 :: y9 :: y10 :: y11 :: y12 :: y13 :: y14 :: y15 :: y16 :: y17 :: y18 :: y19 :: y20 :: y21 :: y22 :: y23 :: y24 :: y25 :: y26 :: y27 :: y28 :: y29 :: y30 :: y31 :: y32 :: y33 :: y34 :: y35 :: y36 :: y37 :: y38 :: y39 :: y40 :: y41 :: y42 :: y43 :: y44 :: y45 :: y46 :: y47 :: y48 :: y49 :: y50 :: y51 :: y52 :: y53 :: y54 :: y55 :: y56 :: y57 :: []), []⟩ W2) :
    Calls Tryz.prog 27 #[.agg #[.int .i64 6, .string sg, .int .i64 vk2, .bool vb2, .int .i64 vn2, .string vs2, .slice none 0 0, .slice none 0 0, .slice (some ⟨g, o, none⟩) 2 kc2, .slice np2 m2 nc2]] w Po := by
  obtain ⟨w2, hw2⟩ : ∃ u, (w.alloc (.cells #[.int .i64 6, .string sg, .int .i64 vk2, .bool vb2, .int .i64 vn2, .string vs2, .slice none 0 0, .slice none 0 0, .slice (some ⟨g, o, none⟩) 2 kc2, .slice np2 m2 nc2] 28)).alloc (.cells #[.string ⟨#[]⟩, .string ⟨#[]⟩, .string ⟨#[]⟩] 35) = u := ⟨_, rfl⟩
  obtain ⟨r0, r1, bw⟩ := alloc2 hw2
  have HW := mkHid hw2
  have hz2 : w2.heap.size = w.heap.size + 2 := by rw [← hw2]; simp
  have cx0 := cell_of_row w2 _ 0 _ _ _ r0
  have cx1 := cell_of_row w2 _ 1 _ _ _ r0
  have cx2 := cell_of_row w2 _ 2 _ _ _ r0
  have cx3 := cell_of_row w2 _ 3 _ _ _ r0
  have cx4 := cell_of_row w2 _ 4 _ _ _ r0
  have cx5 := cell_of_row w2 _ 5 _ _ _ r0
  have cx6 := cell_of_row w2 _ 6 _ _ _ r0
  have cx7 := cell_of_row w2 _ 7 _ _ _ r0
  have cx8 := cell_of_row w2 _ 8 _ _ _ r0
  have cx9 := cell_of_row w2 _ 9 _ _ _ r0
  have a0_0 : w2.cell? ⟨g, o, none⟩ = some (.int .i64 k0) := (bw.cell (p := ⟨g, o, none⟩) hgl).trans (A0 0 (by decide))
  have a0_1 : w2.cell? ⟨g, o + 1, none⟩ = some (.string s0) := (bw.cell (p := ⟨g, o + 1, none⟩) hgl).trans (A0 1 (by decide))
  have a0_2 : w2.cell? ⟨g, o + 2, none⟩ = some (.int .i64 vk0) := (bw.cell (p := ⟨g, o + 2, none⟩) hgl).trans (A0 2 (by decide))
  have a0_3 : w2.cell? ⟨g, o + 3, none⟩ = some (.bool vb0) := (bw.cell (p := ⟨g, o + 3, none⟩) hgl).trans (A0 3 (by decide))
  have a0_4 : w2.cell? ⟨g, o + 4, none⟩ = some (.int .i64 vn0) := (bw.cell (p := ⟨g, o + 4, none⟩) hgl).trans (A0 4 (by decide))
  have a0_5 : w2.cell? ⟨g, o + 5, none⟩ = some (.string vs0) := (bw.cell (p := ⟨g, o + 5, none⟩) hgl).trans (A0 5 (by decide))
  have a0_6 : w2.cell? ⟨g, o + 6, none⟩ = some (.slice none 0 0) := (bw.cell (p := ⟨g, o + 6, none⟩) hgl).trans (A0 6 (by decide))
  have a0_7 : w2.cell? ⟨g, o + 7, none⟩ = some (.slice none 0 0) := (bw.cell (p := ⟨g, o + 7, none⟩) hgl).trans (A0 7 (by decide))
  have a0_8 : w2.cell? ⟨g, o + 8, none⟩ = some (.slice kp0 n0 kc0) := (bw.cell (p := ⟨g, o + 8, none⟩) hgl).trans (A0 8 (by decide))
  have a0_9 : w2.cell? ⟨g, o + 9, none⟩ = some (.slice np0 m0 nc0) := (bw.cell (p := ⟨g, o + 9, none⟩) hgl).trans (A0 9 (by decide))
  have a1_0 : w2.cell? ⟨g, o + 10, none⟩ = some (.int .i64 k1) := (bw.cell (p := ⟨g, o + 10, none⟩) hgl).trans (A1 0 (by decide))
  have a1_1 : w2.cell? ⟨g, o + 10 + 1, none⟩ = some (.string s1) := (bw.cell (p := ⟨g, o + 10 + 1, none⟩) hgl).trans (A1 1 (by decide))
  have a1_2 : w2.cell? ⟨g, o + 10 + 2, none⟩ = some (.int .i64 vk1) := (bw.cell (p := ⟨g, o + 10 + 2, none⟩) hgl).trans (A1 2 (by decide))
  have a1_3 : w2.cell? ⟨g, o + 10 + 3, none⟩ = some (.bool vb1) := (bw.cell (p := ⟨g, o + 10 + 3, none⟩) hgl).trans (A1 3 (by decide))
  have a1_4 : w2.cell? ⟨g, o + 10 + 4, none⟩ = some (.int .i64 vn1) := (bw.cell (p := ⟨g, o + 10 + 4, none⟩) hgl).trans (A1 4 (by decide))
  have a1_5 : w2.cell? ⟨g, o + 10 + 5, none⟩ = some (.string vs1) := (bw.cell (p := ⟨g, o + 10 + 5, none⟩) hgl).trans (A1 5 (by decide))
  have a1_6 : w2.cell? ⟨g, o + 10 + 6, none⟩ = some (.slice none 0 0) := (bw.cell (p := ⟨g, o + 10 + 6, none⟩) hgl).trans (A1 6 (by decide))
  have a1_7 : w2.cell? ⟨g, o + 10 + 7, none⟩ = some (.slice none 0 0) := (bw.cell (p := ⟨g, o + 10 + 7, none⟩) hgl).trans (A1 7 (by decide))
  have a1_8 : w2.cell? ⟨g, o + 10 + 8, none⟩ = some (.slice kp1 n1 kc1) := (bw.cell (p := ⟨g, o + 10 + 8, none⟩) hgl).trans (A1 8 (by decide))
  have a1_9 : w2.cell? ⟨g, o + 10 + 9, none⟩ = some (.slice np1 m1 nc1) := (bw.cell (p := ⟨g, o + 10 + 9, none⟩) hgl).trans (A1 9 (by decide))
  have HB : Hid (Below w.heap.size w w2 ∧ w2.heap[w.heap.size + 1]? = some (.cells #[.string ⟨#[]⟩, .string ⟨#[]⟩, .string ⟨#[]⟩] 35 (0, 0)) ∧ w2.heap.size = w.heap.size + 2) := ⟨bw, r1, hz2⟩
  have HT := mkHid htl
  obtain ⟨cT, hcT⟩ : ∃ c, cutSd Tryz.f27.body = some c := ⟨_, rfl⟩
  have HC := mkHid hcT
  have hl0 : w.heap.size < w2.heap.size := by omega
  have hl1 : w.heap.size + 1 < w2.heap.size := by omega
  have hgl2 : g < w2.heap.size := by omega
  clear hw2 r0 r1 bw htl A0 A1 hz2 hcT hgl
  go_enter Tryz.func27, Tryz.ntmps27
  have hE := seq3_of (b := Tryz.f27.body) rfl rfl rfl rfl HC.out
  refine (congrArg (fun c => Code.wp Tryz.prog c _ _ _) hE).mpr ?_
  clear hE
  go_wp2_with (first | rw [HW.out] | fail)
  go_region
  all_goals go_wp2_with fail
  · obtain ⟨q0, q1, qb⟩ := alloc2 (rfl : (w2.alloc (.cells #[.int .i64 k0, .string s0, .int .i64 vk0, .bool vb0, .int .i64 vn0, .string vs0, .slice none 0 0, .slice none 0 0, .slice kp0 n0 kc0, .slice np0 m0 nc0] 28)).alloc (.cells #[.int .i64 k1, .string s1, .int .i64 vk1, .bool vb1, .int .i64 vn1, .string vs1, .slice none 0 0, .slice none 0 0, .slice kp1 n1 kc1, .slice np1 m1 nc1] 28) = _)
    have hbb := (HB.out.1.trans (qb.mono HB.out.1.size)).drew
    exact HT.out _ (w.heap.size + 1) w2.heap.size (w2.heap.size + 1) _ _ _ _ _ _ _ _ _ _ _ _ _ _ _ _ _ _ _ _ _ _ _ _ _ _ _ _ _ _ _ _ _ _ _ _ _ _ _ _ _ _ _ _ _ _ _ _ _ _ _ _ _ _ cT hbb ⟨hbb, by omega, Below.row qb.drew HB.out.2.1, q0, q1⟩ (by omega) HC.out
  · obtain ⟨q0, q1, qb⟩ := alloc2 (rfl : (w2.alloc (.cells #[.int .i64 k1, .string s1, .int .i64 vk1, .bool vb1, .int .i64 vn1, .string vs1, .slice none 0 0, .slice none 0 0, .slice kp1 n1 kc1, .slice np1 m1 nc1] 28)).alloc (.cells #[.int .i64 k0, .string s0, .int .i64 vk0, .bool vb0, .int .i64 vn0, .string vs0, .slice none 0 0, .slice none 0 0, .slice kp0 n0 kc0, .slice np0 m0 nc0] 28) = _)
    have hbb := (HB.out.1.trans (qb.mono HB.out.1.size)).drew
    exact HT.out _ (w.heap.size + 1) (w2.heap.size + 1) w2.heap.size _ _ _ _ _ _ _ _ _ _ _ _ _ _ _ _ _ _ _ _ _ _ _ _ _ _ _ _ _ _ _ _ _ _ _ _ _ _ _ _ _ _ _ _ _ _ _ _ _ _ _ _ _ _ cT hbb ⟨hbb, by omega, Below.row qb.drew HB.out.2.1, q1, q0⟩ (by omega) HC.out
end Go.Proofs.YtfemippjaokcmaaGreatDoor
